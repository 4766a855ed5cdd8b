/-
  weighbridgelaw07.TourSorts returns true for every input, and leaves its arguments as they were. No condition but that the arguments are values of their types.
-/
import Derived.Test.YtjblafpbffkapaaRows
import Derived.Test.YtjblafpbffkapaaTourT3
import Derived.Test.YtjblafpbffkapaaTourO
import Derived.WalkKit
import Derived.ProofKit
import Derived.OpenShut
import Derived.ChangeOld
import Derived.Below
namespace Go.Proofs.Ytjblafpbffkapaa.tourSorts
open Go.ChangeShapes Go.WideShapes Go.ChangeAt Go.RowKit
set_option linter.unusedVariables false
set_option linter.unusedSimpArgs false

/-- The items of the law: each leaf its own number. -/
def itm (z : Nat → Int) (k : Nat) : It := ⟨z k, (k : Int)⟩
theorem itm_ne (z : Nat → Int) : ∀ i j, i ≠ j → itm z i ≠ itm z j := fun i j h e => by
  injection e with _ e
  omega
set_option maxRecDepth 100000 in
set_option maxHeartbeats 8000000 in
theorem walk (a0 : Option Addr) (len0 cap0 : Nat) (z0 : Nat → Int) (w : World) (w0 : InInts .u64 w a0 len0 z0) :
    Calls Try.prog 7 #[.slice a0 len0 cap0] w fun e w' => e = .returned (.bool true) ∧ Below w.heap.size w w' := by
  have W0 := Lib.hid w0
  clear w0
  obtain ⟨n, en⟩ : ∃ n : Nat, min len0 16 = n := ⟨_, rfl⟩
  have hmin : (if (16 : Int) < (len0 : Int) then (16 : Int) else (len0 : Int)) = (n : Int) := by split <;> omega
  have hn16 : n ≤ 16 := by omega
  have hnl : n ≤ len0 := by omega
  have hN : clampM (n : Int) = max n 1 := by unfold clampM; omega
  clear en
  go_enter Try.func7, Try.ntmps7
  go_wp2_with fail
  refine (tNew _ (n : Int)).mono ?_
  rintro e v1 ⟨tb, rfl, ib, nb, h1, f1, o1⟩
  rw [hN] at h1
  obtain ⟨N, eN⟩ : ∃ N, N = max n 1 := ⟨_, rfl⟩
  rw [← eN] at h1
  have hnN : n ≤ N := by omega
  have hN16 : N ≤ 16 := by omega
  have NW : Hid (∀ k ∈ [ib, nb], w.heap.size ≤ k) := fun k hk => f1 k (by simp at hk ⊢; rcases hk with h | h <;> simp [h])
  have R1 := Lib.hid (And.intro h1 o1)
  clear h1 f1 o1 hN eN
  go_wp2_with fail
  refine (tAwake _).mono ?_
  rintro e v2 ⟨rfl, o2⟩
  have H2 : Hid (TourOf v2 tb ib nb N (fun k => decide (k < 0)) (itm z0) ∧ Only [] w v2) := ⟨(R1.out.1.only0 o2).congr (fun i hi => by simp) (fun i hi h => by cases h), R1.out.2.trans' o2⟩
  clear o2 R1
  go_wp2_with fail
  go_loopg [5] (n + 1) (fun gk si wr => ∃ p : Nat, si = .int .i64 (p : Int) ∧ p ≤ n ∧ n + 1 ≤ gk + p ∧ Hid (TourOf wr tb ib nb N (fun k => decide (k < p)) (itm z0) ∧ Only [] w wr))
  case atStart => exact ⟨0, rfl, by omega, by omega, H2⟩
  case round =>
    obtain ⟨p, rfl, hp, hg, hT⟩ := hrel
    clear H2
    by_cases hpn : p < n
    · have hpn' : (p : Int) < (n : Int) := by omega
      obtain ⟨hz, ad, rfl, hbw, q0⟩ := W0.out p (by omega)
      have r0 := hT.out.2.stay q0
      have hpl : (p : Int) < (len0 : Int) := by omega
      have ST := Lib.hid ((tSet wr tb ib nb N _ _ hT.out.1 (p : Int) ⟨z0 p, (p : Int)⟩).mono (fun e w' h => h.1 (by omega)))
      clear q0 hbw hz
      go_wp2_with fail
      refine ST.out.mono ?_
      rintro e u1 ⟨rfl, h1, o1⟩
      have H1 : Hid (TourOf u1 tb ib nb N (fun k => decide (k < p + 1)) (itm z0) ∧ Only [] w u1) := by
        have eq : ((p : Int)).toNat = p := Int.toNat_natCast p
        rw [eq] at h1
        refine ⟨h1.congr (fun i hi => ?_) (fun i hi hb => ?_), hT.out.2.trans o1 (fun k hk => .inr (NW.out k hk))⟩
        · by_cases e : i = p
          · rw [e, fup_same]; simp
          · rw [fup_other _ _ e]
            by_cases h5 : i < p
            · rw [decide_eq_true h5, decide_eq_true (by omega)]
            · rw [decide_eq_false h5, decide_eq_false (by omega)]
        · by_cases e : i = p
          · rw [e, fup_same]; rfl
          · rw [fup_other _ _ e]
      clear h1 o1 ST r0
      go_wp2_with fail
      go_roundg (n + 1 - (p + 1))
      case measure => omega
      case rel => exact ⟨p + 1, by simp, by omega, by omega, H1⟩
    · have hpn' : decide ((p : Int) < (n : Int)) = false := decide_eq_false (by omega)
      have hpn2 : ¬ ((p : Int) < (n : Int)) := by omega
      have hpe : p = n := by omega
      have H3 : Hid (TourOf wr tb ib nb N (fun k => decide (k < n)) (itm z0) ∧ Only [] w wr) := by rw [← hpe]; exact hT
      clear hpn hpe hT
      go_wp2_with fail
      obtain ⟨V, eV⟩ : ∃ V, wr.alloc (.cells #[.int .u64 0, .int .i64 0] 43) = V := ⟨_, rfl⟩
      obtain ⟨NL, eL⟩ : ∃ NL, wr.heap.size = NL := ⟨_, rfl⟩
      have hlt : Hid (∀ b ∈ [tb, ib, nb], b < NL) := by rw [← eL]; exact H3.out.1.lt
      have hwL : w.heap.size ≤ NL := by rw [← eL]; exact H3.out.2.size
      have H4 : Hid (TourOf V tb ib nb N (fun k => decide (k < n)) (itm z0) ∧ Only [] w V ∧ Box V NL ⟨0, 0⟩ ∧ cnt (fun k => decide (k < n)) N + 0 = n ∧ (0 < 0 → ∀ j, j < N → decide (j < n) = true → (⟨0, 0⟩ : It).lt (itm z0 j) = true) ∧ ∀ j, j < N → decide (j < n) = true → j < n) := by
        rw [← eV, ← eL]
        refine ⟨H3.out.1.only0 ((Only.refl [] _).alloc _), H3.out.2.alloc _, Box.new wr ⟨0, 0⟩, ?_, fun h => absurd h (by omega), fun j hj h => by simpa using h⟩
        rw [cnt_all]; omega
      rw [eV, eL]
      clear eV eL H3
      go_loopg [7] (n + 1) (fun gz si wy => ∃ (q : Nat) (hs : Nat → Bool) (x : It), si = .int .i64 (q : Int) ∧ q ≤ n ∧ n + 1 ≤ gz + q ∧ Hid (TourOf wy tb ib nb N hs (itm z0) ∧ Only [] w wy ∧ Box wy NL x ∧ cnt hs N + q = n ∧ (0 < q → ∀ j, j < N → hs j = true → x.lt (itm z0 j) = true) ∧ ∀ j, j < N → hs j = true → j < n))
      case atStart => exact ⟨0, _, _, rfl, by omega, by omega, H4⟩
      case round =>
        obtain ⟨q, hs, x, rfl, hq, hgz, hR⟩ := hrel
        clear H4
        by_cases hqn : q < n
        · have hqn' : (q : Int) < (n : Int) := by omega
          obtain ⟨i, hi, hbi, ei, hah⟩ := refBest_some (hs := hs) (g := itm z0) (n := N) (by have := hR.out.2.2.2.1; omega) (itm_ne z0)
          have hin : i < n := hR.out.2.2.2.2.2 i hi hbi
          have wi := tWin wr tb ib nb N _ _ hR.out.1
          rw [nodeM_one hN16, ei] at wi
          have q1 : winI (i : Int) = i := by unfold winI; rw [if_neg (by omega)]
          have q2 : winX (i : Int) (itm z0) = itm z0 i := by unfold winX; rw [if_neg (by omega), Int.toNat_natCast]
          have q3 : winB (i : Int) = true := by simp [winB]
          rw [q1, q2, q3] at wi
          change Calls _ _ _ _ (fun e w' => e = .returned (.tuple #[.int .i64 (i : Int), .agg #[.int .u64 (z0 i), .int .i64 (i : Int)], .bool true]) ∧ _) at wi
          have WI := Lib.hid wi
          have he := item_neqT ⟨z0 i, (i : Int)⟩ ⟨z0 i, (i : Int)⟩
          have hg2 := item_guard
          simp only [decide_true, Bool.not_true] at he
          obtain ⟨hz, ad, rfl, hbw, l0⟩ := W0.out i (by omega)
          have hi0 : decide ((i : Int) < 0) = false := decide_eq_false (by omega)
          have hin' : (i : Int) < (n : Int) := by omega
          have hin2 : ¬ ((n : Int) ≤ (i : Int)) := by omega
          have hin3 : decide (n ≤ i) = false := decide_eq_false (by omega)
          have hil : (i : Int) < (len0 : Int) := by omega
          have HAH := Lib.hid (And.intro hah (And.intro hi hbi))
          have L0 := Lib.hid (And.intro hbw l0)
          clear q1 q2 q3 wi hqn hah ei hbi hz hbw l0
          go_wp2_with fail
          refine WI.out.mono ?_
          rintro e u1 ⟨rfl, o1⟩
          obtain ⟨U, eU⟩ : ∃ U, u1.alloc (.cells #[.int .u64 (z0 i), .int .i64 (i : Int)] 43) = U := ⟨_, rfl⟩
          obtain ⟨NX, eX⟩ : ∃ NX, u1.heap.size = NX := ⟨_, rfl⟩
          have oU : Hid (Only [] wr U) := by rw [← eU]; exact o1.alloc _
          have bU : Hid (Box U NX ⟨z0 i, (i : Int)⟩) := by rw [← eU, ← eX]; exact Box.new u1 ⟨z0 i, (i : Int)⟩
          have hNLX : NL < NX := by rw [← eX]; exact (hR.out.2.2.1.only o1 (by simp)).lt
          have keep : Hid (∀ W, Only [ib, nb] U W → W.cell? ⟨NX, 0, none⟩ = some (.int .u64 (z0 i)) ∧ W.cell? ⟨NX, 1, none⟩ = some (.int .i64 (i : Int)) ∧ W.cell? ⟨NL, 0, none⟩ = some (.int .u64 x.k) ∧ W.cell? ⟨NL, 1, none⟩ = some (.int .i64 x.i) ∧ W.cell? (ad.add i) = some (.int .u64 (z0 i)) ∧ Box W NL x) := fun W o => by
            have n1 := hlt.out ib (by simp)
            have n2 := hlt.out nb (by simp)
            have m1 := NW.out ib (by simp)
            have m2 := NW.out nb (by simp)
            have bX := bU.out.only o (by simp; omega)
            have bL := (hR.out.2.2.1.only oU.out (by simp)).only o (by simp; omega)
            refine ⟨bX.c0, bX.c1, bL.c0, bL.c1, ?_, bL⟩
            have hw := L0.out.1
            have oo : Only [ib, nb] w W := ((hR.out.2.1.trans' oU.out).mono (T := [ib, nb]) (by simp)).trans' o
            rw [oo.cell hw (by simp; omega)]
            exact L0.out.2
          have un : Hid (∀ W, Only [] U W → Calls Try.prog 19 #[.pointer (some ⟨tb, 0, none⟩), .int .i64 (i : Int)] W fun e w' => e = .returned (.bool true) ∧ TourOf w' tb ib nb N (fup hs i false) (itm z0) ∧ Only [ib, nb] W w') := fun W o =>
            (tUnset W tb ib nb N _ _ ((hR.out.1.only0 oU.out).only0 o) (i : Int)).mono (fun e w' h => by
              have := h.1 (by omega)
              rw [Int.toNat_natCast] at this
              exact this)
          have fin : Hid (∀ u3, TourOf u3 tb ib nb N (fup hs i false) (itm z0) → Only [ib, nb] U u3 → TourOf ((u3.setCell ⟨NL, 0, none⟩ (.int .u64 (z0 i))).setCell ⟨NL, 1, none⟩ (.int .i64 (i : Int))) tb ib nb N (fup hs i false) (itm z0) ∧ Only [] w ((u3.setCell ⟨NL, 0, none⟩ (.int .u64 (z0 i))).setCell ⟨NL, 1, none⟩ (.int .i64 (i : Int))) ∧ Box ((u3.setCell ⟨NL, 0, none⟩ (.int .u64 (z0 i))).setCell ⟨NL, 1, none⟩ (.int .i64 (i : Int))) NL (itm z0 i) ∧ cnt (fup hs i false) N + (q + 1) = n ∧ (0 < q + 1 → ∀ j, j < N → fup hs i false j = true → (itm z0 i).lt (itm z0 j) = true) ∧ ∀ j, j < N → fup hs i false j = true → j < n) := fun u3 t3 o3 => by
            refine ⟨t3.only (S := [NL]) (((Only.refl [NL] u3).setCell (by simp) _).setCell (by simp) _) (fun b hb hc => ?_), ?_, (keep.out u3 o3).2.2.2.2.2.put _ _, ?_, fun _ => HAH.out.1, fun j hj hb => ?_⟩
            · have := hlt.out b hb
              simp at hc
              omega
            · exact (((hR.out.2.1.trans' oU.out).trans o3 (fun k hk => .inr (NW.out k hk))).setCell (.inr hwL) _).setCell (.inr hwL) _
            · have h5 := cnt_off HAH.out.2.2 HAH.out.2.1
              have h6 := hR.out.2.2.2.1
              omega
            · by_cases e : j = i
              · rw [e]; exact hin
              · rw [fup_other _ _ e] at hb
                exact hR.out.2.2.2.2.2 j hj hb
          obtain ⟨c0, c1, c2, c3, c4, -⟩ := keep.out U (Only.refl _ _)
          clear o1 WI
          by_cases hq0 : 0 < q
          · have hq0' : (0 : Int) < (q : Int) := by omega
            have hq3 : decide ((0 : Int) < (q : Int)) = true := decide_eq_true hq0'
            have hq4 : decide (0 < q) = true := decide_eq_true hq0
            have ah := rahead_only x ⟨z0 i, (i : Int)⟩
            have hlt2 : x.lt ⟨z0 i, (i : Int)⟩ = true := hR.out.2.2.2.2.1 hq0 i HAH.out.2.1 HAH.out.2.2
            rw [hlt2] at ah
            have AH := Lib.hid ah
            clear ah hlt2 hq0
            go_wp2_with (simp only [eU, eX])
            (try simp only [eU, eX])
            clear eU eX
            go_region_held3 (fun w' => w'.cell? ⟨NX, 0, none⟩ = some (.int .u64 (z0 i)) ∧ w'.cell? ⟨NX, 1, none⟩ = some (.int .i64 (i : Int)) ∧ w'.cell? ⟨NL, 0, none⟩ = some (.int .u64 x.k) ∧ w'.cell? ⟨NL, 1, none⟩ = some (.int .i64 x.i) ∧ w'.cell? (ad.add i) = some (.int .u64 (z0 i)))
              (first | go_keep | (exact ⟨s0, s1, s2, s3, s4⟩) | (exact ⟨e0, e1, e2, e3, e4⟩))
              (first
                | (go_at_call 16; refine (AH.out _).mono ?_; rintro e u2 ⟨rfl, o2⟩; have oA := (Only.refl [] U).drew.trans' o2; obtain ⟨s0, s1, s2, s3, s4, -⟩ := keep.out u2 (oA.mono (T := [ib, nb]) (by simp)); have OA := Lib.hid oA; clear o2 oA)
                | (go_at_call 19; refine (un.out _ OA.out).mono ?_; rintro e u3 ⟨rfl, t3, o3⟩; have O3 := Lib.hid (And.intro t3 ((OA.out.mono (T := [ib, nb]) (by simp)).trans' o3)); obtain ⟨e0, e1, e2, e3, e4, bL⟩ := keep.out u3 O3.out.2; have f0 := bL.fr 0; have f1 := bL.fr 1; clear t3 o3 bL))
            all_goals
              go_wp2_with fail
              go_roundg (n + 1 - (q + 1))
              case measure => omega
              case rel => exact ⟨q + 1, _, _, by simp, by omega, by omega, fin.out u3 O3.out.1 O3.out.2⟩
          · have hq0' : decide ((0 : Int) < (q : Int)) = false := decide_eq_false (by omega)
            have hq2 : ¬ ((0 : Int) < (q : Int)) := by omega
            have hq4 : decide (0 < q) = false := decide_eq_false hq0
            clear hq0
            go_wp2_with (simp only [eU, eX])
            (try simp only [eU, eX])
            clear eU eX
            go_still_tail 34, (by kernel_rfl)
            change wpList _ _ _ _ _ U.drew
            go_wp2_with (go_at_call 19; refine (un.out _ (Only.refl [] U).drew).mono ?_; rintro e u3 ⟨rfl, t3, o3⟩; have O3 := Lib.hid (And.intro t3 ((Only.refl [ib, nb] U).drew.trans' o3)); obtain ⟨e0, e1, e2, e3, -, bL⟩ := keep.out u3 O3.out.2; have f0 := bL.fr 0; have f1 := bL.fr 1; clear t3 o3 bL)
            go_roundg (n + 1 - (q + 1))
            case measure => omega
            case rel => exact ⟨q + 1, _, _, by simp, by omega, by omega, fin.out u3 O3.out.1 O3.out.2⟩
        · have hqn' : decide ((q : Int) < (n : Int)) = false := decide_eq_false (by omega)
          have hqn2 : ¬ ((q : Int) < (n : Int)) := by omega
          have wi := tWin wr tb ib nb N _ _ hR.out.1
          rw [nodeM_one hN16, refBest_none (cnt_zero (by have := hR.out.2.2.2.1; omega))] at wi
          have q1 : winI (-1) = 0 := rfl
          have q2 : winX (-1) (itm z0) = ⟨0, 0⟩ := rfl
          have q3 : winB (-1) = false := rfl
          rw [q1, q2, q3] at wi
          have WI := Lib.hid wi
          clear q1 q2 q3 wi hqn
          go_wp2_with fail
          refine WI.out.mono ?_
          rintro e u1 ⟨rfl, o1⟩
          have O1 : Hid (Only [] wr (u1.alloc (.cells #[.int .u64 0, .int .i64 0] 43))) := o1.alloc _
          clear o1
          go_wp2_with fail
          go_ret
          exact ⟨by simp, (hR.out.2.1.trans' O1.out).below (Nat.le_refl _) (by simp)⟩

/-! ### The step from the walk to the statement -/
set_option maxRecDepth 100000 in
theorem lifted (os : Os) (started : os.Started) (H : Type) (enc : TypeId × Value → H) :
    ReturnsInHanded {} Try.checked os 7 .any (Rows.tourSortsSpec.pre6 enc Try.prog Try.f7 Rows.tourSortsRow.domain false) (Rows.tourSortsSpec.post enc Try.prog Try.f7 false true false false) := by
  refine returnsInHanded_of_change (C := Try.checked) own started (by kernel_rfl) Try.func7
    (ChangeSpec.witness6 (enc := enc) (C := Try.checked) false ⟨#[], #[.slice none 0 0], []⟩ 8 (by kernel_rfl) (by kernel_rfl) (by kernel_rfl) (by kernel_rfl)) ?_
  intro W base args ds gs before hval0 hW hcnd _
  have hval : ∀ (j : Nat) t v, Try.f7.params[j]? = some t → args[j]? = some v → Value.okWide Try.prog W .any base t v := hval0
  have hW' := hW
  obtain ⟨p, q, hA0, hV, rfl, hfz, hnd⟩ := hW
  have hA : DataW.TrodAll enc Try.prog W 0 (fun _ => true) true Try.f7.params.toList args.toList ds p := hA0
  rw [Try.params7] at hA hval
  obtain ⟨v0, vs0, d0, ds0, p0, q0, hargs, rfl, rfl, h0, r0⟩ := trodAll_cons hA
  obtain ⟨rfl, rfl, rfl⟩ := trodAll_nil r0
  obtain rfl : args = #[v0] := by cases args; simp_all
  obtain ⟨rfl, rfl⟩ := trodVars_none hV
  obtain ⟨a0, len0, cap0, rfl⟩ := okWide_slice Try.underlying48 (hval 0 48 v0 rfl rfl)
  have k0 := h0
  have lt0 : ∀ x ∈ p0, x.block < W.heap.size := by obtain ⟨m, hm⟩ := k0; exact DataW.trod_lt m _ _ _ hm
  obtain ⟨z0, w0⟩ : ∃ z, InInts .u64 W a0 len0 z := by
    obtain ⟨fuel, hf⟩ := h0
    exact open_nums Try.underlying48 Try.underlying35 (by kernel_rfl) hf
  clear hA0 hval0
  refine (walk a0 len0 cap0 z0 W w0).mono fun e W' ⟨he, bel⟩ => ?_
  subst he
  exact ⟨_, rfl, _, _, _, [], _, [], hW', trodAll_mk1 (shut_bool Try.underlying4 _), (trodAll_cons_mk (Below.trod laidOut (by kernel_rfl) (of_decide_eq_true (by kernel_rfl)) k0 bel lt0) trodAll_mk0), rfl, bel.frame _, fun h => by cases h⟩

theorem over : Rows.tourSortsRow.holds Try.pinned (OpenSpec.ofChange Rows.tourSortsSpec) :=
  OpenClaim.holds_of_wide 7 Try.f7 rfl rfl rfl rfl rfl rfl rfl ⟨rfl, rfl, rfl, rfl, rfl⟩ rfl rfl rfl rfl rfl (by kernel_rfl) Try.func7 (by kernel_rfl)
    (of_decide_eq_true (by kernel_rfl)) (by unfold Func.isWrapper; first | (rw [if_pos (by decide +kernel)]; kernel_rfl) | (rw [if_neg (by decide +kernel)]; exact ⟨rfl, rfl⟩))
    (fun os started H enc _ => lifted os started H enc)

/-- The statement. -/
theorem proved : Rows.TourSortsSaid := over
#print axioms proved
end Go.Proofs.Ytjblafpbffkapaa.tourSorts
