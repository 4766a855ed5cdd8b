/-
  weighbridgelaw07.TourTies returns true for every input, and leaves its arguments as they were. No condition but that the arguments are values of their types.
-/
import Derived.Test.YtjblafpbffkapaaRows
import Derived.Test.YtjblafpbffkapaaTourT3
import Derived.Test.YtjblafpbffkapaaTourO
import Derived.WalkKit
import Derived.ProofKit
import Derived.OpenShut
import Derived.ChangeOld
import Derived.Below
namespace Go.Proofs.Ytjblafpbffkapaa.tourTies
open Go.ChangeShapes Go.WideShapes Go.ChangeAt Go.RowKit
set_option linter.unusedVariables false
set_option linter.unusedSimpArgs false

set_option maxRecDepth 100000 in
set_option maxHeartbeats 8000000 in
theorem walk (a0 : Int) (k1 i1 : Int) (w : World) (w0 : (Lit.int .i64 a0).wf = true) (wk1 : (Lit.int .u64 k1).wf = true) (wi1 : (Lit.int .i64 i1).wf = true) :
    Calls Try.prog 6 #[.int .i64 a0, .agg #[.int .u64 k1, .int .i64 i1]] w fun e w' => e = .returned (.bool true) ∧ Below w.heap.size w w' := by
  have oB : Only [] w (w.alloc (.cells #[.int .u64 k1, .int .i64 i1] 43)) := (Only.refl [] w).alloc _
  have bB : Box (w.alloc (.cells #[.int .u64 k1, .int .i64 i1] 43)) w.heap.size ⟨k1, i1⟩ := Box.new w ⟨k1, i1⟩
  have HB := Lib.hid (And.intro oB bB)
  clear oB bB wk1 wi1
  go_enter Try.func6, Try.ntmps6
  go_wp2_with fail
  refine (tMade_sound a0 _).mono ?_
  rintro e v1 ⟨tb, xb, rfl, ib, nb, hb, yb, n, h1⟩
  have H1 := Lib.hid h1
  have hn := h1.pair.n16
  clear h1
  go_wp2_with fail
  refine (tAwake _).mono ?_
  rintro e v2 ⟨rfl, o2⟩
  have H2 := Lib.hid (H1.out.only0 o2)
  have O2 : Hid (Only [] w v2) := HB.out.1.trans' (H1.out.only.trans' o2)
  have B2 : Hid (Box v2 w.heap.size ⟨k1, i1⟩) := HB.out.2.only (H1.out.only.trans' o2) (by simp)
  have T2 : Hid (TourOf v2 tb ib nb n (fun k => decide (n ≤ k)) (fun _ => ⟨k1, i1⟩)) := by
    refine H2.out.pair.ours.congr (fun i hi => ?_) (fun i hi h => by cases h)
    simp; omega
  have N1 : w.heap.size ∉ [ib, nb] := by
    have h8 := H2.out.new
    simp at h8 ⊢
    omega
  have N2 : xb ∉ [ib, nb] := fun hc => H2.out.pair.ap xb (by simp at hc ⊢; rcases hc with h | h <;> simp [h]) (by simp)
  have NW : Hid (∀ k ∈ [ib, nb], w.heap.size ≤ k) := fun k hk => by
    have h8 := H2.out.new
    simp at h8 hk
    rcases hk with rfl | rfl <;> omega
  have keep : Hid (∀ W, Only [ib, nb] v2 W → W.cell? ⟨xb, 0, none⟩ = some (.slice (some ⟨hb, 0, none⟩) n n) ∧ W.cell? ⟨w.heap.size, 0, none⟩ = some (.int .u64 k1) ∧ W.cell? ⟨w.heap.size, 1, none⟩ = some (.int .i64 i1)) := fun W o => by
    have bX := B2.out.only o N1
    refine ⟨?_, bX.c0, bX.c1⟩
    rw [o.cell (H2.out.pair.lt xb (by simp)) N2]
    exact H2.out.c0
  have c0 := (keep.out v2 (Only.refl _ _)).1
  clear H1 o2 N1 N2 HB
  go_wp2_with fail
  clear c0
  go_loopg [7] (n + 1) (fun gk si wr => ∃ p : Nat, si = .int .i64 ((p : Int) - 1) ∧ p ≤ n ∧ p ≤ gk ∧ Hid (TourOf wr tb ib nb n (fun k => decide (p ≤ k)) (fun _ => ⟨k1, i1⟩) ∧ Only [ib, nb] v2 wr))
  case atStart => exact ⟨n, by simp, by omega, by omega, T2.out, Only.refl _ _⟩
  case round =>
    obtain ⟨p, rfl, hp, hg, hT⟩ := hrel
    clear T2
    by_cases h0 : 0 < p
    · obtain ⟨-, b0, b1⟩ := keep.out wr hT.out.2
      have hge : (0 : Int) ≤ (p : Int) - 1 := by omega
      have st := (tSet wr tb ib nb n _ _ hT.out.1 ((p : Int) - 1) ⟨k1, i1⟩).mono (fun e w' h => h.1 (by omega))
      have ST := Lib.hid st
      clear st
      go_wp2_with fail
      refine ST.out.mono ?_
      rintro e u1 ⟨rfl, h1, o1⟩
      have H1 : Hid (TourOf u1 tb ib nb n (fun k => decide (p - 1 ≤ k)) (fun _ => ⟨k1, i1⟩) ∧ Only [ib, nb] v2 u1) := by
        have eq : ((p : Int) - 1).toNat = p - 1 := by omega
        rw [eq] at h1
        refine ⟨h1.congr (fun i hi => ?_) (fun i hi hb => ?_), hT.out.2.trans' o1⟩
        · by_cases e : i = p - 1
          · rw [e, fup_same]; simp
          · rw [fup_other _ _ e]
            by_cases h5 : p ≤ i
            · rw [decide_eq_true h5, decide_eq_true (by omega)]
            · rw [decide_eq_false h5, decide_eq_false (by omega)]
        · by_cases e : i = p - 1
          · rw [e, fup_same]
          · rw [fup_other _ _ e]
      clear h1 o1 ST
      go_wp2_with fail
      go_roundg (p - 1)
      case measure => omega
      case rel => exact ⟨p - 1, by simp; omega, by omega, by omega, H1⟩
    · have hp0 : p = 0 := by omega
      subst hp0
      go_wp2_with fail
      go_loopg [8] (n + 1) (fun gz si wy => ∃ q : Nat, si = .int .i64 (q : Int) ∧ q ≤ n ∧ n + 1 ≤ gz + q ∧ Hid (TourOf wy tb ib nb n (fun k => decide (q ≤ k)) (fun _ => ⟨k1, i1⟩) ∧ Only [] w wy ∧ Only [ib, nb] v2 wy))
      case atStart => exact ⟨0, rfl, by omega, by omega, hT.out.1, O2.out.trans hT.out.2 (fun k hk => .inr (NW.out k hk)), hT.out.2⟩
      case round =>
        obtain ⟨q, rfl, hq, hgz, hR⟩ := hrel
        obtain ⟨c0, b0, b1⟩ := keep.out wr hR.out.2.2
        have wi := tWin wr tb ib nb n _ _ hR.out.1
        rw [nodeM_one hn.2, refBest_ties] at wi
        by_cases hqn : q < n
        · have hqn' : (q : Int) < (n : Int) := by omega
          rw [if_pos hqn] at wi
          have q1 : winI (q : Int) = q := by unfold winI; rw [if_neg (by omega)]
          have q2 : winX (q : Int) (fun _ => (⟨k1, i1⟩ : It)) = ⟨k1, i1⟩ := by unfold winX; rw [if_neg (by omega)]
          have q3 : winB (q : Int) = true := by simp [winB]
          rw [q1, q2, q3] at wi
          have WI := Lib.hid wi
          have he := item_neqT ⟨k1, i1⟩ ⟨k1, i1⟩
          have hg2 := item_guard
          simp only [decide_true, Bool.not_true] at he
          clear q1 q2 q3 wi hqn
          go_wp2_with fail
          refine WI.out.mono ?_
          rintro e u1 ⟨rfl, o1⟩
          have bX := Box.new u1 ⟨k1, i1⟩
          have o2 : Only [] wr (u1.alloc (.cells #[.int .u64 k1, .int .i64 i1] 43)) := o1.alloc _
          have un := (tUnset _ tb ib nb n _ _ (hR.out.1.only0 o2) (q : Int)).mono (fun e w' h => h.1 (by omega))
          have oo1 := hR.out.2.2.trans' (o1.mono (T := [ib, nb]) (by simp))
          obtain ⟨-, d0, d1⟩ := keep.out _ (hR.out.2.2.trans' (o2.mono (T := [ib, nb]) (by simp)))
          obtain ⟨-, f0, f1⟩ := keep.out _ oo1
          have hws : w.heap.size < u1.heap.size := World.block_lt_of_cell? u1 ⟨w.heap.size, 0, none⟩ f0
          have UN := Lib.hid un
          have OX := Lib.hid o2
          clear un o1 o2 bX oo1 WI
          go_wp2_with fail
          refine UN.out.mono ?_
          rintro e u2 ⟨rfl, h2, o3⟩
          have H2' : Hid (TourOf u2 tb ib nb n (fun k => decide (q + 1 ≤ k)) (fun _ => ⟨k1, i1⟩) ∧ Only [] w u2 ∧ Only [ib, nb] v2 u2) := by
            have eq : ((q : Int)).toNat = q := Int.toNat_natCast q
            rw [eq] at h2
            refine ⟨h2.congr (fun i hi => ?_) (fun i hi hb => rfl), (hR.out.2.1.trans' OX.out).trans o3 (fun k hk => .inr (NW.out k hk)), (hR.out.2.2.trans' (OX.out.mono (T := [ib, nb]) (by simp))).trans' o3⟩
            by_cases e : i = q
            · rw [e, fup_same]; simp
            · rw [fup_other _ _ e]
              by_cases h5 : q ≤ i
              · rw [decide_eq_true h5, decide_eq_true (by omega)]
              · rw [decide_eq_false h5, decide_eq_false (by omega)]
          clear h2 o3 UN
          go_wp2_with fail
          go_roundg (n + 1 - (q + 1))
          case measure => omega
          case rel => exact ⟨q + 1, by simp, by omega, by omega, H2'⟩
        · have hqn' : decide ((q : Int) < (n : Int)) = false := decide_eq_false (by omega)
          have hqn2 : ¬ ((q : Int) < (n : Int)) := by omega
          rw [if_neg hqn] at wi
          have q1 : winI (-1) = 0 := rfl
          have q2 : winX (-1) (fun _ => (⟨k1, i1⟩ : It)) = ⟨0, 0⟩ := rfl
          have q3 : winB (-1) = false := rfl
          rw [q1, q2, q3] at wi
          have nd : Hid (∀ W, Only [] wr W → Calls Try.prog 14 #[.pointer (some ⟨tb, 0, none⟩), .int .i64 1] W fun e w' => e = .returned (.int .i64 (-1)) ∧ w' = W) := fun W o => by
            have := tNode W tb ib nb n _ _ (hR.out.1.only0 o) 1 (i64ok_of (by omega))
            rw [nodeM_one hn.2, refBest_ties, if_neg hqn] at this
            exact this
          have WI := Lib.hid wi
          clear q1 q2 q3 wi hqn
          go_wp2_with fail
          refine WI.out.mono ?_
          rintro e u1 ⟨rfl, o1⟩
          have O1 : Hid (Only [] wr (u1.alloc (.cells #[.int .u64 0, .int .i64 0] 43))) := o1.alloc _
          clear o1
          go_wp2_with fail
          refine (nd.out _ O1.out).mono ?_
          rintro e u2 ⟨rfl, rfl⟩
          go_wp2_with fail
          go_ret
          exact ⟨by simp, (hR.out.2.1.trans' O1.out).below (Nat.le_refl _) (by simp)⟩

/-! ### The step from the walk to the statement -/
set_option maxRecDepth 100000 in
theorem lifted (os : Os) (started : os.Started) (H : Type) (enc : TypeId × Value → H) :
    ReturnsInHanded {} Try.checked os 6 .any (Rows.tourTiesSpec.pre6 enc Try.prog Try.f6 Rows.tourTiesRow.domain false) (Rows.tourTiesSpec.post enc Try.prog Try.f6 false true false false) := by
  refine returnsInHanded_of_change (C := Try.checked) own started (by kernel_rfl) Try.func6
    (ChangeSpec.witness6 (enc := enc) (C := Try.checked) false ⟨#[], #[.int .i64 0, .agg #[.int .u64 0, .int .i64 0]], []⟩ 8 (by kernel_rfl) (by kernel_rfl) (by kernel_rfl) (by kernel_rfl)) ?_
  intro W base args ds gs before hval0 hW hcnd _
  have hval : ∀ (j : Nat) t v, Try.f6.params[j]? = some t → args[j]? = some v → Value.okWide Try.prog W .any base t v := hval0
  have hW' := hW
  obtain ⟨p, q, hA0, hV, rfl, hfz, hnd⟩ := hW
  have hA : DataW.TrodAll enc Try.prog W 0 (fun _ => true) true Try.f6.params.toList args.toList ds p := hA0
  rw [Try.params6] at hA hval
  obtain ⟨v0, vs0, d0, ds0, p0, q0, hargs, rfl, rfl, h0, r0⟩ := trodAll_cons hA
  obtain ⟨v1, vs1, d1, ds1, p1, q1, rfl, rfl, rfl, h1, r1⟩ := trodAll_cons r0
  obtain ⟨rfl, rfl, rfl⟩ := trodAll_nil r1
  obtain rfl : args = #[v0, v1] := by cases args; simp_all
  obtain ⟨rfl, rfl⟩ := trodVars_none hV
  obtain ⟨a0, rfl, rfl, rfl, w0⟩ := open_int Try.underlying3 (hval 0 3 v0 rfl rfl) h0
  obtain ⟨c0, c1, y0, y1, m, rfl, rfl, rfl, hy0, hy1⟩ := Joins.open_agg2 Try.underlying43 (by kernel_rfl) cellsItem (hval 1 43 v1 rfl rfl) h1
  obtain ⟨k1, e0, rfl, wk1⟩ := DataW.trod_int Try.underlying35 hy0
  obtain ⟨i1, e1, rfl, wi1⟩ := DataW.trod_int Try.underlying3 hy1
  simp at e0 e1
  subst e0 e1
  clear hA0 hval0
  refine (walk a0 k1 i1 W w0 wk1 wi1).mono fun e W' ⟨he, bel⟩ => ?_
  subst he
  exact ⟨_, rfl, _, _, _, [], _, [], hW', trodAll_mk1 (shut_bool Try.underlying4 _), (trodAll_cons_mk (shut_int Try.underlying3 w0) (trodAll_cons_mk (reads_item wk1 wi1 _ _ _) trodAll_mk0)), rfl, bel.frame _, fun h => by cases h⟩

theorem over : Rows.tourTiesRow.holds Try.pinned (OpenSpec.ofChange Rows.tourTiesSpec) :=
  OpenClaim.holds_of_wide 6 Try.f6 rfl rfl rfl rfl rfl rfl rfl ⟨rfl, rfl, rfl, rfl, rfl⟩ rfl rfl rfl rfl rfl (by kernel_rfl) Try.func6 (by kernel_rfl)
    (of_decide_eq_true (by kernel_rfl)) (by unfold Func.isWrapper; first | (rw [if_pos (by decide +kernel)]; kernel_rfl) | (rw [if_neg (by decide +kernel)]; exact ⟨rfl, rfl⟩))
    (fun os started H enc _ => lifted os started H enc)

/-- The statement. -/
theorem proved : Rows.TourTiesSaid := over
#print axioms proved
end Go.Proofs.Ytjblafpbffkapaa.tourTies
