/-
  weighbridgelaw07.TourUp returns true for every input, and leaves its arguments as they were. No condition but that the arguments are values of their types.
-/
import Derived.Test.YtjblafpbffkapaaRows
import Derived.Test.YtjblafpbffkapaaTourT3
import Derived.Test.YtjblafpbffkapaaTourO
import Derived.WalkKit
import Derived.ProofKit
import Derived.OpenShut
import Derived.ChangeOld
import Derived.Below
namespace Go.Proofs.Ytjblafpbffkapaa.tourUp
open Go.ChangeShapes Go.WideShapes Go.ChangeAt Go.RowKit
set_option linter.unusedVariables false
set_option linter.unusedSimpArgs false

set_option maxRecDepth 100000 in
set_option maxHeartbeats 8000000 in
theorem walk (a0 : Int) (a1 : Option Addr) (len1 cap1 : Nat) (z1 : Nat → Dd) (w : World) (w0 : (Lit.int .i64 a0).wf = true) (w1 : InDeeds w a1 len1 z1) :
    Calls Try.prog 5 #[.int .i64 a0, .slice a1 len1 cap1] w fun e w' => e = .returned (.bool true) ∧ Below w.heap.size w w' := by
  have W1 := Lib.hid w1
  clear w1
  go_enter Try.func5, Try.ntmps5
  go_wp2_with fail
  refine (tMade_sound a0 _).mono ?_
  rintro e v1 ⟨tb, xb, rfl, ib, nb, hb, yb, n, h1⟩
  have hn := h1.pair.n16
  have H1 := Lib.hid h1
  clear h1
  go_wp2_with fail
  refine (tAwake _).mono ?_
  rintro e v2 ⟨rfl, o2⟩
  have H2 := Lib.hid (H1.out.only0 o2)
  clear H1 o2
  go_wp2_with fail
  go_loopg [7] (len1 + 1) (fun gk si wr => ∃ (p : Nat) (hs : Nat → Bool) (g : Nat → It), si = .int .i64 (p : Int) ∧ p ≤ len1 ∧ p ≤ 60 ∧ len1 + 1 ≤ gk + p ∧ Hid (TSound w wr tb ib nb xb hb yb n hs g))
  case atStart => exact ⟨0, _, _, rfl, by omega, by omega, by omega, H2⟩
  case round =>
    obtain ⟨p, hs, g, rfl, hp, hp80, hg, hS⟩ := hrel
    clear H2
    by_cases hc : p < len1 ∧ p < 60
    · have c1 : (p : Int) < (len1 : Int) := by omega
      have c2 : (p : Int) < 60 := by omega
      obtain ⟨hdok, ad, b, o, s, rfl, hadd, hbw, q0, q1, q2⟩ := W1.out p hc.1
      obtain ⟨d, ed⟩ : ∃ d, z1 p = d := ⟨_, rfl⟩
      rw [ed] at q0 q1 q2 hdok
      have r0 := hS.out.only.stay q0
      have r1 := hS.out.only.stay q1
      have r2 := hS.out.only.stay q2
      have hst := Lib.hid (hS.out.step d hdok wr (Only.refl _ _))
      have hpl : p + 1 ≤ len1 ∧ p + 1 ≤ 60 := by omega
      clear q0 q1 q2 ed hbw hc
      go_wp2_with fail
      refine hst.out.mono ?_
      rintro e u1 ⟨rfl, ⟨hs2, g2, h2⟩, -⟩
      have H2 := Lib.hid h2
      clear h2 r0 r1 r2 hst
      go_wp2_with fail
      go_roundg (len1 + 1 - (p + 1))
      case measure => omega
      case rel => exact ⟨p + 1, hs2, g2, by simp, by omega, by omega, by omega, H2⟩
    · have c0 := hS.out.c0
      have hs16 := (sz_Sz n).le
      have hcd : (decide ((p : Int) < (len1 : Int)) = false ∧ ¬ ((p : Int) < (len1 : Int))) ∨ ((p : Int) < (len1 : Int) ∧ decide ((p : Int) < 60) = false) := by
        have hce : ¬ p < len1 ∨ (p < len1 ∧ ¬ p < 60) := by omega
        rcases hce with h9 | h9
        · exact .inl ⟨decide_eq_false (by omega), by omega⟩
        · exact .inr ⟨by omega, decide_eq_false (by omega)⟩
      clear hc hp
      rcases hcd with ⟨c1, c2⟩ | ⟨c1, c2⟩
      all_goals
        go_wp2_with fail
        go_loopg [8] 17 (fun gz sz' wy => ∃ r : Nat, sz' = .int .i64 (r : Int) ∧ r ≤ 16 ∧ 17 ≤ gz + r ∧ 1 ≤ r ∧ Hid (Sz r ∧ r ≤ sz n) ∧ wy = wr)
        case atStart => exact ⟨1, rfl, by omega, by omega, by omega, ⟨by simp [Sz], hs16.1⟩, rfl⟩
        case round =>
          obtain ⟨r, rfl, hr, hgr, hr1, HS, rfl⟩ := hrel
          by_cases hl : r < n
          · have hl' : (r : Int) < (n : Int) := by omega
            have hm := sz_more hn.2 HS.out.1 HS.out.2 hl
            have h2p : 2 * r ≤ 16 := hm.1.le.2
            have HM := Lib.hid hm
            clear hm hl
            go_wp2_with fail
            go_roundg (17 - 2 * r)
            case measure => omega
            case rel => exact ⟨2 * r, by simp, h2p, by omega, by omega, HM.out, rfl⟩
          · have hl' : decide ((r : Int) < (n : Int)) = false := decide_eq_false (by omega)
            have hl3 : ¬ ((r : Int) < (n : Int)) := by omega
            have he := Lib.hid (sz_done hn.2 HS.out.1 HS.out.2 hl)
            clear hl HS
            go_wp2_with fail
            clear c0
            go_loopg [9] (r + 1) (fun gy sk wx => ∃ k : Nat, sk = .int .i64 (k : Int) ∧ 1 ≤ k ∧ k ≤ r ∧ r + 1 ≤ gy + k ∧ Hid (TSound w wx tb ib nb xb hb yb n hs g))
            case atStart => exact ⟨1, rfl, by omega, by omega, by omega, hS⟩
            case round =>
              obtain ⟨k, rfl, hk1, hkr, hgy, hT⟩ := hrel
              by_cases hkr2 : k < r
              · have hkr3 : (k : Int) < (r : Int) := by omega
                have x1 := hT.out.c1
                have up := hT.out.pair.ours.up hk1 (by rw [← he.out]; exact hkr2)
                have ka := Lib.hid (hT.out.node (k : Int) (i64ok_of (by omega)) wr (Only.refl _ _))
                have kb := Lib.hid (hT.out.node (2 * (k : Int)) (i64ok_of (by omega)) wr (Only.refl _ _))
                have kc := Lib.hid (hT.out.node (2 * (k : Int) + 1) (i64ok_of (by omega)) wr (Only.refl _ _))
                have rb := nodeM_range n hs g (2 * (k : Int))
                have rc := nodeM_range n hs g (2 * (k : Int) + 1)
                generalize nodeM n hs g (k : Int) = A at *
                generalize nodeM n hs g (2 * (k : Int)) = B at *
                generalize nodeM n hs g (2 * (k : Int) + 1) = C at *
                have UP := Lib.hid up
                clear hkr2 up
                go_wp2_with fail
                refine ka.out.mono ?_
                rintro e wa ⟨rfl, rfl⟩
                go_wp2_with fail
                refine kb.out.mono ?_
                rintro e wa ⟨rfl, rfl⟩
                go_wp2_with fail
                refine kc.out.mono ?_
                rintro e wa ⟨rfl, rfl⟩
                clear ka kb kc
                rcases rb with rfl | ⟨i, hi, hbi, rfl⟩
                · have eA : A = C := by rw [UP.out]; simp [bet]
                  subst eA
                  clear UP rc
                  go_wp2_with fail
                  go_quiet (fail)
                  go_wp2_with fail
                  go_roundg (r + 1 - (k + 1))
                  case measure => omega
                  case rel => exact ⟨k + 1, by simp, by omega, by omega, by omega, hT.out.only0 ((Only.refl [] _).drewN _)⟩
                · have i0 : decide ((i : Int) < 0) = false := decide_eq_false (by omega)
                  have hi' : (i : Int) < (n : Int) := by omega
                  rcases rc with rfl | ⟨j, hj, hbj, rfl⟩
                  · have eA : A = (i : Int) := by rw [UP.out]; simp [bet]
                    subst eA
                    clear UP
                    go_wp2_with fail
                    go_quiet (fail)
                    go_wp2_with fail
                    go_roundg (r + 1 - (k + 1))
                    case measure => omega
                    case rel => exact ⟨k + 1, by simp, by omega, by omega, by omega, hT.out.only0 ((Only.refl [] _).drewN _)⟩
                  · have j0 : decide ((0 : Int) ≤ (j : Int)) = true := decide_eq_true (by omega)
                    have hj' : (j : Int) < (n : Int) := by omega
                    obtain ⟨y0, y1⟩ := hT.out.it hi hbi
                    obtain ⟨z0, z2⟩ := hT.out.it hj hbj
                    obtain ⟨y, ey⟩ : ∃ y, g i = y := ⟨_, rfl⟩
                    obtain ⟨x, ex⟩ : ∃ x, g j = x := ⟨_, rfl⟩
                    rw [ey] at y0 y1
                    rw [ex] at z0 z2
                    have hah := rahead_only x y
                    have eA : A = if x.lt y = true then (j : Int) else (i : Int) := by
                      rw [UP.out]
                      unfold bet
                      rw [Int.toNat_natCast, Int.toNat_natCast, ex, ey]
                      rcases hl : x.lt y with _ | _
                      · rw [if_neg (by rintro (h3 | h3); omega; exact absurd h3.2 (by simp)), if_neg (by simp)]
                      · rw [if_pos (.inr ⟨by omega, rfl⟩), if_pos rfl]
                    clear UP ex ey
                    rcases hl : x.lt y with _ | _
                    · rw [hl, if_neg (by simp)] at eA
                      subst eA
                      rw [hl] at hah
                      clear hl
                      go_wp2_with fail
                      go_still_tail 38, (by kernel_rfl)
                      go_wp2_with (go_at_call 16; refine (hah _).mono ?_; rintro e wq ⟨rfl, ho⟩; have HO2 := Lib.hid (hT.out.only0 ((Only.refl [] _).drew.trans' ho)); clear ho)
                      go_roundg (r + 1 - (k + 1))
                      case measure => omega
                      case rel => exact ⟨k + 1, by simp, by omega, by omega, by omega, HO2⟩
                    · rw [hl, if_pos rfl] at eA
                      subst eA
                      rw [hl] at hah
                      clear hl
                      go_wp2_with fail
                      go_still_tail 38, (by kernel_rfl)
                      go_wp2_with (go_at_call 16; refine (hah _).mono ?_; rintro e wq ⟨rfl, ho⟩; have HO2 := Lib.hid (hT.out.only0 ((Only.refl [] _).drew.trans' ho)); clear ho)
                      go_roundg (r + 1 - (k + 1))
                      case measure => omega
                      case rel => exact ⟨k + 1, by simp, by omega, by omega, by omega, HO2⟩
              · have hkr3 : decide ((k : Int) < (r : Int)) = false := decide_eq_false (by omega)
                have hkr4 : ¬ ((k : Int) < (r : Int)) := by omega
                have wi := tWin wr tb ib nb n hs g hT.out.pair.ours
                have r1 := nodeM_range n hs g 1
                have nd : Hid (∀ W, Only [] wr W → Calls Try.prog 14 #[.pointer (some ⟨tb, 0, none⟩), .int .i64 1] W fun e w' => e = .returned (.int .i64 (nodeM n hs g 1)) ∧ w' = W) := fun W o => hT.out.node 1 (i64ok_of (by omega)) W o
                generalize nodeM n hs g 1 = A at *
                obtain ⟨x, ex⟩ : ∃ x, winX A g = x := ⟨_, rfl⟩
                rw [ex] at wi
                clear hkr2 ex
                rcases r1 with rfl | ⟨i, hi, hbi, rfl⟩
                · have q1 : winI (-1) = 0 := rfl
                  have q3 : winB (-1) = false := rfl
                  rw [q1, q3] at wi
                  have WI := Lib.hid wi
                  clear q1 q3 wi
                  go_wp2_with fail
                  refine WI.out.mono ?_
                  rintro e u1 ⟨rfl, o1⟩
                  have O1 : Hid (Only [] wr (u1.alloc (.cells #[.int .u64 x.k, .int .i64 x.i] 43))) := o1.alloc _
                  clear o1
                  go_wp2_with fail
                  refine (nd.out _ O1.out).mono ?_
                  rintro e u2 ⟨rfl, rfl⟩
                  go_wp2_with fail
                  go_ret
                  exact ⟨by simp, (hT.out.only.trans' O1.out).below (Nat.le_refl _) (by simp)⟩
                · have q1 : winI (i : Int) = i := by unfold winI; rw [if_neg (by omega)]
                  have q3 : winB (i : Int) = true := by simp [winB]
                  have i0 : (0 : Int) ≤ (i : Int) := by omega
                  rw [q1, q3] at wi
                  have WI := Lib.hid wi
                  clear q1 q3 wi
                  go_wp2_with fail
                  refine WI.out.mono ?_
                  rintro e u1 ⟨rfl, o1⟩
                  have O1 : Hid (Only [] wr (u1.alloc (.cells #[.int .u64 x.k, .int .i64 x.i] 43))) := o1.alloc _
                  clear o1
                  go_wp2_with fail
                  refine (nd.out _ O1.out).mono ?_
                  rintro e u2 ⟨rfl, rfl⟩
                  go_wp2_with fail
                  refine (nd.out _ O1.out).mono ?_
                  rintro e u2 ⟨rfl, rfl⟩
                  go_wp2_with fail
                  go_ret
                  exact ⟨by simp, (hT.out.only.trans' O1.out).below (Nat.le_refl _) (by simp)⟩

/-! ### The step from the walk to the statement -/
set_option maxRecDepth 100000 in
theorem lifted (os : Os) (started : os.Started) (H : Type) (enc : TypeId × Value → H) :
    ReturnsInHanded {} Try.checked os 5 .any (Rows.tourUpSpec.pre6 enc Try.prog Try.f5 Rows.tourUpRow.domain false) (Rows.tourUpSpec.post enc Try.prog Try.f5 false true false false) := by
  refine returnsInHanded_of_change (C := Try.checked) own started (by kernel_rfl) Try.func5
    (ChangeSpec.witness6 (enc := enc) (C := Try.checked) false ⟨#[], #[.int .i64 0, .slice none 0 0], []⟩ 8 (by kernel_rfl) (by kernel_rfl) (by kernel_rfl) (by kernel_rfl)) ?_
  intro W base args ds gs before hval0 hW hcnd _
  have hval : ∀ (j : Nat) t v, Try.f5.params[j]? = some t → args[j]? = some v → Value.okWide Try.prog W .any base t v := hval0
  have hW' := hW
  obtain ⟨p, q, hA0, hV, rfl, hfz, hnd⟩ := hW
  have hA : DataW.TrodAll enc Try.prog W 0 (fun _ => true) true Try.f5.params.toList args.toList ds p := hA0
  rw [Try.params5] at hA hval
  obtain ⟨v0, vs0, d0, ds0, p0, q0, hargs, rfl, rfl, h0, r0⟩ := trodAll_cons hA
  obtain ⟨v1, vs1, d1, ds1, p1, q1, rfl, rfl, rfl, h1, r1⟩ := trodAll_cons r0
  obtain ⟨rfl, rfl, rfl⟩ := trodAll_nil r1
  obtain rfl : args = #[v0, v1] := by cases args; simp_all
  obtain ⟨rfl, rfl⟩ := trodVars_none hV
  obtain ⟨a0, rfl, rfl, rfl, w0⟩ := open_int Try.underlying3 (hval 0 3 v0 rfl rfl) h0
  obtain ⟨a1, len1, cap1, rfl⟩ := okWide_slice Try.underlying22 (hval 1 22 v1 rfl rfl)
  have k1 := h1
  have lt1 : ∀ x ∈ p1, x.block < W.heap.size := by obtain ⟨m, hm⟩ := k1; exact DataW.trod_lt m _ _ _ hm
  obtain ⟨z1, w1⟩ : ∃ z, InDeeds W a1 len1 z := by
    obtain ⟨fuel, hf⟩ := h1
    exact open_deeds hf
  clear hA0 hval0
  refine (walk a0 a1 len1 cap1 z1 W w0 w1).mono fun e W' ⟨he, bel⟩ => ?_
  subst he
  exact ⟨_, rfl, _, _, _, [], _, [], hW', trodAll_mk1 (shut_bool Try.underlying4 _), (trodAll_cons_mk (shut_int Try.underlying3 w0) (trodAll_cons_mk (Below.trod laidOut (by kernel_rfl) (of_decide_eq_true (by kernel_rfl)) k1 bel lt1) trodAll_mk0)), rfl, bel.frame _, fun h => by cases h⟩

theorem over : Rows.tourUpRow.holds Try.pinned (OpenSpec.ofChange Rows.tourUpSpec) :=
  OpenClaim.holds_of_wide 5 Try.f5 rfl rfl rfl rfl rfl rfl rfl ⟨rfl, rfl, rfl, rfl, rfl⟩ rfl rfl rfl rfl rfl (by kernel_rfl) Try.func5 (by kernel_rfl)
    (of_decide_eq_true (by kernel_rfl)) (by unfold Func.isWrapper; first | (rw [if_pos (by decide +kernel)]; kernel_rfl) | (rw [if_neg (by decide +kernel)]; exact ⟨rfl, rfl⟩))
    (fun os started H enc _ => lifted os started H enc)

/-- The statement. -/
theorem proved : Rows.TourUpSaid := over
#print axioms proved
end Go.Proofs.Ytjblafpbffkapaa.tourUp
