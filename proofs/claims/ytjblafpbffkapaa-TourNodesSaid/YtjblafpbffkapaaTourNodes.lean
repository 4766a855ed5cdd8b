/-
  weighbridgelaw07.TourNodes returns true for every input, and leaves its arguments as they were. No condition but that the arguments are values of their types.
-/
import Derived.Test.YtjblafpbffkapaaRows
import Derived.Test.YtjblafpbffkapaaTourT2
import Derived.Test.YtjblafpbffkapaaTourO
import Derived.WalkKit
import Derived.ProofKit
import Derived.OpenShut
import Derived.ChangeOld
import Derived.Below
namespace Go.Proofs.Ytjblafpbffkapaa.tourNodes
open Go.ChangeShapes Go.WideShapes Go.ChangeAt Go.RowKit
set_option linter.unusedVariables false
set_option linter.unusedSimpArgs false

set_option maxRecDepth 100000 in
set_option maxHeartbeats 8000000 in
theorem walk (a0 : Int) (a1 : Option Addr) (len1 cap1 : Nat) (z1 : Nat → Dd) (a2 : Int) (w : World) (w0 : (Lit.int .i64 a0).wf = true) (w1 : InDeeds w a1 len1 z1) (w2 : (Lit.int .i64 a2).wf = true) :
    Calls Try.prog 4 #[.int .i64 a0, .slice a1 len1 cap1, .int .i64 a2] w fun e w' => e = .returned (.bool true) ∧ Below w.heap.size w w' := by
  have W1 := Lib.hid w1
  have W2 := Lib.hid (show i64ok a2 from w2)
  clear w1 w2
  go_enter Try.func4, Try.ntmps4
  go_wp2_with fail
  refine (tMade_sound a0 _).mono ?_
  rintro e v1 ⟨tb, xb, rfl, ib, nb, hb, yb, n, h1⟩
  have H1 := Lib.hid h1
  clear h1
  go_wp2_with fail
  refine (tAwake _).mono ?_
  rintro e v2 ⟨rfl, o2⟩
  have H2 := Lib.hid (H1.out.only0 o2)
  clear H1 o2
  go_wp2_with fail
  go_loopg [9] (len1 + 1) (fun gk si wr => ∃ (p : Nat) (hs : Nat → Bool) (g : Nat → It), si = .int .i64 (p : Int) ∧ p ≤ len1 ∧ p ≤ 40 ∧ len1 + 1 ≤ gk + p ∧ Hid (TSound w wr tb ib nb xb hb yb n hs g))
  case atStart => exact ⟨0, _, _, rfl, by omega, by omega, by omega, H2⟩
  case round =>
    obtain ⟨p, hs, g, rfl, hp, hp80, hg, hS⟩ := hrel
    clear H2
    by_cases hc : p < len1 ∧ p < 40
    · have c1 : (p : Int) < (len1 : Int) := by omega
      have c2 : (p : Int) < 40 := by omega
      obtain ⟨hdok, ad, b, o, s, rfl, hadd, hbw, q0, q1, q2⟩ := W1.out p hc.1
      obtain ⟨d, ed⟩ : ∃ d, z1 p = d := ⟨_, rfl⟩
      rw [ed] at q0 q1 q2 hdok
      have r0 := hS.out.only.stay q0
      have r1 := hS.out.only.stay q1
      have r2 := hS.out.only.stay q2
      have hst := Lib.hid (hS.out.step d hdok wr (Only.refl _ _))
      have hpl : p + 1 ≤ len1 ∧ p + 1 ≤ 40 := by omega
      clear q0 q1 q2 ed hbw hc
      go_wp2_with fail
      refine hst.out.mono ?_
      rintro e u1 ⟨rfl, ⟨hs2, g2, h2⟩, -⟩
      have H2 := Lib.hid h2
      clear h2 r0 r1 r2 hst
      go_wp2_with fail
      go_loopg [10] 36 (fun gz sj wy => ∃ j : Nat, sj = .int .i64 ((j : Int) - 1) ∧ j ≤ 35 ∧ 36 ≤ gz + j ∧ Hid (TSound w wy tb ib nb xb hb yb n hs2 g2))
      case atStart => exact ⟨0, by simp, by omega, by omega, H2⟩
      case round =>
        obtain ⟨j, rfl, hj, hgz, hS2⟩ := hrel
        clear H2
        by_cases hj2 : j < 35
        · have hj3 : (j : Int) - 1 < 34 := by omega
          have hok : i64ok ((j : Int) - 1) := i64ok_of (by omega)
          have n1 := Lib.hid (hS2.out.node _ hok wr (Only.refl _ _))
          have n2 := Lib.hid (hS2.out.refnode _ hok wr (Only.refl _ _))
          obtain ⟨v, ev⟩ : ∃ v, nodeM n hs2 g2 ((j : Int) - 1) = v := ⟨_, rfl⟩
          rw [ev] at n1 n2
          clear ev hj2 hok
          go_wp2_with fail
          refine n1.out.mono ?_
          rintro e u3 ⟨rfl, rfl⟩
          go_wp2_with fail
          refine n2.out.mono ?_
          rintro e u4 ⟨rfl, o4⟩
          have H4 := Lib.hid (hS2.out.only0 o4)
          clear o4 n1 n2
          go_wp2_with fail
          go_roundg (36 - (j + 1))
          case measure => omega
          case rel => exact ⟨j + 1, by simp, by omega, by omega, H4⟩
        · have hj3 : ¬ ((j : Int) - 1 < 34) := by omega
          have hj4 : decide ((j : Int) - 1 < 34) = false := decide_eq_false hj3
          clear hj2
          go_wp2_with fail
          go_roundg (len1 + 1 - (p + 1))
          case measure => omega
          case rel => exact ⟨p + 1, hs2, g2, by simp, by omega, by omega, by omega, hS2⟩
    · have n1 := Lib.hid (hS.out.node _ W2.out wr (Only.refl _ _))
      have n2 := Lib.hid (hS.out.refnode _ W2.out wr (Only.refl _ _))
      obtain ⟨v, ev⟩ : ∃ v, nodeM n hs g a2 = v := ⟨_, rfl⟩
      rw [ev] at n1 n2
      have hcd : (decide ((p : Int) < (len1 : Int)) = false ∧ ¬ ((p : Int) < (len1 : Int))) ∨ ((p : Int) < (len1 : Int) ∧ decide ((p : Int) < 40) = false) := by
        have hce : ¬ p < len1 ∨ (p < len1 ∧ ¬ p < 40) := by omega
        rcases hce with h9 | h9
        · exact .inl ⟨decide_eq_false (by omega), by omega⟩
        · exact .inr ⟨by omega, decide_eq_false (by omega)⟩
      clear hc hp ev
      rcases hcd with ⟨c1, c2⟩ | ⟨c1, c2⟩
      all_goals
        go_wp2_with fail
        refine n1.out.mono ?_
        rintro e u3 ⟨rfl, rfl⟩
        go_wp2_with fail
        refine n2.out.mono ?_
        rintro e u4 ⟨rfl, o4⟩
        have H4 := Lib.hid (hS.out.only.trans' o4)
        clear o4
        go_wp2_with fail
        go_ret
        exact ⟨by simp, H4.out.below (Nat.le_refl _) (by simp)⟩

/-! ### The step from the walk to the statement -/
set_option maxRecDepth 100000 in
theorem lifted (os : Os) (started : os.Started) (H : Type) (enc : TypeId × Value → H) :
    ReturnsInHanded {} Try.checked os 4 .any (Rows.tourNodesSpec.pre6 enc Try.prog Try.f4 Rows.tourNodesRow.domain false) (Rows.tourNodesSpec.post enc Try.prog Try.f4 false true false false) := by
  refine returnsInHanded_of_change (C := Try.checked) own started (by kernel_rfl) Try.func4
    (ChangeSpec.witness6 (enc := enc) (C := Try.checked) false ⟨#[], #[.int .i64 0, .slice none 0 0, .int .i64 0], []⟩ 8 (by kernel_rfl) (by kernel_rfl) (by kernel_rfl) (by kernel_rfl)) ?_
  intro W base args ds gs before hval0 hW hcnd _
  have hval : ∀ (j : Nat) t v, Try.f4.params[j]? = some t → args[j]? = some v → Value.okWide Try.prog W .any base t v := hval0
  have hW' := hW
  obtain ⟨p, q, hA0, hV, rfl, hfz, hnd⟩ := hW
  have hA : DataW.TrodAll enc Try.prog W 0 (fun _ => true) true Try.f4.params.toList args.toList ds p := hA0
  rw [Try.params4] at hA hval
  obtain ⟨v0, vs0, d0, ds0, p0, q0, hargs, rfl, rfl, h0, r0⟩ := trodAll_cons hA
  obtain ⟨v1, vs1, d1, ds1, p1, q1, rfl, rfl, rfl, h1, r1⟩ := trodAll_cons r0
  obtain ⟨v2, vs2, d2, ds2, p2, q2, rfl, rfl, rfl, h2, r2⟩ := trodAll_cons r1
  obtain ⟨rfl, rfl, rfl⟩ := trodAll_nil r2
  obtain rfl : args = #[v0, v1, v2] := by cases args; simp_all
  obtain ⟨rfl, rfl⟩ := trodVars_none hV
  obtain ⟨a0, rfl, rfl, rfl, w0⟩ := open_int Try.underlying3 (hval 0 3 v0 rfl rfl) h0
  obtain ⟨a1, len1, cap1, rfl⟩ := okWide_slice Try.underlying22 (hval 1 22 v1 rfl rfl)
  have k1 := h1
  have lt1 : ∀ x ∈ p1, x.block < W.heap.size := by obtain ⟨m, hm⟩ := k1; exact DataW.trod_lt m _ _ _ hm
  obtain ⟨z1, w1⟩ : ∃ z, InDeeds W a1 len1 z := by
    obtain ⟨fuel, hf⟩ := h1
    exact open_deeds hf
  obtain ⟨a2, rfl, rfl, rfl, w2⟩ := open_int Try.underlying3 (hval 2 3 v2 rfl rfl) h2
  clear hA0 hval0
  refine (walk a0 a1 len1 cap1 z1 a2 W w0 w1 w2).mono fun e W' ⟨he, bel⟩ => ?_
  subst he
  exact ⟨_, rfl, _, _, _, [], _, [], hW', trodAll_mk1 (shut_bool Try.underlying4 _), (trodAll_cons_mk (shut_int Try.underlying3 w0) (trodAll_cons_mk (Below.trod laidOut (by kernel_rfl) (of_decide_eq_true (by kernel_rfl)) k1 bel lt1) (trodAll_cons_mk (shut_int Try.underlying3 w2) trodAll_mk0))), rfl, bel.frame _, fun h => by cases h⟩

theorem over : Rows.tourNodesRow.holds Try.pinned (OpenSpec.ofChange Rows.tourNodesSpec) :=
  OpenClaim.holds_of_wide 4 Try.f4 rfl rfl rfl rfl rfl rfl rfl ⟨rfl, rfl, rfl, rfl, rfl⟩ rfl rfl rfl rfl rfl (by kernel_rfl) Try.func4 (by kernel_rfl)
    (of_decide_eq_true (by kernel_rfl)) (by unfold Func.isWrapper; first | (rw [if_pos (by decide +kernel)]; kernel_rfl) | (rw [if_neg (by decide +kernel)]; exact ⟨rfl, rfl⟩))
    (fun os started H enc _ => lifted os started H enc)

/-- The statement. -/
theorem proved : Rows.TourNodesSaid := over
#print axioms proved
end Go.Proofs.Ytjblafpbffkapaa.tourNodes
