/-
  weighbridgelaw02.WordPacks returns true for every input, and leaves its arguments as they were. No condition but that the arguments are values of their types.
-/
import Derived.Test.YtbffoejdjpoibaaRows
import Derived.Test.YtbffoejdjpoibaaWordC
import Derived.WalkKit
import Derived.ProofKit
import Derived.OpenShut
namespace Go.Proofs.Ytbffoejdjpoibaa.wordPacks
open Go.ChangeShapes Go.WideShapes Go.ChangeAt Go.RowKit
set_option linter.unusedVariables false

theorem own : ownKnob Try.prog.godebug = none := by kernel_rfl

set_option maxHeartbeats 1000000 in
/-! ### The walk: the Go text returns true. -/
theorem walk (a0 : Int) (a1 : Int) (w0 : (Lit.int .u64 a0).wf = true) (w1 : (Lit.int .i64 a1).wf = true) (w : World) :
    Calls Try.prog 4 #[.int .u64 a0, .int .i64 a1] w fun e w' => e = .returned (.bool true) ∧ Grown w w' := by
  obtain ⟨b0, c0⟩ := bounds_u64 w0
  obtain ⟨b1, c1⟩ := bounds_i64 w1
  clear w0 w1
  by_cases h : a0 ≤ 2305843009213693951 ∧ 0 ≤ a1 ∧ a1 ≤ 2
  · have e1 : packM a0 a1 = a1 * 2305843009213693952 + a0 := by unfold packM; rw [if_pos h]
    have e2 : packB a0 a1 = true := by unfold packB; rw [decide_eq_true h]
    obtain ⟨h1, h2, h3⟩ := h
    obtain ⟨z, hz⟩ : ∃ z : Int, a1 * 2305843009213693952 + a0 = z := ⟨_, rfl⟩
    have z0 : 0 ≤ z := by omega
    have z1 : z ≤ 18446744073709551615 := by omega
    have hr : rightB z = true := by unfold rightB; exact decide_eq_true (by omega)
    have hc : countM z = a0 := by unfold countM; rw [if_pos (by omega)]; omega
    have hs : stateM z = a1 := by unfold stateM; rw [if_pos (by omega)]; omega
    rw [hz] at e1
    clear hz
    go_enter Try.func4, Try.ntmps4
    go_wp2_with (first | (go_at_call 9; refine (wawake _).mono ?_; rintro e w' ⟨rfl, rfl⟩) | (go_at_call 13; refine (pack_any _ _ _ b0 c0 b1 c1).mono ?_; rintro e w' ⟨rfl, rfl⟩) | (go_at_call 14; refine (rpack_any _ _ _ b0 c0 b1 c1).mono ?_; rintro e w' ⟨rfl, rfl⟩) | (go_at_call 10; refine (right_any _ _).mono ?_; rintro e w' ⟨rfl, rfl⟩) | (go_at_call 11; refine (count_any _ _ z0 z1).mono ?_; rintro e w' ⟨rfl, rfl⟩) | (go_at_call 12; refine (state_any _ _ z0 z1).mono ?_; rintro e w' ⟨rfl, rfl⟩))
    go_ret
    exact ⟨by simp, Grown.refl _⟩
  · have e1 : packM a0 a1 = 0 := by unfold packM; rw [if_neg h]
    have e2 : packB a0 a1 = false := by unfold packB; rw [decide_eq_false h]
    clear h
    go_enter Try.func4, Try.ntmps4
    go_wp2_with (first | (go_at_call 9; refine (wawake _).mono ?_; rintro e w' ⟨rfl, rfl⟩) | (go_at_call 13; refine (pack_any _ _ _ b0 c0 b1 c1).mono ?_; rintro e w' ⟨rfl, rfl⟩) | (go_at_call 14; refine (rpack_any _ _ _ b0 c0 b1 c1).mono ?_; rintro e w' ⟨rfl, rfl⟩) | (go_at_call 10; refine (right_any _ _).mono ?_; rintro e w' ⟨rfl, rfl⟩) | (go_at_call 11; refine (count_any _ _ z0 z1).mono ?_; rintro e w' ⟨rfl, rfl⟩) | (go_at_call 12; refine (state_any _ _ z0 z1).mono ?_; rintro e w' ⟨rfl, rfl⟩))
    go_ret
    exact ⟨by simp, Grown.refl _⟩

/-! ### The step from the walk to the statement -/
set_option maxRecDepth 100000 in
theorem lifted (os : Os) (started : os.Started) (H : Type) (enc : TypeId × Value → H) :
    ReturnsInHanded {} Try.checked os 4 .any (Rows.wordPacksSpec.pre6 enc Try.prog Try.f4 Rows.wordPacksRow.domain false) (Rows.wordPacksSpec.post enc Try.prog Try.f4 false true false false) := by
  refine returnsInHanded_of_change (C := Try.checked) own started (by kernel_rfl) Try.func4
    (ChangeSpec.witness6 (enc := enc) (C := Try.checked) false ⟨#[], #[.int .u64 0, .int .i64 0], []⟩ 8 (by kernel_rfl) (by kernel_rfl) (by kernel_rfl) (by kernel_rfl)) ?_
  intro W base args ds gs before hval0 hW hcnd _
  have hval : ∀ (j : Nat) t v, Try.f4.params[j]? = some t → args[j]? = some v → Value.okWide Try.prog W .any base t v := hval0
  have hW' := hW
  obtain ⟨p, q, hA0, hV, rfl, hfz, hnd⟩ := hW
  have hA : DataW.TrodAll enc Try.prog W 0 (fun _ => true) true Try.f4.params.toList args.toList ds p := hA0
  rw [Try.params4] at hA hval
  obtain ⟨v0, vs0, d0, ds0, p0, q0, hargs, rfl, rfl, h0, r0⟩ := trodAll_cons hA
  obtain ⟨v1, vs1, d1, ds1, p1, q1, rfl, rfl, rfl, h1, r1⟩ := trodAll_cons r0
  obtain ⟨rfl, rfl, rfl⟩ := trodAll_nil r1
  obtain rfl : args = #[v0, v1] := by cases args; simp_all
  obtain ⟨rfl, rfl⟩ := trodVars_none hV
  obtain ⟨a0, rfl, rfl, rfl, w0⟩ := open_int Try.underlying22 (hval 0 22 v0 rfl rfl) h0
  obtain ⟨a1, rfl, rfl, rfl, w1⟩ := open_int Try.underlying3 (hval 1 3 v1 rfl rfl) h1
  clear hA0 hval0
  simp only [List.append_nil] at hW'
  refine (walk a0 a1 w0 w1 W).mono fun e W' ⟨he, hg⟩ => ?_
  subst he
  exact ⟨_, rfl, post_of_same (pa := []) (pv := []) hW' (fun _ _ _ => (trodAll_cons_mk (shut_bool Try.underlying4 _) trodAll_mk0)) (fun sp _ => (trodAll_cons_mk (shut_int Try.underlying22 w0) (trodAll_cons_mk (shut_int Try.underlying3 w1) trodAll_mk0))) (fun _ _ => rfl) rfl
    (hg.frame _) hg.2.1 (ok_one (by kernel_rfl) rfl (okWide_bool_mk Try.underlying4 _))⟩

theorem over : Rows.wordPacksRow.holds Try.pinned (OpenSpec.ofChange Rows.wordPacksSpec) :=
  OpenClaim.holds_of_wide 4 Try.f4 rfl rfl rfl rfl rfl rfl rfl ⟨rfl, rfl, rfl, rfl, rfl⟩ rfl rfl rfl rfl rfl (by kernel_rfl) Try.func4 (by kernel_rfl)
    (of_decide_eq_true (by kernel_rfl)) (by unfold Func.isWrapper; first | (rw [if_pos (by decide +kernel)]; kernel_rfl) | (rw [if_neg (by decide +kernel)]; exact ⟨rfl, rfl⟩))
    (fun os started H enc _ => lifted os started H enc)

/-- The statement. -/
theorem proved : Rows.WordPacksSaid :=
  over
#print axioms proved
end Go.Proofs.Ytbffoejdjpoibaa.wordPacks
