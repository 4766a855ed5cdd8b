/-
  weighbridgelaw02.WordEnds returns true for every input, and leaves its arguments as they were. No condition but that the arguments are values of their types.
-/
import Derived.Test.YtbffoejdjpoibaaRows
import Derived.Test.YtbffoejdjpoibaaWordC
import Derived.WalkKit
import Derived.ProofKit
import Derived.OpenShut
namespace Go.Proofs.Ytbffoejdjpoibaa.wordEnds
open Go.ChangeShapes Go.WideShapes Go.ChangeAt Go.RowKit
set_option linter.unusedVariables false

theorem own : ownKnob Try.prog.godebug = none := by kernel_rfl

set_option maxHeartbeats 1000000 in
/-! ### The walk: the Go text returns true. -/
theorem walk (a0 : Int) (w0 : (Lit.int .i64 a0).wf = true) (w : World) :
    Calls Try.prog 6 #[.int .i64 a0] w fun e w' => e = .returned (.bool true) ∧ Grown w w' := by
  obtain ⟨b0, c0⟩ := bounds_i64 w0
  clear w0
  obtain ⟨x, x0, x1, ex⟩ : ∃ x : Int, 0 ≤ x ∧ x < 2 ∧ (IntKind.u64.wrap a0).tmod 2 = x := by
    have h : 0 ≤ IntKind.u64.wrap a0 := by simp [IntKind.wrap, IntKind.bits, IntKind.signed]; omega
    rw [Int.tmod_eq_emod_of_nonneg h]
    exact ⟨_, Int.emod_nonneg _ (by omega), Int.emod_lt_of_pos _ (by omega), rfl⟩
  have full : packM 2305843009213693951 1 = 4611686018427387903 := by decide
  have h : x = 0 ∨ x = 1 := by omega
  rcases h with rfl | rfl
  · have e1 : packM 2305843009213693951 0 = 2305843009213693951 := by decide
    have e2 : packM 2305843009213693950 0 = 2305843009213693950 := by decide
    have e3 : packB 2305843009213693951 0 = true := by decide
    have e4 : packB 2305843009213693950 0 = true := by decide
    have e5 : moreM 2305843009213693951 = 0 := by decide
    have e6 : moreB 2305843009213693951 = false := by decide
    have e7 : moreM 2305843009213693950 = 4611686018427387903 := by decide
    have e8 : moreB 2305843009213693950 = true := by decide
    have e9 : packB 2305843009213693952 0 = false := by decide
    go_enter Try.func6, Try.ntmps6
    go_wp2_with (first | (go_at_call 9; refine (wawake _).mono ?_; rintro e w' ⟨rfl, rfl⟩) | (go_at_call 13; refine (pack_any _ _ _ (by omega) (by omega) (by omega) (by omega)).mono ?_; rintro e w' ⟨rfl, rfl⟩) | (go_at_call 14; refine (rpack_any _ _ _ (by omega) (by omega) (by omega) (by omega)).mono ?_; rintro e w' ⟨rfl, rfl⟩) | (go_at_call 16; refine (more_any _ _ (by omega) (by omega)).mono ?_; rintro e w' ⟨rfl, rfl⟩))
    go_ret
    exact ⟨by simp, Grown.refl _⟩
  · have e1 : packM 2305843009213693951 1 = 4611686018427387903 := by decide
    have e2 : packM 2305843009213693950 1 = 4611686018427387902 := by decide
    have e3 : packB 2305843009213693951 1 = true := by decide
    have e4 : packB 2305843009213693950 1 = true := by decide
    have e5 : moreM 4611686018427387903 = 0 := by decide
    have e6 : moreB 4611686018427387903 = false := by decide
    have e7 : moreM 4611686018427387902 = 4611686018427387903 := by decide
    have e8 : moreB 4611686018427387902 = true := by decide
    have e9 : packB 2305843009213693952 1 = false := by decide
    go_enter Try.func6, Try.ntmps6
    go_wp2_with (first | (go_at_call 9; refine (wawake _).mono ?_; rintro e w' ⟨rfl, rfl⟩) | (go_at_call 13; refine (pack_any _ _ _ (by omega) (by omega) (by omega) (by omega)).mono ?_; rintro e w' ⟨rfl, rfl⟩) | (go_at_call 14; refine (rpack_any _ _ _ (by omega) (by omega) (by omega) (by omega)).mono ?_; rintro e w' ⟨rfl, rfl⟩) | (go_at_call 16; refine (more_any _ _ (by omega) (by omega)).mono ?_; rintro e w' ⟨rfl, rfl⟩))
    go_ret
    exact ⟨by simp, Grown.refl _⟩

/-! ### The step from the walk to the statement -/
set_option maxRecDepth 100000 in
theorem lifted (os : Os) (started : os.Started) (H : Type) (enc : TypeId × Value → H) :
    ReturnsInHanded {} Try.checked os 6 .any (Rows.wordEndsSpec.pre6 enc Try.prog Try.f6 Rows.wordEndsRow.domain false) (Rows.wordEndsSpec.post enc Try.prog Try.f6 false true false false) := by
  refine returnsInHanded_of_change (C := Try.checked) own started (by kernel_rfl) Try.func6
    (ChangeSpec.witness6 (enc := enc) (C := Try.checked) false ⟨#[], #[.int .i64 0], []⟩ 8 (by kernel_rfl) (by kernel_rfl) (by kernel_rfl) (by kernel_rfl)) ?_
  intro W base args ds gs before hval0 hW hcnd _
  have hval : ∀ (j : Nat) t v, Try.f6.params[j]? = some t → args[j]? = some v → Value.okWide Try.prog W .any base t v := hval0
  have hW' := hW
  obtain ⟨p, q, hA0, hV, rfl, hfz, hnd⟩ := hW
  have hA : DataW.TrodAll enc Try.prog W 0 (fun _ => true) true Try.f6.params.toList args.toList ds p := hA0
  rw [Try.params6] at hA hval
  obtain ⟨v0, vs0, d0, ds0, p0, q0, hargs, rfl, rfl, h0, r0⟩ := trodAll_cons hA
  obtain ⟨rfl, rfl, rfl⟩ := trodAll_nil r0
  obtain rfl : args = #[v0] := by cases args; simp_all
  obtain ⟨rfl, rfl⟩ := trodVars_none hV
  obtain ⟨a0, rfl, rfl, rfl, w0⟩ := open_int Try.underlying3 (hval 0 3 v0 rfl rfl) h0
  clear hA0 hval0
  simp only [List.append_nil] at hW'
  refine (walk a0 w0 W).mono fun e W' ⟨he, hg⟩ => ?_
  subst he
  exact ⟨_, rfl, post_of_same (pa := []) (pv := []) hW' (fun _ _ _ => (trodAll_cons_mk (shut_bool Try.underlying4 _) trodAll_mk0)) (fun sp _ => (trodAll_cons_mk (shut_int Try.underlying3 w0) trodAll_mk0)) (fun _ _ => rfl) rfl
    (hg.frame _) hg.2.1 (ok_one (by kernel_rfl) rfl (okWide_bool_mk Try.underlying4 _))⟩

theorem over : Rows.wordEndsRow.holds Try.pinned (OpenSpec.ofChange Rows.wordEndsSpec) :=
  OpenClaim.holds_of_wide 6 Try.f6 rfl rfl rfl rfl rfl rfl rfl ⟨rfl, rfl, rfl, rfl, rfl⟩ rfl rfl rfl rfl rfl (by kernel_rfl) Try.func6 (by kernel_rfl)
    (of_decide_eq_true (by kernel_rfl)) (by unfold Func.isWrapper; first | (rw [if_pos (by decide +kernel)]; kernel_rfl) | (rw [if_neg (by decide +kernel)]; exact ⟨rfl, rfl⟩))
    (fun os started H enc _ => lifted os started H enc)

/-- The statement. -/
theorem proved : Rows.WordEndsSaid :=
  over
#print axioms proved
end Go.Proofs.Ytbffoejdjpoibaa.wordEnds
