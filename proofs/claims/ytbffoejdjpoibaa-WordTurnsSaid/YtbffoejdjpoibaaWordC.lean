/-
  Contracts of the statements' own awake (it returns true) and near (it returns a word that is one). No condition but that the arguments are values of their types.
-/
import Derived.Test.YtbffoejdjpoibaaWordB
namespace Go.Proofs.Ytbffoejdjpoibaa
open Go.ChangeShapes Go.WideShapes Go.ChangeAt Go.RowKit
set_option linter.unusedVariables false

set_option maxHeartbeats 400000 in
theorem wawake (w : World) :
    Calls Try.prog 9 #[] w fun e w' => e = .returned (.bool true) ∧ w = w' := by
  have e1 : packM 5 1 = 2305843009213693957 := by decide
  have e2 : packB 5 1 = true := by decide
  have e3 : moreM 0 = 2305843009213693953 := by decide
  have e4 : moreB 0 = true := by decide
  have e5 : countM 2305843009213693957 = 5 := by decide
  have e6 : stateM 2305843009213693957 = 1 := by decide
  have e7 : rightB 2305843009213693957 = true := by decide
  go_enter Try.func9, Try.ntmps9
  go_wp2_with (first | (go_at_call 13; refine (pack_any _ _ _ (by omega) (by omega) (by omega) (by omega)).mono ?_; rintro e w' ⟨rfl, rfl⟩) | (go_at_call 16; refine (more_any _ _ (by omega) (by omega)).mono ?_; rintro e w' ⟨rfl, rfl⟩) | (go_at_call 11; refine (count_any _ _ (by omega) (by omega)).mono ?_; rintro e w' ⟨rfl, rfl⟩) | (go_at_call 12; refine (state_any _ _ (by omega) (by omega)).mono ?_; rintro e w' ⟨rfl, rfl⟩) | (go_at_call 10; refine (right_any _ _).mono ?_; rintro e w' ⟨rfl, rfl⟩))
  go_ret
  exact ⟨rfl, rfl⟩

theorem rem3 (a : Int) : ∃ x : Int, 0 ≤ x ∧ x < 3 ∧ (IntKind.u64.wrap a).tmod 3 = x := by
  have h : 0 ≤ IntKind.u64.wrap a := by simp [IntKind.wrap, IntKind.bits, IntKind.signed]; omega
  rw [Int.tmod_eq_emod_of_nonneg h]
  exact ⟨_, Int.emod_nonneg _ (by omega), Int.emod_lt_of_pos _ (by omega), rfl⟩

set_option maxHeartbeats 400000 in
theorem near_any (n s : Int) (w : World) (h0 : 0 ≤ n) (h1 : n ≤ 18446744073709551615) (h2 : -9223372036854775808 ≤ s) (h3 : s ≤ 9223372036854775807) :
    Calls Try.prog 15 #[.int .u64 n, .int .i64 s] w fun e w' => (∃ z : Int, 0 ≤ z ∧ z < 6917529027641081856 ∧ e = .returned (.int .u64 z)) ∧ w = w' := by
  obtain ⟨x, x0, x1, ex⟩ := rem3 s
  obtain ⟨v, v1, v2, ev⟩ : ∃ v : Int, 0 ≤ v ∧ v < 2305843009213693952 ∧ n % 2305843009213693952 = v := ⟨_, by omega, by omega, rfl⟩
  go_enter Try.func15, Try.ntmps15
  go_wp2_with (go_at_call 14; refine (rpack_yes _ _ _ (by omega) (by omega) (by omega) (by omega)).mono ?_; rintro e w' ⟨rfl, rfl⟩)
  go_ret
  exact ⟨⟨_, by omega, by omega, rfl⟩, rfl⟩

/-- What is claimed, rested or shut was not shut, has no smaller count, and is a word. -/
theorem more_step (z : Int) (z0 : 0 ≤ z) (h : moreB z = true) : (stateM z == 2) = false ∧ ¬ countM (moreM z) < countM z ∧ rightB (moreM z) = true ∧ 0 ≤ moreM z ∧ moreM z < 6917529027641081856 := by
  have h : z < 4611686018427387904 ∧ z % 2305843009213693952 < 2305843009213693951 := of_decide_eq_true h
  have e : moreM z = 2305843009213693952 + (z % 2305843009213693952 + 1) := by unfold moreM; rw [if_pos h]
  have e1 : stateM z = z / 2305843009213693952 := by unfold stateM; rw [if_pos (by omega)]
  have e2 : countM z = z % 2305843009213693952 := by unfold countM; rw [if_pos (by omega)]
  have e3 : countM (moreM z) = moreM z % 2305843009213693952 := by unfold countM; rw [if_pos (by omega)]
  refine ⟨?_, ?_, ?_, ?_, ?_⟩
  · rw [e1]; simp; omega
  · rw [e2, e3, e]; omega
  · unfold rightB; exact decide_eq_true (by omega)
  · omega
  · omega
theorem rest_step (z : Int) (z0 : 0 ≤ z) (h : restB z = true) : (stateM z == 2) = false ∧ ¬ countM (restM z) < countM z ∧ rightB (restM z) = true ∧ 0 ≤ restM z ∧ restM z < 6917529027641081856 := by
  have h : 2305843009213693952 ≤ z ∧ z < 4611686018427387904 := of_decide_eq_true h
  have e : restM z = z - 2305843009213693952 := by unfold restM; rw [if_pos h]
  have e1 : stateM z = z / 2305843009213693952 := by unfold stateM; rw [if_pos (by omega)]
  have e2 : countM z = z % 2305843009213693952 := by unfold countM; rw [if_pos (by omega)]
  have e3 : countM (restM z) = restM z % 2305843009213693952 := by unfold countM; rw [if_pos (by omega)]
  refine ⟨?_, ?_, ?_, ?_, ?_⟩
  · rw [e1]; simp; omega
  · rw [e2, e3, e]; omega
  · unfold rightB; exact decide_eq_true (by omega)
  · omega
  · omega
theorem shut_step (z : Int) (z0 : 0 ≤ z) (h : shutB z = true) : (stateM z == 2) = false ∧ ¬ countM (shutM z) < countM z ∧ rightB (shutM z) = true ∧ 0 ≤ shutM z ∧ shutM z < 6917529027641081856 := by
  have h : z < 2305843009213693952 := of_decide_eq_true h
  have e : shutM z = z + 4611686018427387904 := by unfold shutM; rw [if_pos h]
  have e1 : stateM z = z / 2305843009213693952 := by unfold stateM; rw [if_pos (by omega)]
  have e2 : countM z = z % 2305843009213693952 := by unfold countM; rw [if_pos (by omega)]
  have e3 : countM (shutM z) = shutM z % 2305843009213693952 := by unfold countM; rw [if_pos (by omega)]
  refine ⟨?_, ?_, ?_, ?_, ?_⟩
  · rw [e1]; simp; omega
  · rw [e2, e3, e]; omega
  · unfold rightB; exact decide_eq_true (by omega)
  · omega
  · omega
end Go.Proofs.Ytbffoejdjpoibaa
