/-
  Contract of the statements' own awake: it returns true and makes at most new memory. No condition.
-/
import Derived.Test.YtamokhoiglklkaaTagD
namespace Go.Proofs.Ytamokhoiglklkaa
open Go.ChangeShapes Go.WideShapes Go.ChangeAt Go.RowKit
set_option linter.unusedVariables false

set_option maxHeartbeats 400000 in
theorem awake_keeps (w : World) :
    Calls Try.prog 10 #[] w fun e w' => e = .returned (.bool true) ∧ Keeps w w' := by
  have e1 : invM 1000 3 = 333 := by decide
  have e2 : mulM 3 5 = 15 := by decide
  have e3 : costM 2 7 = 14 := by decide
  have e4 : aheadB 1 2 1 3 = true := by decide
  go_enter Try.func10, Try.ntmps10
  go_wp2_with fail
  refine (inv_ok 1000 3 _ (by omega) (by omega) (by omega) (by omega)).mono ?_
  rintro e w' ⟨rfl, rfl⟩
  go_wp2_with fail
  refine (add_over 18446744073709551615 1 _ (by omega) (by omega) (by omega) (by omega) (by omega)).mono ?_
  rintro e w' ⟨rfl, rfl⟩
  go_wp2_with fail
  refine (mul_any 3 5 _ (by omega) (by omega) (by omega) (by omega)).mono ?_
  rintro e w' ⟨rfl, rfl⟩
  go_wp2_with fail
  refine (cost_any 2 7 _ (by omega) (by omega) (by omega) (by omega)).mono ?_
  rintro e w' ⟨rfl, rfl⟩
  go_wp2_with fail
  refine (ahead_keeps 1 2 1 3 _).mono ?_
  rintro e w' ⟨rfl, hg⟩
  go_wp2
  go_ret
  exact ⟨rfl, hg⟩

theorem awake_any (w : World) :
    Calls Try.prog 10 #[] w fun e w' => e = .returned (.bool true) ∧ Grown w w' :=
  (awake_keeps w).mono fun _ _ h => ⟨h.1, h.2.1⟩
end Go.Proofs.Ytamokhoiglklkaa
