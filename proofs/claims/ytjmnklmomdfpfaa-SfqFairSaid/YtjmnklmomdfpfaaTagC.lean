/-
  Contracts of tag.Inverse, tag.Cost and of the document's own: what a unit of length costs, and what a size costs. No condition but that the arguments are values of their types.
-/
import Derived.Test.YtjmnklmomdfpfaaTagB
namespace Go.Proofs.Ytjmnklmomdfpfaa
set_option maxRecDepth 100000
open Go.ChangeShapes Go.WideShapes Go.ChangeAt Go.RowKit
set_option linter.unusedVariables false

set_option maxHeartbeats 400000 in
theorem cost_any (s r : Int) (w : World) (hs : -9223372036854775808 ≤ s) (hs1 : s ≤ 9223372036854775807) (hr : 0 ≤ r) (hr1 : r ≤ 18446744073709551615) :
    Calls Try.prog 71 #[.int .i64 s, .int .u64 r] w fun e w' => e = .returned (.int .u64 (costM s r)) ∧ w = w' := by
  unfold costM sizeM
  by_cases h : s < 0
  · rw [if_pos h]
    go_enter Try.func71, Try.ntmps71
    go_wp2_with fail
    refine (mul_any _ _ _ (by omega) (by omega) (by omega) (by omega)).mono ?_
    rintro e w' ⟨rfl, rfl⟩
    go_wp2
    go_ret
    exact ⟨rfl, rfl⟩
  · rw [if_neg h]
    go_enter Try.func71, Try.ntmps71
    go_wp2_with fail
    refine (mul_any _ _ _ (by omega) (by omega) (by omega) (by omega)).mono ?_
    rintro e w' ⟨rfl, rfl⟩
    go_wp2
    go_ret
    exact ⟨rfl, rfl⟩

set_option maxHeartbeats 400000 in
theorem rcost_any (s r : Int) (w : World) (hs : -9223372036854775808 ≤ s) (hs1 : s ≤ 9223372036854775807) (hr : 0 ≤ r) (hr1 : r ≤ 18446744073709551615) :
    Calls Try.prog 25 #[.int .i64 s, .int .u64 r] w fun e w' => e = .returned (.int .u64 (costM s r)) ∧ w = w' := by
  unfold costM sizeM
  by_cases h : s < 0
  · rw [if_pos h]
    go_enter Try.func25, Try.ntmps25
    go_wp2_with fail
    refine (rmul_any _ _ _ (by omega) (by omega) (by omega) (by omega)).mono ?_
    rintro e w' ⟨rfl, rfl⟩
    go_wp2
    go_ret
    exact ⟨rfl, rfl⟩
  · rw [if_neg h]
    go_enter Try.func25, Try.ntmps25
    go_wp2_with fail
    refine (rmul_any _ _ _ (by omega) (by omega) (by omega) (by omega)).mono ?_
    rintro e w' ⟨rfl, rfl⟩
    go_wp2
    go_ret
    exact ⟨rfl, rfl⟩
end Go.Proofs.Ytjmnklmomdfpfaa
