/-
  Contracts of tag.Ahead and of the document's own Ahead: by key, and for equal keys by ID. No condition but that the arguments are items.
-/
import Derived.Test.YtamokhoiglklkaaTagC
namespace Go.Proofs.Ytamokhoiglklkaa
open Go.ChangeShapes Go.WideShapes Go.ChangeAt Go.RowKit
set_option linter.unusedVariables false

set_option maxHeartbeats 400000 in
theorem ahead_any (k1 i1 k2 i2 : Int) (w : World) :
    Calls Try.prog 19 #[.agg #[.int .u64 k1, .int .i64 i1], .agg #[.int .u64 k2, .int .i64 i2]] w fun e w' => e = .returned (.bool (aheadB k1 i1 k2 i2)) ∧ Grown w w' := by
  by_cases h : k1 = k2
  · subst h
    rw [ahead_same]
    go_enter Try.func19, Try.ntmps19
    go_wp2
    go_ret
    exact ⟨rfl, by repeat (first | exact Grown.refl _ | apply Grown.drew | apply Grown.alloc)⟩
  · rw [ahead_not i1 i2 h]
    have t : (k1 != k2) = true := by simp; omega
    go_enter Try.func19, Try.ntmps19
    go_wp2
    go_ret
    exact ⟨rfl, by repeat (first | exact Grown.refl _ | apply Grown.drew | apply Grown.alloc)⟩

set_option maxHeartbeats 400000 in
theorem rahead_any (k1 i1 k2 i2 : Int) (w : World) :
    Calls Try.prog 20 #[.agg #[.int .u64 k1, .int .i64 i1], .agg #[.int .u64 k2, .int .i64 i2]] w fun e w' => e = .returned (.bool (aheadB k1 i1 k2 i2)) ∧ Grown w w' := by
  by_cases h : k1 = k2
  · subst h
    rw [ahead_same]
    go_enter Try.func20, Try.ntmps20
    go_wp2
    go_ret
    exact ⟨rfl, by repeat (first | exact Grown.refl _ | apply Grown.drew | apply Grown.alloc)⟩
  · rw [ahead_not i1 i2 h]
    have t : (k1 == k2) = false := by simp; omega
    by_cases hl : k1 < k2
    all_goals
      go_enter Try.func20, Try.ntmps20
      go_wp2
      go_ret
      exact ⟨by simp [hl], by repeat (first | exact Grown.refl _ | apply Grown.drew | apply Grown.alloc)⟩
end Go.Proofs.Ytamokhoiglklkaa
