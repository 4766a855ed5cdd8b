/-
  Contract of the statements' own awake: where the table of math/bits lies, it returns true, and what was there is as it was.
-/
import Derived.Test.YtifglncofbkcpaaDoorBitsD
namespace Go.Proofs.YtifglncofbkcpaaDoor
open Go.ChangeShapes Go.WideShapes Go.ChangeAt Go.RowKit
set_option linter.unusedVariables false

theorem cells_lit (w : World) : CellsAt (w.alloc (.cells #[.int .i64 0, .int .i64 2] 3)) (some ⟨w.heap.size, 0, none⟩) [0, 2] := fun _ =>
  ⟨w.heap.size, rfl, by simp, fun k hk => by
    match k, hk with
    | 0, _ => simp
    | 1, _ => simp⟩

set_option maxHeartbeats 1000000 in
theorem bawake (w : World) (hT : Tab w) :
    Calls Tryd.prog 10 #[] w fun e w' => e = .returned (.bool true) ∧ Below w.heap.size w w' := by
  have c1 : Calls Tryd.prog 19 #[.int .u64 10, .int .i64 2] w fun e w' => e = .returned (.int .i64 3) ∧ w = w' := by
    have h := next_any 10 2 w (by decide) hT
    rw [show nextM 10 2 = 3 by decide +kernel] at h
    exact h
  have c2 : Calls Tryd.prog 20 #[.int .u64 10, .int .i64 2] w fun e w' => e = .returned (.int .i64 1) ∧ w = w' := by
    have h := last_any 10 2 w (by decide) (by decide)
    rw [show lastM 10 2 = 1 by decide +kernel] at h
    exact h
  have c3 : Calls Tryd.prog 16 #[.int .u64 0, .int .i64 3] w fun e w' => e = .returned (.int .u64 8) ∧ w = w' := by
    have h := with_any 0 3 w (by decide)
    rw [show withM 0 3 = 8 by decide +kernel] at h
    exact h
  have c4 : Calls Tryd.prog 18 #[.int .u64 8, .int .i64 3] w fun e w' => e = .returned (.bool true) ∧ w = w' := by
    have h := has_any 8 3 w (by decide)
    rw [show hasB 8 3 = true by decide +kernel] at h
    exact h
  have c5 : Calls Tryd.prog 13 #[.int .u64 7] w fun e w' => e = .returned (.int .i64 3) ∧ w = w' := by
    have h := many_any 7 w (by decide)
    rw [show manyM 7 = 3 by decide +kernel] at h
    exact h
  have c6 : Calls Tryd.prog 12 #[.int .u64 5] w (Fresh [0, 2] w) := by
    have h := all_any 5 w (by decide) hT
    rw [show upTo 5 64 = [0, 2] by decide +kernel] at h
    exact h
  clear hT
  go_enter Tryd.func10, Tryd.ntmps10
  go_wp2_with fail
  refine c1.mono ?_
  rintro e w' ⟨rfl, rfl⟩
  clear c1
  go_wp2_with fail
  refine c2.mono ?_
  rintro e w' ⟨rfl, rfl⟩
  clear c2
  go_wp2_with fail
  refine c3.mono ?_
  rintro e w' ⟨rfl, rfl⟩
  clear c3
  go_wp2_with fail
  refine c4.mono ?_
  rintro e w' ⟨rfl, rfl⟩
  clear c4
  go_wp2_with fail
  refine c5.mono ?_
  rintro e w' ⟨rfl, rfl⟩
  clear c5
  go_wp2_with fail
  refine c6.mono ?_
  rintro e w1 ⟨a, cap, rfl, hc, hb⟩
  clear c6
  have hp := plain_any a (some ⟨w1.heap.size, 0, none⟩) cap 2 [0, 2] (w1.alloc (.cells #[.int .i64 0, .int .i64 2] 3)) (by decide) (hc.below ((Below.refl _ _).alloc (Nat.le_refl _) _)) (cells_lit w1)
  have hb2 : Below w.heap.size w (w1.alloc (.cells #[.int .i64 0, .int .i64 2] 3)) := hb.alloc hb.size _
  clear hc hb
  go_wp2_with fail
  refine hp.mono ?_
  rintro e w2 ⟨rfl, hb3⟩
  have B : Below w.heap.size w w2 := hb2.trans (hb3.mono hb2.size)
  clear hp hb2 hb3
  go_wp2
  go_ret
  exact ⟨rfl, B⟩
end Go.Proofs.YtifglncofbkcpaaDoor
