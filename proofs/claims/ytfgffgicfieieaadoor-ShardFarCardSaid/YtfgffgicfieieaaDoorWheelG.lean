/-
  The wheel's New; the statements' awake.
-/
import Derived.Test.YtfgffgicfieieaaDoorWheelJ
namespace Go.Proofs.YtfgffgicfieieaaDoor
set_option maxRecDepth 100000
open Go.RowKit Go.ChangeMaps Go.MapKept
set_option linter.unusedVariables false
set_option linter.unusedSimpArgs false

theorem wNewOf (w : World) (width : Int) : Calls Tryd.prog 47 #[.int .i64 width] w fun e w' => ∃ wb S, e = .returned (.pointer (some ⟨wb, 0, none⟩)) ∧ WheelOf w' wb S (wid width) 0 [] ∧ (∀ b ∈ S, w.heap.size ≤ b) ∧ Only [] w w' := by
  refine (wNew w width).mono ?_
  rintro e w' ⟨wb, mb, rfl, h1, h2, h3, h4, h5⟩
  refine ⟨wb, wown wb mb (fun _ => .slice none 0 0), rfl, ⟨_, _, mb, rfl, ⟨h3, ?_, fun i hi => RowIs.nil _, fun i j g hi hj e => (by cases e), h4⟩, Lies.nil _ (by omega), by simp, by simp, wid_le width, by omega⟩, fun b hb => ?_, h5⟩
  · intro L hL
    refine ⟨show (0 : Nat) < 18446744073709551616 by omega, fun b hb => ?_⟩
    simp [part]
  · rcases mem_wown.1 hb with rfl | rfl | ⟨i, hi, e⟩
    · exact h1
    · exact h2
    · cases e

end Go.Proofs.YtfgffgicfieieaaDoor
