/-
  The statements' words: Call, one case.
-/
import Derived.Test.YtklolepmmabijaaMdJ
namespace Go.Proofs.Ytklolepmmabijaa
set_option maxRecDepth 100000
open Go.RowKit
set_option linter.unusedVariables false
set_option linter.unusedSimpArgs false
set_option maxRecDepth 100000

theorem CBox.put3 {w : World} {P : Nat} {f : Int} (h : CBox w P ⟨0, f, 0, 0⟩) (a b : Int) : CBox (((w.setCell ⟨P, 0, none⟩ (.int .i64 3)).setCell ⟨P, 2, none⟩ (.int .i64 a)).setCell ⟨P, 3, none⟩ (.int .i64 b)) P ⟨3, f, a, b⟩ := by
  have h0 := heap_setCell_same w P 0 _ _ (.int .i64 3) h
  have h1 := heap_setCell_same _ P 2 _ _ (.int .i64 a) h0
  have h2 := heap_setCell_same _ P 3 _ _ (.int .i64 b) h1
  simpa [CBox] using h2
theorem only_put3 (w : World) (P : Nat) (a b c : Value) : Only [P] w (((w.setCell ⟨P, 0, none⟩ a).setCell ⟨P, 2, none⟩ b).setCell ⟨P, 3, none⟩ c) :=
  (((Only.refl [P] w).setCell (by simp) _).setCell (by simp) _).setCell (by simp) _
end Go.Proofs.Ytklolepmmabijaa
