/-
  The statements' words: Call.
-/
import Derived.Test.YtklolepmmabijaaMdH
namespace Go.Proofs.Ytklolepmmabijaa
set_option maxRecDepth 100000
open Go.RowKit
set_option linter.unusedVariables false
set_option linter.unusedSimpArgs false
set_option maxRecDepth 100000

/-- Call, as numbers. -/
def Cl.near (c : Cl) : Cl :=
  if modI c.f 23 = 22 then c
  else if modI c.op 10 = 0 then ⟨1, modI c.f 5, 1 + modI c.a 5, 1 + modI c.b 3⟩
  else if modI c.op 10 = 1 then ⟨2, modI c.f 5, 0, 0⟩
  else if modI c.op 10 = 6 ∨ modI c.op 10 = 7 then ⟨4, 0, 0, 0⟩
  else if modI c.op 10 = 8 then ⟨5, 0, modI c.a 6, 0⟩
  else if modI c.op 10 = 9 then ⟨6, 0, 0, 0⟩
  else ⟨3, modI c.f 5, if modI c.a 13 = 12 then 1 + modI c.a 65536 else 1 + modI c.a 9, modI c.b 1000⟩
theorem i64_small {a : Int} (h0 : 0 ≤ a) (h1 : a ≤ 1000000) : i64ok a := i64_of (by omega)
theorem Cl.near_ok {c : Cl} (h : c.ok) : c.near.ok := by
  have m := fun (v n : Int) (hn : 0 < n) => modI_lt v hn
  unfold Cl.near
  split
  · exact h
  · split
    · have h1 := m c.f 5 (by decide); have h2 := m c.a 5 (by decide); have h3 := m c.b 3 (by decide)
      exact ⟨i64_small (by first | decide | (simp only; omega)) (by first | decide | (simp only; omega)), i64_small (by first | decide | (simp only; omega)) (by first | decide | (simp only; omega)), i64_small (by first | decide | (simp only; omega)) (by first | decide | (simp only; omega)), i64_small (by first | decide | (simp only; omega)) (by first | decide | (simp only; omega))⟩
    · split
      · have h1 := m c.f 5 (by decide)
        exact ⟨i64_small (by first | decide | (simp only; omega)) (by first | decide | (simp only; omega)), i64_small (by first | decide | (simp only; omega)) (by first | decide | (simp only; omega)), i64_small (by first | decide | (simp only; omega)) (by first | decide | (simp only; omega)), i64_small (by first | decide | (simp only; omega)) (by first | decide | (simp only; omega))⟩
      · split
        · exact ⟨i64_small (by first | decide | (simp only; omega)) (by first | decide | (simp only; omega)), i64_small (by first | decide | (simp only; omega)) (by first | decide | (simp only; omega)), i64_small (by first | decide | (simp only; omega)) (by first | decide | (simp only; omega)), i64_small (by first | decide | (simp only; omega)) (by first | decide | (simp only; omega))⟩
        · split
          · have h1 := m c.a 6 (by decide)
            exact ⟨i64_small (by first | decide | (simp only; omega)) (by first | decide | (simp only; omega)), i64_small (by first | decide | (simp only; omega)) (by first | decide | (simp only; omega)), i64_small (by first | decide | (simp only; omega)) (by first | decide | (simp only; omega)), i64_small (by first | decide | (simp only; omega)) (by first | decide | (simp only; omega))⟩
          · split
            · exact ⟨i64_small (by first | decide | (simp only; omega)) (by first | decide | (simp only; omega)), i64_small (by first | decide | (simp only; omega)) (by first | decide | (simp only; omega)), i64_small (by first | decide | (simp only; omega)) (by first | decide | (simp only; omega)), i64_small (by first | decide | (simp only; omega)) (by first | decide | (simp only; omega))⟩
            · have h1 := m c.f 5 (by decide); have h2 := m c.a 65536 (by decide); have h3 := m c.a 9 (by decide); have h4 := m c.b 1000 (by decide)
              refine ⟨i64_small (by first | decide | (simp only; omega)) (by first | decide | (simp only; omega)), i64_small (by first | decide | (simp only; omega)) (by first | decide | (simp only; omega)), ?_, i64_small (by first | decide | (simp only; omega)) (by first | decide | (simp only; omega))⟩
              simp only
              split
              · exact i64_small (by omega) (by omega)
              · exact i64_small (by omega) (by omega)
theorem only_cl (w : World) (N : Nat) (a b c d : Value) : Only [N] w ((((w.setCell ⟨N, 0, none⟩ a).setCell ⟨N, 1, none⟩ b).setCell ⟨N, 2, none⟩ c).setCell ⟨N, 3, none⟩ d) :=
  ((((Only.refl [N] w).setCell (by simp) _).setCell (by simp) _).setCell (by simp) _).setCell (by simp) _
def clW (w : World) (c : Cl) : World := (w.alloc (.cells #[.int .i64 c.op, .int .i64 c.f, .int .i64 c.a, .int .i64 c.b] 44)).alloc (.cells #[.int .i64 0, .int .i64 0, .int .i64 0, .int .i64 0] 44)
theorem clW_is (w : World) (c : Cl) : Only [] w (clW w c) ∧ CBox (clW w c) w.heap.size c ∧ CBox (clW w c) (w.heap.size + 1) ⟨0, 0, 0, 0⟩ ∧ (clW w c).heap.size = w.heap.size + 2 := by
  unfold clW
  refine ⟨((Only.refl [] w).alloc _).alloc _, (CBox.new w c).only0 ((Only.refl [] _).alloc _), ?_, by simp⟩
  have := CBox.new (w.alloc (.cells #[.int .i64 c.op, .int .i64 c.f, .int .i64 c.a, .int .i64 c.b] 44)) ⟨0, 0, 0, 0⟩
  simpa using this
theorem CBox.fr {w : World} {b : Nat} {c : Cl} (h : CBox w b c) (j : Nat) : w.frozen? ⟨b, j, none⟩ = false := frozen_of_row w b j _ _ h
end Go.Proofs.Ytklolepmmabijaa
