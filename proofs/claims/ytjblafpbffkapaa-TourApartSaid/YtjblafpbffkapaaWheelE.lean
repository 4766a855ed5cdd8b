/-
  Items held against each other; the statements' Same, Plain, Spoil at items.
-/
import Derived.Test.YtjblafpbffkapaaWheelI
import Derived.Laws.StructEq
namespace Go.Proofs.Ytjblafpbffkapaa
set_option maxRecDepth 100000
open Go.RowKit
set_option linter.unusedVariables false
set_option linter.unusedSimpArgs false

theorem item_guard : Try.prog.eqGuardType Try.prog.depth 43 = false := by kernel_rfl
theorem item_held : Try.prog.stoodInHeld 43 = false := by kernel_rfl
theorem item_struct : Try.prog.underlying 43 = some (.struct (Try.prog.fieldsOf 43)) := by kernel_rfl
theorem item_eql (x y : It) (w : World) : (binOp .eql 43 (.agg #[.int .u64 x.k, .int .i64 x.i]) (.agg #[.int .u64 y.k, .int .i64 y.i])).run Try.prog w = .ok (.bool (decide (x = y))) w := by
  have u1 := Try.underlying3
  have a1 := Try.isAgg3
  have z1 := Try.sizeOf3
  have u2 := Try.underlying35
  have a2 := Try.isAgg35
  have z2 := Try.sizeOf35
  rw [run_eql_struct, show (10000 : Nat) = 9999 + 1 from rfl, run_equalIn_agg w 9999 43 _ _ item_struct item_held]
  simp only [Program.fieldsOf, Try.underlying43]
  go_simp
  obtain ⟨k, i⟩ := x
  obtain ⟨k', i'⟩ := y
  by_cases h1 : k = k' <;> by_cases h2 : i = i' <;> simp [h1, h2]

theorem ext_gOf {xs ys : List It} (hl : xs.length = ys.length) (h : ∀ k, k < xs.length → gOf xs k = gOf ys k) : xs = ys := by
  apply List.ext_getElem hl
  intro k h1 h2
  have := h k h1
  rw [gOf_get h1, gOf_get h2] at this
  exact this

end Go.Proofs.Ytjblafpbffkapaa
