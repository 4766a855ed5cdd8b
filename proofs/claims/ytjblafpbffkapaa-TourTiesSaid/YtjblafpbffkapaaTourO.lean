/-
  What a law's frame wants of the program, in a plain seat: its knobs, its layout, an item by value.
-/
import Derived.Test.YtjblafpbffkapaaWheelO
import Derived.Lib.SmallJoins
namespace Go.Proofs.Ytjblafpbffkapaa
set_option maxRecDepth 100000
open Go.RowKit Go.ChangeShapes Go.WideShapes Go.ChangeAt Go.Joins
set_option linter.unusedVariables false

theorem own : ownKnob Try.prog.godebug = none := by kernel_rfl
theorem laidOut : laidOutB Try.prog = true := by kernel_rfl
theorem cellsItem : Try.prog.cellsOf 43 = 2 := by kernel_rfl
theorem reads_item {H : Type} {enc : TypeId × Value → H} {k i : Int} (hk : (Lit.int .u64 k).wf = true) (hi : (Lit.int .i64 i).wf = true) (W' : World) (sp : Nat → Bool) (held : Bool) : DataW.Trod enc Try.prog W' 0 sp held 43 (.agg #[.int .u64 k, .int .i64 i]) (.agg [.lit (.int .u64 k), .lit (.int .i64 i)]) [] :=
  shut_agg2 (y0 := (.lit (.int .u64 k), [])) (y1 := (.lit (.int .i64 i), [])) Try.underlying43 (by kernel_rfl) cellsItem ⟨1, by simp [DataW.trod, Try.underlying35, hk]⟩ ⟨1, by simp [DataW.trod, Try.underlying3, hi]⟩
end Go.Proofs.Ytjblafpbffkapaa
