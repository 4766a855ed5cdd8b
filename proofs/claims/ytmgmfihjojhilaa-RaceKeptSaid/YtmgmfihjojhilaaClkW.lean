/-
  awake; what a law's frame wants of the program.
-/
import Derived.Test.YtmgmfihjojhilaaClkJ
import Derived.Test.YtmgmfihjojhilaaClkE
import Derived.ProofKit
import Derived.OpenShut
import Derived.ChangeOld
import Derived.Deep.Slices
import Derived.Lib.SmallJoins
namespace Go.Proofs.Ytmgmfihjojhilaa
set_option maxRecDepth 100000
open Go.RowKit Go.ChangeShapes Go.WideShapes Go.ChangeAt Go.Joins Go.Deep
set_option linter.unusedVariables false
set_option linter.unusedSimpArgs false
set_option maxRecDepth 100000

theorem own : ownKnob Try.prog.godebug = none := by kernel_rfl
theorem laidOut : laidOutB Try.prog = true := by kernel_rfl
section
variable {H : Type} {enc : TypeId × Value → H} {w : World} {sp : Nat → Bool} {held : Bool} {fuel : Nat}
theorem open_numsF {q : IntKind} {t e : TypeId} (ht : Try.prog.underlying t = some (.slice e)) (he : Try.prog.underlying e = some (.int q)) (hc : Try.prog.cellsOf e = 1) {a : Option Addr} {len cap : Nat} {x : DataW H × List MemPlace}
    (h : DataW.trod enc Try.prog w 0 (fun _ => true) held fuel t [.slice a len cap] = some x) : ∃ z, InNums q w a len z := by
  rcases open_ints ht he hc h with ⟨hcs, _⟩ | ⟨ad, l, c, zs, hcs, _, hl, hm, hz, _, hcell, hwz⟩
  · injection hcs with e _
    injection e with e1 e2 e3
    subst e1 e2
    exact ⟨fun _ => 0, fun k hk => absurd hk (by omega)⟩
  · injection hcs with e _
    injection e with e1 e2 e3
    subst e1 e2 e3
    have hzl : zs.length = cap := by simpa using hz
    refine ⟨fun k => zs.getD k 0, fun k hk => ⟨?_, ad, rfl, ?_, hcell k (by omega)⟩⟩
    · have hkz : k < zs.length := by omega
      have : zs.getD k 0 = zs[k] := by simp [hkz]
      simp only [this]
      exact hwz _ (List.getElem_mem hkz)
    · exact World.block_lt_of_cell? w _ (hcell k (by omega))
end
theorem Only.toBelow {w w' : World} (h : Only [] w w') : Below w.heap.size w w' := h.below (Nat.le_refl _) (by simp)
/-- A slice that was built just now. -/
theorem Nums.lit (w : World) (xs : List Int) : Nums 0 (w.alloc (.cells (xs.map (Value.int .i64)).toArray 3)) (some ⟨w.heap.size, 0, none⟩) xs := fun k x hx => by
  have hb := heap_alloc_new w (.cells (xs.map (Value.int .i64)).toArray 3)
  generalize w.alloc (.cells (xs.map (Value.int .i64)).toArray 3) = W at *
  refine ⟨_, rfl, Nat.zero_le _, ?_, by simp [World.frozen?, hb]⟩
  rw [cell_of_row _ _ k _ _ (0, 0) hb]
  simp [hx]
theorem Nums.lit1 (w : World) (x : Int) : Nums 0 (w.alloc (.cells #[.int .i64 x] 3)) (some ⟨w.heap.size, 0, none⟩) [x] := Nums.lit w [x]
theorem Nums.lit2 (w : World) (x y : Int) : Nums 0 (w.alloc (.cells #[.int .i64 x, .int .i64 y] 3)) (some ⟨w.heap.size, 0, none⟩) [x, y] := Nums.lit w [x, y]
/-- Two that were built one behind the other. -/
theorem Nums.lit22 (w : World) (x y u v : Int) : Nums 0 ((w.alloc (.cells #[.int .i64 x, .int .i64 y] 3)).alloc (.cells #[.int .i64 u, .int .i64 v] 3)) (some ⟨w.heap.size, 0, none⟩) [x, y] ∧
    Nums 0 ((w.alloc (.cells #[.int .i64 x, .int .i64 y] 3)).alloc (.cells #[.int .i64 u, .int .i64 v] 3)) (some ⟨w.heap.size + 1, 0, none⟩) [u, v] ∧
    Only [] w ((w.alloc (.cells #[.int .i64 x, .int .i64 y] 3)).alloc (.cells #[.int .i64 u, .int .i64 v] 3)) := by
  refine ⟨(Nums.lit2 w x y).only0 ((Only.refl [] _).alloc _), ?_, ((Only.refl [] _).alloc _).alloc _⟩
  have h := Nums.lit2 (w.alloc (.cells #[.int .i64 x, .int .i64 y] 3)) u v
  rwa [World.size_alloc] at h
theorem Nums.lit12 (w : World) (x u v : Int) : Nums 0 ((w.alloc (.cells #[.int .i64 x] 3)).alloc (.cells #[.int .i64 u, .int .i64 v] 3)) (some ⟨w.heap.size, 0, none⟩) [x] ∧
    Nums 0 ((w.alloc (.cells #[.int .i64 x] 3)).alloc (.cells #[.int .i64 u, .int .i64 v] 3)) (some ⟨w.heap.size + 1, 0, none⟩) [u, v] ∧
    Only [] w ((w.alloc (.cells #[.int .i64 x] 3)).alloc (.cells #[.int .i64 u, .int .i64 v] 3)) := by
  refine ⟨(Nums.lit1 w x).only0 ((Only.refl [] _).alloc _), ?_, ((Only.refl [] _).alloc _).alloc _⟩
  have h := Nums.lit2 (w.alloc (.cells #[.int .i64 x] 3)) u v
  rwa [World.size_alloc] at h
end Go.Proofs.Ytmgmfihjojhilaa
