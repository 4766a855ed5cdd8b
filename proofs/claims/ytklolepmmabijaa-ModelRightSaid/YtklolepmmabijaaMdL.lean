/-
  The statements' words: Ready, Ret; NewModel.
-/
import Derived.Test.YtklolepmmabijaaMdK
import Derived.Deep.LoopGhost
namespace Go.Proofs.Ytklolepmmabijaa
set_option maxRecDepth 100000
open Go.RowKit
set_option linter.unusedVariables false
set_option linter.unusedSimpArgs false
set_option maxRecDepth 100000

/-- Calls in a row. -/
def cE : El Cl 4 where
  T := 44
  cs := fun c => [.int .i64 c.op, .int .i64 c.f, .int .i64 c.a, .int .i64 c.b]
  z := .agg #[.int .i64 0, .int .i64 0, .int .i64 0, .int .i64 0]
  wide := 32
  len := fun _ => rfl
  one := fun x u hu => by
    simp at hu
    rcases hu with rfl | rfl | rfl | rfl <;> rfl
  pos := by decide
  info := by kernel_rfl
  zs := rfl
  small := by decide
def readyC (f : Nat) : Cl := ⟨1, f, 1 + (f : Int), 2 + ((f % 2 : Nat) : Int)⟩
def readyL (n : Nat) : List Cl := (List.range n).map readyC
theorem readyL_succ (n : Nat) : readyL (n + 1) = readyL n ++ [readyC n] := by unfold readyL; rw [List.range_succ, List.map_append]; rfl
theorem readyL_len (n : Nat) : (readyL n).length = n := by unfold readyL; simp
theorem newModel (c : Cf) (w : World) : Calls Try.prog 24 #[.agg #[.int .i64 c.sh, .int .i64 c.sl, .int .i64 c.wk, .int .i64 c.wd, .int .u64 c.un]] w fun e w' =>
    ∃ b, e = .returned (.pointer (some ⟨b, 0, none⟩)) ∧ ∃ O, NdOf b ⟨c, Sq.new, 0⟩ w' O ∧ Only [] w w' ∧ ∀ k ∈ O, w.heap.size ≤ k := by
  go_enter Try.func24, Try.ntmps24
  go_wp2_with fail
  go_ret
  have o1 : Only [] w (w.alloc (.cells #[.int .i64 c.sh, .int .i64 c.sl, .int .i64 c.wk, .int .i64 c.wd, .int .u64 c.un] 24)) := (Only.refl [] w).alloc _
  have s1 : (w.alloc (.cells #[.int .i64 c.sh, .int .i64 c.sl, .int .i64 c.wk, .int .i64 c.wd, .int .u64 c.un] 24)).heap.size = w.heap.size + 1 := by simp
  generalize w.alloc (.cells #[.int .i64 c.sh, .int .i64 c.sl, .int .i64 c.wk, .int .i64 c.wd, .int .u64 c.un] 24) = W1 at *
  have o2 : Only [] W1 (W1.alloc (.cells #[.slice none 0 0, .int .u64 0, .int .u64 0] 85)) := (Only.refl [] W1).alloc _
  have s2 : (W1.alloc (.cells #[.slice none 0 0, .int .u64 0, .int .u64 0] 85)).heap.size = W1.heap.size + 1 := by simp
  have q : RqOf (W1.alloc (.cells #[.slice none 0 0, .int .u64 0, .int .u64 0] 85)) W1.heap.size Sq.new [W1.heap.size] := ⟨.slice none 0 0, [], ⟨Sq.ok.new, heap_alloc_new W1 _, El.Row.nil _, ⟨by simp, List.Pairwise.nil, by simp⟩, rfl⟩, rfl⟩
  rw [s1] at q
  generalize W1.alloc (.cells #[.slice none 0 0, .int .u64 0, .int .u64 0] 85) = W2 at *
  have e2 : W2.heap.size = w.heap.size + 2 := by omega
  have o3 : Only [] W2 (W2.alloc (.cells #[.int .i64 c.sh, .int .i64 c.sl, .int .i64 c.wk, .int .i64 c.wd, .int .u64 c.un, .pointer (some ⟨w.heap.size + 1, 0, none⟩), .int .i64 0] 87)) := (Only.refl [] W2).alloc _
  have nb : NBlk (W2.alloc (.cells #[.int .i64 c.sh, .int .i64 c.sl, .int .i64 c.wk, .int .i64 c.wd, .int .u64 c.un, .pointer (some ⟨w.heap.size + 1, 0, none⟩), .int .i64 0] 87)) W2.heap.size c (w.heap.size + 1) 0 := heap_alloc_new W2 _
  rw [e2] at nb
  refine ⟨w.heap.size + 2, rfl, _, ⟨w.heap.size + 1, [w.heap.size + 1], ⟨nb, q.only0 o3, by simp⟩, rfl⟩, (o1.trans' o2).trans' o3, fun k hk => ?_⟩
  simp at hk
  omega
end Go.Proofs.Ytklolepmmabijaa
