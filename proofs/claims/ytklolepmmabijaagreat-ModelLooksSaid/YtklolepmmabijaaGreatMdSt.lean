/-
  What a law's walk keeps of a model beside the document's.
-/
import Derived.Test.YtklolepmmabijaaGreatMdF
import Derived.Test.YtklolepmmabijaaGreatMdAw
import Derived.Test.YtklolepmmabijaaGreatMdP
namespace Go.Proofs.YtklolepmmabijaaGreat
set_option maxRecDepth 100000
open Go.RowKit
set_option linter.unusedVariables false
set_option linter.unusedSimpArgs false
set_option maxRecDepth 100000

section
variable {w0 w1 wr : World} {b c : Nat} {M : Md} {O P : List Nat}
theorem Ms.from (h : Ms w1 wr b c M O P) (ho : Only [] w0 w1) : Ms w0 wr b c M O P := ⟨h.duo, fun k hk => Nat.le_trans ho.size (h.new k hk), ho.trans' h.only⟩
theorem Ms.step (h : Ms w0 wr b c M O P) (cl : Cl) (hc : cl.ok) (k j : Nat) (hM : M.ok k j) (hk : k < 1000) (hj : j + 16 ≤ 1000000) :
    Calls Tryz.prog 11 #[.pointer (some ⟨b, 0, none⟩), .pointer (some ⟨c, 0, none⟩), .agg #[.int .i64 cl.op, .int .i64 cl.f, .int .i64 cl.a, .int .i64 cl.b]] wr fun e w' => e = .returned (.bool true) ∧ ∃ O' P', Ms w0 w' b c (M.todo cl).1 O' P' :=
  (mStep wr b c M O P h.duo cl hc k j hM hk hj).mono fun e w' q => ⟨q.1, h.fin q.2⟩
theorem Ms.looks (h : Ms w0 wr b c M O P) (id : Int) (hid : i64ok id) : Calls Tryz.prog 13 #[.pointer (some ⟨b, 0, none⟩), .pointer (some ⟨c, 0, none⟩), .int .i64 id] wr fun e w' => e = .returned (.bool true) ∧ Ms w0 w' b c M O P :=
  (mLooks wr b c M O P h.duo id hid).mono fun e w' q => ⟨q.1, h.only0 q.2⟩
theorem Ms.stepK (h : Ms w0 wr b c M O P) (cl : Cl) (hc : cl.ok) (k j : Nat) (hM : M.ok k j) (hk : k < 1000) (hj : j + 16 ≤ 1000000) :
    Calls Tryz.prog 11 #[.pointer (some ⟨b, 0, none⟩), .pointer (some ⟨c, 0, none⟩), .agg #[.int .i64 cl.op, .int .i64 cl.f, .int .i64 cl.a, .int .i64 cl.b]] wr fun e w' => e = .returned (.bool true) ∧ (∃ O' P', Ms w0 w' b c (M.todo cl).1 O' P') ∧ Only (O ++ P) wr w' :=
  (mStep wr b c M O P h.duo cl hc k j hM hk hj).mono fun e w' q => ⟨q.1, h.fin q.2, by obtain ⟨_, _, _, g⟩ := q.2; exact g.1⟩
theorem Ms.looksK (h : Ms w0 wr b c M O P) (id : Int) (hid : i64ok id) : Calls Tryz.prog 13 #[.pointer (some ⟨b, 0, none⟩), .pointer (some ⟨c, 0, none⟩), .int .i64 id] wr fun e w' => e = .returned (.bool true) ∧ Ms w0 w' b c M O P ∧ Only [] wr w' :=
  (mLooks wr b c M O P h.duo id hid).mono fun e w' q => ⟨q.1, h.only0 q.2, q.2⟩
theorem Ms.out (h : Ms w0 wr b c M O P) {N : Nat} (hN : wr.heap.size ≤ N) : N ∉ O ++ P := fun hk => by have := h.duo.lt N hk; omega
end
theorem CBox.set0 {w : World} {b : Nat} {op f a c : Int} (h : CBox w b ⟨op, f, a, c⟩) (x : Int) : CBox (w.setCell ⟨b, 0, none⟩ (.int .i64 x)) b ⟨x, f, a, c⟩ := by
  have := heap_setCell_same w b 0 _ _ (.int .i64 x) h
  simpa [CBox] using this
end Go.Proofs.YtklolepmmabijaaGreat
