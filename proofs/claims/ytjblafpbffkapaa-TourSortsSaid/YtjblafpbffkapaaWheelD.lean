/-
  The statements' deeds: Mod, Name, What.
-/
import Derived.Test.YtjblafpbffkapaaTagM
import Derived.Test.YtjblafpbffkapaaWheelE
import Derived.Deep.RegionHeld3
namespace Go.Proofs.Ytjblafpbffkapaa
set_option maxRecDepth 100000
open Go.RowKit
set_option linter.unusedVariables false
set_option linter.unusedSimpArgs false

theorem i64ok_of {a : Int} (h : -9223372036854775808 ≤ a ∧ a ≤ 9223372036854775807) : i64ok a := by
  simp [i64ok, Lit.wf, IntKind.min, IntKind.max, IntKind.signed, IntKind.bits]
  omega
theorem u64ok_of {a : Int} (h : 0 ≤ a ∧ a ≤ 18446744073709551615) : (Lit.int .u64 a).wf = true := by
  simp [Lit.wf, IntKind.min, IntKind.max, IntKind.signed, IntKind.bits]
  omega
theorem u64ok_to {a : Int} (h : (Lit.int .u64 a).wf = true) : 0 ≤ a ∧ a ≤ 18446744073709551615 := by
  simp [Lit.wf, IntKind.min, IntKind.max, IntKind.signed, IntKind.bits] at h
  omega
set_option maxRecDepth 100000 in
theorem hMod (v : Int) (n : Nat) (h : 0 < n) (hn : n ≤ 1000000) (w : World) :
    Calls Try.prog 21 #[.int .i64 v, .int .i64 (n : Int)] w fun e w' => (∃ m : Nat, m < n ∧ e = .returned (.int .i64 (m : Int))) ∧ w' = w := by
  obtain ⟨x, h0, hx, ex⟩ := rem_is v (n : Int) (by omega)
  obtain ⟨m, rfl⟩ : ∃ m : Nat, x = (m : Int) := ⟨x.toNat, by omega⟩
  have hm : m < n := by omega
  have hw : wrap64 (m : Int) = (m : Int) := by unfold wrap64; omega
  have hne' : ¬ ((n : Int) = 0) := by omega
  go_enter Try.func21, Try.ntmps21
  go_wp2
  go_ret
  exact ⟨⟨m, hm, by simp [ex, hw]⟩, rfl⟩
/-- A deed. -/
structure Dd where
  a : Int
  b : Int
  c : Int
def Dd.val (d : Dd) : Value := .agg #[.int .i64 d.a, .int .u64 d.b, .int .i64 d.c]
def Dd.ok (d : Dd) : Prop := i64ok d.a ∧ (Lit.int .u64 d.b).wf = true ∧ i64ok d.c
/-- A block that holds one deed. -/
def DBox (w : World) (b : Nat) (d : Dd) : Prop := w.heap[b]? = some (.cells #[.int .i64 d.a, .int .u64 d.b, .int .i64 d.c] 37 (0, 0))
theorem DBox.c {w : World} {b : Nat} {d : Dd} (h : DBox w b d) : w.cell? ⟨b, 0, none⟩ = some (.int .i64 d.a) ∧ w.cell? ⟨b, 1, none⟩ = some (.int .u64 d.b) ∧ w.cell? ⟨b, 2, none⟩ = some (.int .i64 d.c) :=
  ⟨by rw [cell_of_row w b 0 _ _ _ h]; rfl, by rw [cell_of_row w b 1 _ _ _ h]; rfl, by rw [cell_of_row w b 2 _ _ _ h]; rfl⟩
theorem DBox.only {w w' : World} {b : Nat} {d : Dd} {S : List Nat} (h : DBox w b d) (ho : Only S w w') (hS : b ∉ S) : DBox w' b d := ho.get h hS
theorem DBox.new (w : World) (d : Dd) : DBox (w.alloc (.cells #[.int .i64 d.a, .int .u64 d.b, .int .i64 d.c] 37)) w.heap.size d := heap_alloc_new w _
theorem DBox.lt {w : World} {b : Nat} {d : Dd} (h : DBox w b d) : b < w.heap.size := (Array.getElem?_eq_some_iff.1 h).1
end Go.Proofs.Ytjblafpbffkapaa
