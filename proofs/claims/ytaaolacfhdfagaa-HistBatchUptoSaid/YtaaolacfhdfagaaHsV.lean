/-
  The document's Parts.
-/
import Derived.Test.YtaaolacfhdfagaaHsR
namespace Go.Proofs.Ytaaolacfhdfagaa
set_option maxRecDepth 100000
open Go.RowKit
set_option linter.unusedVariables false
set_option linter.unusedSimpArgs false
set_option maxRecDepth 100000

set_option maxHeartbeats 4000000
/-- An append beside boxes. -/
theorem wpList_appB {w wr : World} {ops : Array Oper} {o : Oper} {a : Act} {Q : Exit → Act → World → Prop} {rest : List Oper} (hgd : o.guard = none) (s x : Operand) (ho : o.op = .call { callee := .builtin .append, args := #[s, x], argTypes := #[34, 34] })
    (A : Option Addr) (p cap : Nat) (xs : List Dn) (qs : List Da) (v : Dn) (b : Da) (hs : a.eval s = .slice A p cap) (hx : a.eval x = .slice (some ⟨wr.heap.size, 0, none⟩) 1 1) (h : DR w wr A p cap xs qs) (hv : PR w.heap.size wr v b) (hb : p ≤ 90000000)
    (hK : ∀ A2 cap2 w2, DR w w2 A2 (p + 1) cap2 (xs ++ [v]) (qs ++ [b]) → (∀ bl, bl < wr.heap.size → (∀ g, (Value.slice A p cap).ownBlock = some g → g ≠ bl) → w2.heap[bl]? = wr.heap[bl]? ∧ ∀ g, (Value.slice A2 (p + 1) cap2).ownBlock = some g → g ≠ bl) → wpList Try.prog ops Q rest (a.put o.dst (.slice A2 (p + 1) cap2)) w2) :
    wpList Try.prog ops Q (o :: rest) a (wr.alloc (.cells #[.int .i64 v.who, .int .i64 v.place, .int .i64 v.op, .int .i64 v.f, .int .i64 v.a, .int .i64 v.b, .int .i64 v.e, .slice v.A v.m v.c, .int .i64 v.n, .int .u64 v.v, .int .i64 v.fr, .int .i64 v.to] 30)) := by
  have oB : Only [] wr (wr.alloc (.cells #[.int .i64 v.who, .int .i64 v.place, .int .i64 v.op, .int .i64 v.f, .int .i64 v.a, .int .i64 v.b, .int .i64 v.e, .slice v.A v.m v.c, .int .i64 v.n, .int .u64 v.v, .int .i64 v.fr, .int .i64 v.to] 30)) := (Only.refl [] wr).alloc _
  refine wpList_plain hgd fun _ hK' => El.wp_append (E := dE) Try.underlying34 s x ho (.slice A p cap) xs hs (h.fr.row.only0 oB) _ 1 1 [v] hx rfl (El.Src.box (E := dE) (x := v) (heap_alloc_new wr _)) (p + 1) (by rw [h.fr.len]) (by omega) ?_
  intro A2 cap2 w2 r2 g2 l2
  refine hK' _ _ (hK A2 cap2 w2 ((h.only0 oB).app (Rw.one (hv.only0 oB)) r2 g2 l2) fun bl hbl hn => ⟨?_, fun g hg => ?_⟩)
  · rw [g2.block bl (Nat.lt_of_lt_of_le hbl oB.size) (by intro e; first | exact hn bl e rfl | exact hn bl e.symm rfl)]
    exact oB.block bl hbl (by simp)
  · rcases l2 with l2 | l2
    · exact hn g (l2 ▸ hg)
    · rw [l2] at hg
      injection hg with hg
      rw [World.size_alloc] at hg
      have := oB.size
      omega
theorem PR.setBox {B : Nat} {w : World} {x : Dn} {a : Da} (h : PR B w x a) {g : Nat} {cs : Array Value} (hb : w.heap[g]? = some (.cells cs 30 (0, 0))) (k : Nat) (v : Value) : PR B (w.setCell ⟨g, k, none⟩ v) x a := by
  have o : Only [g] w (w.setCell ⟨g, k, none⟩ v) := (Only.refl [g] w).setCell (.inl (by simp)) v
  exact ⟨h.str, h.row.only o (fun b hb2 => by simpa using h.row.ne hb (by decide) b hb2), h.new⟩
theorem row_setBox {w : World} {v0 : Value} {ps : List Pk} (h : pE.Row w v0 ps) {g : Nat} {cs : Array Value} (hb : w.heap[g]? = some (.cells cs 30 (0, 0))) (k : Nat) (v : Value) : pE.Row (w.setCell ⟨g, k, none⟩ v) v0 ps :=
  h.only (S := [g]) ((Only.refl [g] w).setCell (.inl (by simp)) v) (fun b hb2 => by simpa using h.ne hb (by decide) b hb2)
theorem heap_set {w : World} {g b : Nat} (h : g ≠ b) (k : Nat) (v : Value) : (w.setCell ⟨g, k, none⟩ v).heap[b]? = w.heap[b]? := by
  simp [World.setCell, Array.getElem?_modify, h]
theorem heap_set_same {w : World} {g : Nat} {cs : Array Value} {t : TypeId} (h : w.heap[g]? = some (.cells cs t (0, 0))) (k : Nat) (v : Value) : (w.setCell ⟨g, k, none⟩ v).heap[g]? = some (.cells (cs.setIfInBounds k v) t (0, 0)) := by
  simp [World.setCell, Array.getElem?_modify, h]
end Go.Proofs.Ytaaolacfhdfagaa
