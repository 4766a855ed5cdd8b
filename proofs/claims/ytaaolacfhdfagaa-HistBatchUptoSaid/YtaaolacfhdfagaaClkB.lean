/-
  A row of ints under way ('Fr') and one number more; near; the document's Leq, Cmp, Join, Tick.
-/
import Derived.Test.YtaaolacfhdfagaaClkA
import Derived.Laws.IdiomCopy
import Derived.Lib.MinMax
namespace Go.Proofs.Ytaaolacfhdfagaa
set_option maxRecDepth 100000
open Go.RowKit
set_option linter.unusedVariables false
set_option linter.unusedSimpArgs false
set_option maxRecDepth 100000

theorem i64_of {a : Int} (h : -9223372036854775808 ≤ a ∧ a ≤ 9223372036854775807) : i64ok a := by
  simp [i64ok, Lit.wf, IntKind.min, IntKind.max, IntKind.signed, IntKind.bits]
  omega
theorem i64_to {a : Int} (h : (Lit.int .i64 a).wf = true) : -9223372036854775808 ≤ a ∧ a ≤ 9223372036854775807 := by
  simp [Lit.wf, IntKind.min, IntKind.max, IntKind.signed, IntKind.bits] at h
  omega
/-- A row of ints in memory that is new since w; all that was there is as it was. -/
structure Fr (w wr : World) (A : Option Addr) (p cap : Nat) (xs : List Int) : Prop where
  row : iE.Row wr (.slice A p cap) xs
  len : xs.length = p
  new : ∀ k, (Value.slice A p cap).ownBlock = some k → w.heap.size ≤ k
  only : Only [] w wr
section
variable {w wr w' : World} {A : Option Addr} {p cap : Nat} {xs : List Int}
theorem Fr.nil (h : Only [] w wr) : Fr w wr none 0 0 [] := ⟨El.Row.nil _, rfl, fun k hk => by simp [Value.ownBlock] at hk, h⟩
theorem Fr.only0 (h : Fr w wr A p cap xs) (ho : Only [] wr w') : Fr w w' A p cap xs := ⟨h.row.only0 ho, h.len, h.new, h.only.trans' ho⟩
theorem Fr.nums (h : Fr w wr A p cap xs) : Nums w.heap.size wr A xs := Nums.of_row h.row h.new
theorem Fr.snoc (h : Fr w wr A p cap xs) {x : Int} {A2 : Option Addr} {cap2 : Nat} {u w2 : World} (ho : Only [] wr u) (h2 : iE.Row w2 (.slice A2 (p + 1) cap2) (xs ++ [x])) (hg : u.grownBy w2 (Value.slice A p cap).ownBlock)
    (hl : (Value.slice A2 (p + 1) cap2).ownBlock = (Value.slice A p cap).ownBlock ∨ (Value.slice A2 (p + 1) cap2).ownBlock = some u.heap.size) : Fr w w2 A2 (p + 1) cap2 (xs ++ [x]) := by
  refine ⟨h2, by simp [h.len], fun k hk => ?_, ((h.only.trans' ho)).grown hg (fun k hk => .inr (h.new k hk))⟩
  rcases hl with hl | hl
  · exact h.new k (hl ▸ hk)
  · rw [hl] at hk
    have h1 := h.only.size
    have h3 := ho.size
    simp at hk
    omega
end
section
variable {w wr : World} {ops : Array Oper} {o : Oper} {a : Act} {K : Act → World → Prop} {Q : Exit → Act → World → Prop}
/-- One number more, by append of a slice of one that was just built. -/
theorem wp_app1 (s x : Operand) (ho : o.op = .call { callee := .builtin .append, args := #[s, x], argTypes := #[78, 78] })
    (A : Option Addr) (p cap : Nat) (xs : List Int) (v : Int) (hs : a.eval s = .slice A p cap) (hx : a.eval x = .slice (some ⟨wr.heap.size, 0, none⟩) 1 1) (h : Fr w wr A p cap xs) (hb : p ≤ 1000000)
    (hK : ∀ A2 cap2 w2, Fr w w2 A2 (p + 1) cap2 (xs ++ [v]) → K (a.put o.dst (.slice A2 (p + 1) cap2)) w2) : o.wp Try.prog a (wr.alloc (.cells #[.int .i64 v] 3)) K Q := by
  have oB : Only [] wr (wr.alloc (.cells #[.int .i64 v] 3)) := (Only.refl [] wr).alloc _
  refine El.wp_append (E := iE) Try.underlying78 s x ho (.slice A p cap) xs hs (h.row.only0 oB) _ 1 1 [v] hx rfl (El.Src.box (E := iE) (x := v) (heap_alloc_new wr _)) (p + 1) (by rw [h.len]) (by omega) ?_
  intro A2 cap2 w2 r2 g2 l2
  exact hK A2 cap2 w2 (h.snoc oB r2 g2 l2)
theorem wpList_app1 {rest : List Oper} (hgd : o.guard = none) (s x : Operand) (ho : o.op = .call { callee := .builtin .append, args := #[s, x], argTypes := #[78, 78] })
    (A : Option Addr) (p cap : Nat) (xs : List Int) (v : Int) (hs : a.eval s = .slice A p cap) (hx : a.eval x = .slice (some ⟨wr.heap.size, 0, none⟩) 1 1) (h : Fr w wr A p cap xs) (hb : p ≤ 1000000)
    (hK : ∀ A2 cap2 w2, Fr w w2 A2 (p + 1) cap2 (xs ++ [v]) → wpList Try.prog ops Q rest (a.put o.dst (.slice A2 (p + 1) cap2)) w2) : wpList Try.prog ops Q (o :: rest) a (wr.alloc (.cells #[.int .i64 v] 3)) :=
  wpList_plain hgd fun _ hK' => wp_app1 s x ho A p cap xs v hs hx h hb fun A2 cap2 w2 h2 => hK' _ _ (hK A2 cap2 w2 h2)
theorem step_app1 {Z : Prop} (hgd : o.guard = none) (s x : Operand) (ho : o.op = .call { callee := .builtin .append, args := #[s, x], argTypes := #[78, 78] })
    (A : Option Addr) (p cap : Nat) (xs : List Int) (v : Int) (hs : a.eval s = .slice A p cap) (hx : a.eval x = .slice (some ⟨wr.heap.size, 0, none⟩) 1 1) (h : Fr w wr A p cap xs) (hb : p ≤ 1000000)
    (hK : ∀ A2 cap2 w2, Fr w w2 A2 (p + 1) cap2 (xs ++ [v]) → K (a.put o.dst (.slice A2 (p + 1) cap2)) w2) :
    if Region.wanted o (yielded ops a.tmps) = true then Oper.wp Try.prog o a (wr.alloc (.cells #[.int .i64 v] 3)) K Q else Z := by
  have hw : Region.wanted o (yielded ops a.tmps) = true := by simp [Region.wanted, hgd]
  rw [if_pos hw]
  exact wp_app1 s x ho A p cap xs v hs hx h hb hK
end
/-- A list of numbers, in new memory. -/
def Fresh (w : World) (xs : List Int) (e : Ending) (w' : World) : Prop := ∃ A cap, e = .returned (.slice A xs.length cap) ∧ Nums w.heap.size w' A xs ∧ Only [] w w' ∧ (A = none → xs.length = 0 ∧ cap = 0)
theorem Fr.fresh {w wr : World} {A : Option Addr} {p cap : Nat} {xs : List Int} (h : Fr w wr A p cap xs) : Fresh w xs (.returned (.slice A p cap)) wr := ⟨A, cap, by rw [h.len], h.nums, h.only, fun e => by
  subst e
  rcases h.row.2 with ⟨e, e2⟩ | ⟨g, cap', cur, e, _⟩
  · injection e with _ _ e3
    exact ⟨e2, e3⟩
  · cases e⟩

/-! ### near -/
/-- A slice of integers that came in. -/
def InNums (q : IntKind) (w : World) (A : Option Addr) (len : Nat) (z : Nat → Int) : Prop :=
  ∀ k, k < len → (Lit.int q (z k)).wf = true ∧ ∃ x : Addr, A = some x ∧ (x.add k).block < w.heap.size ∧ w.cell? (x.add k) = some (.int q (z k))
theorem InNums.only0 {q : IntKind} {w w' : World} {A : Option Addr} {len : Nat} {z : Nat → Int} (h : InNums q w A len z) (ho : Only [] w w') : InNums q w' A len z := fun k hk => by
  obtain ⟨h1, x, e, hb, hc⟩ := h k hk
  exact ⟨h1, x, e, Nat.lt_of_lt_of_le hb ho.size, (ho.cell hb (by simp)).trans hc⟩
def nearZ (v : Int) : Int := if modI v 9 ≠ 8 then modI v 4 else v
def nearM (z : Nat → Int) (n : Nat) : List Int := tabC (min n 70) fun k => nearZ (z k)
theorem nearM_len (z : Nat → Int) (n : Nat) : (nearM z n).length ≤ 70 := by unfold nearM; rw [tabC_len]; omega
/-- Numbers that an int can be. -/
def Ints (xs : List Int) : Prop := ∀ k, -9223372036854775808 ≤ gC xs k ∧ gC xs k ≤ 9223372036854775807
theorem nearM_ints {w : World} {A : Option Addr} {n : Nat} {z : Nat → Int} (h : InNums .i64 w A n z) : Ints (nearM z n) := fun k => by
  unfold nearM
  by_cases hk : k < min n 70
  · rw [gC_tab _ _ hk]
    have h1 := i64_to (h k (by omega)).1
    have h2 := modI_lt (z k) (n := 4) (by decide)
    unfold nearZ
    split <;> omega
  · rw [gC_out (by rw [tabC_len]; omega)]; omega
/-! ### the document's Leq, Cmp -/
end Go.Proofs.Ytaaolacfhdfagaa
