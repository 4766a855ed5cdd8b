/-
  Rows of ints side by side, while one of them grows; Own as such a row.
-/
import Derived.Test.YtenccllbgffojaaClkL
namespace Go.Proofs.Ytenccllbgffojaa
set_option maxRecDepth 100000
open Go.RowKit
set_option linter.unusedVariables false
set_option linter.unusedSimpArgs false
set_option maxRecDepth 100000

/-- They lie in different blocks. -/
def Apart (A A' : Option Addr) : Prop := ∀ g, (Value.slice A 0 0).ownBlock = some g → (Value.slice A' 0 0).ownBlock ≠ some g
theorem own_len (A : Option Addr) (p cap : Nat) : (Value.slice A p cap).ownBlock = (Value.slice A 0 0).ownBlock := by cases A <;> rfl
section
variable {w wr : World} {ops : Array Oper} {o : Oper} {a : Act} {K : Act → World → Prop} {Q : Exit → Act → World → Prop}
/-- What stays, when the row A grew. -/
def Sib (w wr w2 : World) (A A2 : Option Addr) : Prop := ∀ A' p' cap' ys, Fr w wr A' p' cap' ys → Apart A A' → Fr w w2 A' p' cap' ys ∧ Apart A2 A'
theorem wpList_app2 {rest : List Oper} (hgd : o.guard = none) (s x : Operand) (ho : o.op = .call { callee := .builtin .append, args := #[s, x], argTypes := #[22, 22] })
    (A : Option Addr) (p cap : Nat) (xs : List Int) (v : Int) (hs : a.eval s = .slice A p cap) (hx : a.eval x = .slice (some ⟨wr.heap.size, 0, none⟩) 1 1) (h : Fr w wr A p cap xs) (hb : p ≤ 1000000)
    (hK : ∀ A2 cap2 w2, Fr w w2 A2 (p + 1) cap2 (xs ++ [v]) → Sib w wr w2 A A2 → wpList Try.prog ops Q rest (a.put o.dst (.slice A2 (p + 1) cap2)) w2) : wpList Try.prog ops Q (o :: rest) a (wr.alloc (.cells #[.int .i64 v] 3)) := by
  refine wpList_plain hgd fun _ hK' => ?_
  have oB : Only [] wr (wr.alloc (.cells #[.int .i64 v] 3)) := (Only.refl [] wr).alloc _
  refine El.wp_append (E := iE) Try.underlying22 s x ho (.slice A p cap) xs hs (h.row.only0 oB) _ 1 1 [v] hx rfl (El.Src.box (E := iE) (x := v) (heap_alloc_new wr _)) (p + 1) (by rw [h.len]) (by omega) ?_
  intro A2 cap2 w2 r2 g2 l2
  refine hK' _ _ (hK A2 cap2 w2 (h.snoc oB r2 g2 l2) fun A' p' cap' ys h' hap => ?_)
  have hlt : ∀ g, (Value.slice A' p' cap').ownBlock = some g → g < wr.heap.size := fun g hg => h'.row.lt hg
  refine ⟨⟨?_, h'.len, h'.new, (h'.only.trans' oB).grown g2 (fun k hk => .inr (h.new k hk))⟩, fun g hg => ?_⟩
  · refine (h'.row.only0 oB).keep fun g hg => g2.block g (Nat.lt_of_lt_of_le (hlt g hg) oB.size) fun e => ?_
    rw [own_len] at hg
    rw [own_len] at e
    exact hap g e.symm hg
  · rw [own_len] at l2
    rcases l2 with l2 | l2
    · exact hap g (by rw [← own_len A p cap, ← l2]; exact hg)
    · rw [l2] at hg
      intro h9
      have h8 := hlt g (by rw [own_len]; exact h9)
      simp at hg
      omega
end
theorem Fr.ck {w wr : World} {A : Option Addr} {p cap : Nat} {xs : List Int} (h : Fr w wr A p cap xs) (hp : p ≤ 90000) : Ck wr A p cap xs :=
  ⟨h.nums.zero, h.len, hp, fun e => by
    subst e
    rcases h.row.2 with ⟨e, e2⟩ | ⟨g, cap', cur, e, _⟩
    · injection e with _ _ e3
      exact ⟨by rw [← h.len]; exact e2, e3⟩
    · cases e⟩
/-- Own of a list: a row of its own, and what lies behind it. -/
theorem Ck.own {W : World} {A : Option Addr} {m c : Nat} {xs : List Int} (h : Ck W A m c xs) (v : Int) :
    Calls Try.prog 23 #[.slice A m c, .int .i64 v] W fun e w' => ∃ g, e = .returned (.slice (some ⟨g, 0, none⟩) m (m + 3)) ∧ Fr W w' (some ⟨g, 0, none⟩) m (m + 3) xs ∧ Nums 0 w' (some ⟨g, 0, none⟩) (xs ++ List.replicate 3 v) ∧ g < w'.heap.size :=
  (cOwn A m c xs v W h.len (by have := h.small; omega) h.nums).mono fun e w' ⟨g, h1, h2, h3, h4, h5⟩ => ⟨g, h1, ⟨h5, h.len, fun k hk => by simp [Value.ownBlock] at hk; omega, h3⟩, h2.zero, h5.lt (by simp [Value.ownBlock])⟩
theorem Fr.from {w0 w wr : World} {A : Option Addr} {p cap : Nat} {xs : List Int} (h : Fr w wr A p cap xs) (ho : Only [] w0 w) : Fr w0 wr A p cap xs :=
  ⟨h.row, h.len, fun k hk => Nat.le_trans ho.size (h.new k hk), ho.trans' h.only⟩
theorem apart_of {g g' : Nat} (h : g ≠ g') : Apart (some ⟨g, 0, none⟩) (some ⟨g', 0, none⟩) := fun k hk hk' => by
  simp [Value.ownBlock] at hk hk'
  omega
theorem zeros_leq (a b : List Int) (n m : Nat) : leqB (a ++ List.replicate n 0) (b ++ List.replicate m 0) = leqB a b := leqB_congr (gC_zeros a n) (gC_zeros b m)
theorem zeros_cmp (a b : List Int) (n m : Nat) : cmpM (a ++ List.replicate n 0) (b ++ List.replicate m 0) = cmpM a b := cmpM_congr (gC_zeros a n) (gC_zeros b m)
theorem zeros_same (a : List Int) (n : Nat) : cmpM (a ++ List.replicate n 0) a = 0 := cmpM_same (gC_zeros a n)
theorem zeros_join (a b : List Int) (n m : Nat) : cmpM (joinM (a ++ List.replicate n 0) (b ++ List.replicate m 0)) (joinM a b) = 0 := cmpM_same fun k => by
  rw [gC_join, gC_join, gC_zeros, gC_zeros]
end Go.Proofs.Ytenccllbgffojaa
