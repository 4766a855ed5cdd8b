/-
  Rows of rows of bools: who comes before whom.
-/
import Derived.Test.YtmgmfihjojhilaaRcV
import Derived.Test.YtmgmfihjojhilaaRcU
namespace Go.Proofs.Ytmgmfihjojhilaa
open Go.RowKit
set_option linter.unusedVariables false
set_option linter.unusedSimpArgs false
set_option maxRecDepth 100000

/-- Bools in a row. -/
def bE : El Bool 1 where
  T := 4
  cs := fun x => [.bool x]
  z := .bool false
  wide := 1
  len := fun _ => rfl
  one := fun x u hu => by
    simp at hu
    subst hu
    rfl
  pos := by decide
  info := by kernel_rfl
  zs := rfl
  small := by decide
/-- Rows of bools in a row. -/
def gE : El Sl 1 where
  T := 45
  cs := fun s => [.slice s.A s.n s.c]
  z := .slice none 0 0
  wide := 24
  len := fun _ => rfl
  one := fun x u hu => by
    simp at hu
    subst hu
    rfl
  pos := by decide
  info := by kernel_rfl
  zs := rfl
  small := by decide
/-- Who comes before whom. -/
def bf (l : Nat → Ev) (i j : Nat) : Bool := decide (i ≠ j) && leqB (clk l i) (clk l j)
/-- What an order of events keeps. -/
structure BF (l : Nat → Ev) (f : Nat → Nat → Bool) (n : Nat) : Prop where
  ahead : ∀ i j, i < n → j < n → f i j = true → i < j
  same : ∀ i j, i < j → j < n → (l i).who = (l j).who → f i j = true
  chain : ∀ i j k, i < n → j < n → k < n → f i j = true → f j k = true → f i k = true
theorem BF.of {l : Nat → Ev} {n : Nat} (hok : ∀ i, i < n → okE (l i) = true) (hN : n ≤ 100000) : BF l (bf l) n := by
  have hs : ∀ i j, bf l i j = true ↔ i ≠ j ∧ leqB (clk l i) (clk l j) = true := fun i j => by simp [bf]
  have ah : ∀ i j, i < n → j < n → bf l i j = true → i < j := fun i j hi hj h => by
    obtain ⟨h1, h2⟩ := (hs i j).1 h
    exact clk_ahead hok hN hi hj h1 h2
  refine ⟨ah, fun i j hij hj hw => (hs i j).2 ⟨by omega, clk_same hok hN hij hj hw⟩, fun i j k hi hj hk h1 h2 => (hs i k).2 ⟨?_, leq_trans ((hs i j).1 h1).2 ((hs j k).1 h2).2⟩⟩
  have := ah i j hi hj h1
  have := ah j k hj hk h2
  omega
/-- n rows of n bools are told one by one: p of them are done. -/
structure BO (v wr : World) (gb n : Nat) (f : Nat → Nat → Bool) (p : Nat) : Prop where
  only : Only [] v wr
  ge : v.heap.size ≤ gb
  lt : gb < wr.heap.size
  here : ∀ k, k < n → (∃ u, wr.cell? ⟨gb, k, none⟩ = some u) ∧ wr.frozen? ⟨gb, k, none⟩ = false
  rows : ∀ i, i < p → ∃ g, gb < g ∧ g < wr.heap.size ∧ wr.cell? ⟨gb, i, none⟩ = some (.slice (some ⟨g, 0, none⟩) n n) ∧ ∀ j, j < n → wr.cell? ⟨g, j, none⟩ = some (.bool (f i j))
/-- The row i is under way, in block G: q of its bools are told. -/
structure BI (v wr : World) (gb n : Nat) (f : Nat → Nat → Bool) (i G q : Nat) : Prop where
  only : Only [] v wr
  ge : v.heap.size ≤ gb
  gG : gb < G
  lt : G < wr.heap.size
  here : ∀ k, k < n → (∃ u, wr.cell? ⟨gb, k, none⟩ = some u) ∧ wr.frozen? ⟨gb, k, none⟩ = false
  rows : ∀ k, k < i → ∃ g, gb < g ∧ g < G ∧ wr.cell? ⟨gb, k, none⟩ = some (.slice (some ⟨g, 0, none⟩) n n) ∧ ∀ j, j < n → wr.cell? ⟨g, j, none⟩ = some (.bool (f k j))
  row : wr.cell? ⟨gb, i, none⟩ = some (.slice (some ⟨G, 0, none⟩) n n)
  cells : ∀ j, j < n → wr.frozen? ⟨G, j, none⟩ = false ∧ ∃ b, wr.cell? ⟨G, j, none⟩ = some (.bool b) ∧ (j < q → b = f i j)
section
variable {v wr w' : World} {gb n : Nat} {f : Nat → Nat → Bool} {p i G q : Nat}
theorem Only.at_ {w w' : World} (ho : Only [] w w') {p : Addr} {u : Value} (h : w.cell? p = some u) : w'.cell? p = some u := (ho.cell (World.block_lt_of_cell? w _ h) (by simp)).trans h
theorem Only.froz {w w' : World} (ho : Only [] w w') {p : Addr} (hp : p.block < w.heap.size) (h : w.frozen? p = false) : w'.frozen? p = false := (World.frozen?_of_block (w := w) (ho.block p.block hp (by simp))).trans h
theorem BO.only0 (h : BO v wr gb n f p) (ho : Only [] wr w') : BO v w' gb n f p :=
  ⟨h.only.trans' ho, h.ge, Nat.lt_of_lt_of_le h.lt ho.size, fun k hk => ⟨(h.here k hk).1.imp fun u hu => ho.at_ hu, ho.froz h.lt (h.here k hk).2⟩, fun i hi => by
    obtain ⟨g, h1, h2, h3, h4⟩ := h.rows i hi
    exact ⟨g, h1, Nat.lt_of_lt_of_le h2 ho.size, ho.at_ h3, fun j hj => ho.at_ (h4 j hj)⟩⟩
theorem BI.only0 (h : BI v wr gb n f i G q) (ho : Only [] wr w') : BI v w' gb n f i G q :=
  ⟨h.only.trans' ho, h.ge, h.gG, Nat.lt_of_lt_of_le h.lt ho.size, fun k hk => ⟨(h.here k hk).1.imp fun u hu => ho.at_ hu, ho.froz (Nat.lt_trans h.gG h.lt) (h.here k hk).2⟩, fun i hi => by
    obtain ⟨g, h1, h2, h3, h4⟩ := h.rows i hi
    exact ⟨g, h1, h2, ho.at_ h3, fun j hj => ho.at_ (h4 j hj)⟩, ho.at_ h.row, fun j hj => by
    obtain ⟨h1, b, h2, h3⟩ := h.cells j hj
    exact ⟨ho.froz h.lt h1, b, ho.at_ h2, h3⟩⟩
theorem BO.start (ho : Only [] v wr) (hn : n ≤ 1000000) : BO v (wr.alloc (.cells (madeCells gE.z.cells (n * 1)) gE.T)) wr.heap.size n f 0 := by
  have r := El.Row.made (E := gE) ⟨none, 0, 0⟩ rfl wr n hn
  refine ⟨ho.alloc _, ho.size, by rw [World.size_alloc]; omega, fun k hk => ?_, fun i hi => absurd hi (by omega)⟩
  obtain ⟨g, e, _, hc⟩ := r.cell (k := k) (x := ⟨none, 0, 0⟩) (by simp [hk])
  injection e with e
  injection e with e
  subst e
  have c := hc 0 _ rfl
  rw [show k * 1 + 0 = k by omega] at c
  exact ⟨⟨_, c.1⟩, c.2⟩
theorem BO.row (h : BO v wr gb n f i) (hi : i < n) (hn : n ≤ 1000000) : BI v ((wr.alloc (.cells (madeCells bE.z.cells (n * 1)) bE.T)).setCell ⟨gb, i, none⟩ (.slice (some ⟨wr.heap.size, 0, none⟩) n n)) gb n f i wr.heap.size 0 := by
  have r := El.Row.made (E := bE) false rfl wr n hn
  have hc : ∀ k, k < n → (wr.alloc (.cells (madeCells bE.z.cells (n * 1)) bE.T)).cell? ⟨wr.heap.size, k, none⟩ = some (.bool false) ∧ (wr.alloc (.cells (madeCells bE.z.cells (n * 1)) bE.T)).frozen? ⟨wr.heap.size, k, none⟩ = false := fun k hk => by
    obtain ⟨g, e, _, hc⟩ := r.cell (k := k) (x := false) (by simp [hk])
    injection e with e
    injection e with e
    subst e
    have c := hc 0 _ rfl
    rw [show k * 1 + 0 = k by omega] at c
    exact c
  have hz : (wr.alloc (.cells (madeCells bE.z.cells (n * 1)) bE.T)).heap.size = wr.heap.size + 1 := World.size_alloc _ _
  have oA : Only [] wr (wr.alloc (.cells (madeCells bE.z.cells (n * 1)) bE.T)) := (Only.refl [] wr).alloc _
  have h1 := h.only0 oA
  have hr : ∀ k, k < i → ∃ g, gb < g ∧ g < wr.heap.size ∧ (wr.alloc (.cells (madeCells bE.z.cells (n * 1)) bE.T)).cell? ⟨gb, k, none⟩ = some (.slice (some ⟨g, 0, none⟩) n n) ∧ ∀ j, j < n → (wr.alloc (.cells (madeCells bE.z.cells (n * 1)) bE.T)).cell? ⟨g, j, none⟩ = some (.bool (f k j)) := fun k hk => by
    obtain ⟨g, r1, r2, r3, r4⟩ := h.rows k hk
    exact ⟨g, r1, r2, oA.at_ r3, fun j hj => oA.at_ (r4 j hj)⟩
  have hlt := h.lt
  have hge := h.ge
  clear h r oA
  generalize wr.alloc (.cells (madeCells bE.z.cells (n * 1)) bE.T) = W at *
  generalize wr.heap.size = G at *
  have ot : ∀ {a : Addr} {u : Value}, a ≠ ⟨gb, i, none⟩ → W.cell? a = some u → (W.setCell ⟨gb, i, none⟩ (.slice (some ⟨G, 0, none⟩) n n)).cell? a = some u := fun hne hu => (World.cell?_setCell_other _ _ _ _ (fun e => hne e.symm)).trans hu
  have sm : (W.setCell ⟨gb, i, none⟩ (.slice (some ⟨G, 0, none⟩) n n)).cell? ⟨gb, i, none⟩ = some (.slice (some ⟨G, 0, none⟩) n n) := by
    obtain ⟨u, hu⟩ := (h1.here i hi).1
    exact World.cell?_setCell_same' _ _ _ (by rw [hu]; rfl)
  refine ⟨h1.only.setCell (.inr hge) _, hge, hlt, by simp [World.setCell]; omega, fun k hk => ⟨?_, by rw [World.frozen?_setCell]; exact (h1.here k hk).2⟩, fun k hk => ?_, sm, fun j hj => ⟨by rw [World.frozen?_setCell]; exact (hc j hj).2, false, ot (by intro e; injection e with e; omega) (hc j hj).1, fun h9 => absurd h9 (by omega)⟩⟩
  · by_cases e : k = i
    · subst e; exact ⟨_, sm⟩
    · obtain ⟨u, hu⟩ := (h1.here k hk).1
      exact ⟨u, ot (by intro e9; injection e9 with _ e9; exact e e9) hu⟩
  · obtain ⟨g, r1, r2, s3, s4⟩ := hr k hk
    exact ⟨g, r1, r2, ot (by intro e9; injection e9 with _ e9; omega) s3, fun j hj => ot (by intro e9; injection e9 with e9; omega) (s4 j hj)⟩
theorem BI.put (h : BI v wr gb n f i G q) (hq : q < n) : BI v (wr.setCell ⟨G, q, none⟩ (.bool (f i q))) gb n f i G (q + 1) := by
  have hge := h.ge
  have hgG := h.gG
  have ot : ∀ {a : Addr} {u : Value}, a ≠ ⟨G, q, none⟩ → wr.cell? a = some u → (wr.setCell ⟨G, q, none⟩ (.bool (f i q))).cell? a = some u := fun hne hu => (World.cell?_setCell_other _ _ _ _ (fun e => hne e.symm)).trans hu
  refine ⟨h.only.setCell (.inr (by show _ ≤ G; omega)) _, h.ge, h.gG, by have := h.lt; simpa [World.setCell] using this, fun k hk => ⟨?_, by rw [World.frozen?_setCell]; exact (h.here k hk).2⟩, fun k hk => ?_, ot (by intro e; injection e with e; omega) h.row, fun j hj => ⟨by rw [World.frozen?_setCell]; exact (h.cells j hj).1, ?_⟩⟩
  · obtain ⟨u, hu⟩ := (h.here k hk).1
    exact ⟨u, ot (by intro e; injection e with e; omega) hu⟩
  · obtain ⟨g, r1, r2, r3, r4⟩ := h.rows k hk
    exact ⟨g, r1, r2, ot (by intro e9; injection e9 with e9; omega) r3, fun j hj => ot (by intro e9; injection e9 with e9; omega) (r4 j hj)⟩
  · obtain ⟨_, b, c1, c2⟩ := h.cells j hj
    by_cases e : j = q
    · subst e
      exact ⟨_, World.cell?_setCell_same' _ _ _ (by rw [c1]; rfl), fun _ => rfl⟩
    · exact ⟨b, ot (by intro e9; injection e9 with _ e9; exact e e9) c1, fun h9 => c2 (by omega)⟩
theorem BI.done (h : BI v wr gb n f i G n) : BO v wr gb n f (i + 1) := by
  refine ⟨h.only, h.ge, Nat.lt_trans h.gG h.lt, h.here, fun k hk => ?_⟩
  by_cases e : k = i
  · subst e
    refine ⟨G, h.gG, h.lt, h.row, fun j hj => ?_⟩
    obtain ⟨_, b, c1, c2⟩ := h.cells j hj
    rw [c1, c2 hj]
  · obtain ⟨g, r1, r2, r3, r4⟩ := h.rows k (by omega)
    exact ⟨g, r1, Nat.lt_trans r2 h.lt, r3, r4⟩
end
end Go.Proofs.Ytmgmfihjojhilaa
