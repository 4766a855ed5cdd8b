/-
  Contracts of the document's Tour: Leaf, Node.
-/
import Derived.Test.YtjblafpbffkapaaTourN
import Derived.IntWalk
namespace Go.Proofs.Ytjblafpbffkapaa
set_option maxRecDepth 100000
open Go.RowKit Go.ChangeMaps Go.MapKept
set_option linter.unusedVariables false
set_option linter.unusedSimpArgs false

/-- The document's: its struct, which leaves have an item, the items. -/
structure RefIs (w : World) (xb hb yb n : Nat) (bs : List Bool) (ys : List It) : Prop where
  blk : Arr w xb 32 [.slice (some ⟨hb, 0, none⟩) n n, .slice (some ⟨yb, 0, none⟩) n n]
  has : Arr w hb 4 (bools bs)
  items : Arr w yb 43 (flat ys)
  blen : bs.length = n
  len : ys.length = n
  n1 : 1 ≤ n
  n16 : n ≤ 16
section
variable {w w' : World} {xb hb yb n : Nat} {bs : List Bool} {ys : List It}
theorem RefIs.c0 (h : RefIs w xb hb yb n bs ys) : w.cell? ⟨xb, 0, none⟩ = some (.slice (some ⟨hb, 0, none⟩) n n) := by rw [h.blk.cell]; rfl
theorem RefIs.c1 (h : RefIs w xb hb yb n bs ys) : w.cell? ⟨xb, 1, none⟩ = some (.slice (some ⟨yb, 0, none⟩) n n) := by rw [h.blk.cell]; rfl
theorem RefIs.it (h : RefIs w xb hb yb n bs ys) {k : Nat} (hk : k < n) : w.cell? ⟨yb, k * 2, none⟩ = some (.int .u64 (gOf ys k).k) ∧ w.cell? ⟨yb, k * 2 + 1, none⟩ = some (.int .i64 (gOf ys k).i) := by
  have := flat_key ys k (by rw [h.len]; exact hk)
  rw [h.items.cell, h.items.cell]
  exact this
theorem RefIs.hb_ (h : RefIs w xb hb yb n bs ys) {k : Nat} (hk : k < n) : w.cell? ⟨hb, k, none⟩ = some (.bool (bOf bs k)) := by
  rw [h.has.cell]; exact bools_at (by rw [h.blen]; exact hk)
theorem RefIs.only {S : List Nat} (h : RefIs w xb hb yb n bs ys) (ho : Only S w w') (h1 : xb ∉ S) (h2 : hb ∉ S) (h3 : yb ∉ S) : RefIs w' xb hb yb n bs ys :=
  ⟨h.blk.only ho h1, h.has.only ho h2, h.items.only ho h3, h.blen, h.len, h.n1, h.n16⟩
theorem RefIs.only0 (h : RefIs w xb hb yb n bs ys) (ho : Only [] w w') : RefIs w' xb hb yb n bs ys := h.only ho (by simp) (by simp) (by simp)
theorem RefIs.ne1 (h : RefIs w xb hb yb n bs ys) : xb ≠ hb := h.blk.ne h.has (by decide)
theorem RefIs.ne2 (h : RefIs w xb hb yb n bs ys) : xb ≠ yb := h.blk.ne h.items (by decide)
theorem RefIs.ne3 (h : RefIs w xb hb yb n bs ys) : hb ≠ yb := h.has.ne h.items (by decide)
theorem RefIs.setHas (h : RefIs w xb hb yb n bs ys) (k : Nat) (v : Bool) : RefIs (w.setCell ⟨hb, k, none⟩ (.bool v)) xb hb yb n (bs.set k v) ys := by
  refine ⟨h.blk.apart h.ne1 _ _, ?_, h.items.apart h.ne3.symm _ _, by simpa using h.blen, h.len, h.n1, h.n16⟩
  have := h.has.store k (.bool v)
  rw [bools_set] at this
  exact this
theorem RefIs.setItem (h : RefIs w xb hb yb n bs ys) (k : Nat) (x : It) : RefIs ((w.setCell ⟨yb, k * 2, none⟩ (.int .u64 x.k)).setCell ⟨yb, k * 2 + 1, none⟩ (.int .i64 x.i)) xb hb yb n bs (ys.set k x) := by
  refine ⟨(h.blk.apart h.ne2 _ _).apart h.ne2 _ _, (h.has.apart h.ne3 _ _).apart h.ne3 _ _, ?_, h.blen, by simpa using h.len, h.n1, h.n16⟩
  have := (h.items.store (k * 2) (.int .u64 x.k)).store (k * 2 + 1) (.int .i64 x.i)
  rw [← flat_set] at this
  exact this
end
/-- The document's, with what its leaves hold. -/
def RefTour (w : World) (xb hb yb n : Nat) (hs : Nat → Bool) (g : Nat → It) : Prop :=
  ∃ bs ys, RefIs w xb hb yb n bs ys ∧ (∀ i, i < n → bOf bs i = hs i) ∧ ∀ i, i < n → hs i = true → gOf ys i = g i
section
variable {w w' : World} {xb hb yb n : Nat} {hs : Nat → Bool} {g : Nat → It}
theorem RefTour.only {S : List Nat} (h : RefTour w xb hb yb n hs g) (ho : Only S w w') (hS : ∀ b ∈ [xb, hb, yb], b ∉ S) : RefTour w' xb hb yb n hs g := by
  obtain ⟨xs, ns, h1, r⟩ := h
  exact ⟨xs, ns, h1.only ho (hS _ (by simp)) (hS _ (by simp)) (hS _ (by simp)), r⟩
theorem RefTour.only0 (h : RefTour w xb hb yb n hs g) (ho : Only [] w w') : RefTour w' xb hb yb n hs g := h.only ho (by simp)
theorem RefTour.lt (h : RefTour w xb hb yb n hs g) : ∀ b ∈ [xb, hb, yb], b < w.heap.size := by
  obtain ⟨xs, ns, h1, r⟩ := h
  intro b hb
  simp only [List.mem_cons, List.not_mem_nil, or_false] at hb
  rcases hb with rfl | rfl | rfl
  · exact h1.blk.lt
  · exact h1.has.lt
  · exact h1.items.lt
end

theorem rLeaf (w : World) (xb hb yb n : Nat) (hs : Nat → Bool) (g : Nat → It) (h : RefTour w xb hb yb n hs g) (i : Int) :
    Calls Try.prog 24 #[.pointer (some ⟨xb, 0, none⟩), .int .i64 i] w fun e w' => e = .returned (.bool (decide (0 ≤ i ∧ i < (n : Int)))) ∧ w' = w := by
  obtain ⟨bs, ys, h, -, -⟩ := h
  have c0 := h.c0
  have hn := h.n16
  clear h
  by_cases h0 : 0 ≤ i
  · have h0' : decide (0 ≤ i) = true := decide_eq_true h0
    by_cases h1 : i < (n : Int)
    · rw [decide_eq_true (⟨h0, h1⟩ : 0 ≤ i ∧ i < (n : Int))]
      go_enter Try.func24, Try.ntmps24
      go_wp2
      go_ret
      exact ⟨rfl, rfl⟩
    · have h1' : decide (i < (n : Int)) = false := decide_eq_false h1
      rw [decide_eq_false (fun h => h1 h.2)]
      go_enter Try.func24, Try.ntmps24
      go_wp2
      go_ret
      exact ⟨rfl, rfl⟩
  · have h0' : decide (0 ≤ i) = false := decide_eq_false h0
    rw [decide_eq_false (fun h => h0 h.1)]
    go_enter Try.func24, Try.ntmps24
    go_wp2
    go_ret
    exact ⟨rfl, rfl⟩
end Go.Proofs.Ytjblafpbffkapaa
