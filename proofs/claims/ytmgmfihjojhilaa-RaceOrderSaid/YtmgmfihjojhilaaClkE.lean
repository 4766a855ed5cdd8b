/-
  Own: a copy with room behind it in which there is something; Kept: it is there still.
-/
import Derived.Test.YtmgmfihjojhilaaClkD
import Derived.Deep.DeepAppendRoom
namespace Go.Proofs.Ytmgmfihjojhilaa
set_option maxRecDepth 100000
open Go.RowKit
set_option linter.unusedVariables false
set_option linter.unusedSimpArgs false
set_option maxRecDepth 100000

section
variable {w : World} {ops : Array Oper} {o : Oper} {a : Act} {K : Act → World → Prop} {Q : Exit → Act → World → Prop}
/-- A list behind a row that has room for it. -/
theorem wp_appSpare (s x : Operand) (ho : o.op = .call { callee := .builtin .append, args := #[s, x], argTypes := #[23, 23] })
    (g n cap : Nat) (xs : List Int) (A : Option Addr) (m c : Nat) (ys : List Int) (hs : a.eval s = .slice (some ⟨g, 0, none⟩) n cap) (hx : a.eval x = .slice A m c) (h : iE.Row w (.slice (some ⟨g, 0, none⟩) n cap) xs) (hn : xs.length = n) (hsrc : iE.Src w A ys) (hm : ys.length = m) (hroom : n + m ≤ cap)
    (hK : ∀ w2, iE.Row w2 (.slice (some ⟨g, 0, none⟩) (n + m) cap) (xs ++ ys) → w.grownBy w2 (some g) → K (a.put o.dst (.slice (some ⟨g, 0, none⟩) (n + m) cap)) w2) : o.wp Try.prog a w K Q := by
  obtain ⟨i0, hi0, hz0, hz1, hz2⟩ := info_parts iE.info
  rcases ys with _ | ⟨y, ys'⟩
  · obtain rfl : m = 0 := by simpa using hm.symm
    have r1 : (Builtin.append_ #[23, 23] o.type #[.slice (some ⟨g, 0, none⟩) n cap, .slice A 0 c]).run Try.prog w = .ok (.slice (some ⟨g, 0, none⟩) n cap) w ∨ ∃ ad, A = some ad := by
      rcases A with _ | ad
      · left
        rcases h.2 with ⟨e, _⟩ | ⟨g', cap', cur, e, _, _, hnc, _⟩
        · cases e
        · injection e with e1 e2 e3
          injection e1 with e1
          injection e1 with e1
          subst e1 e2 e3
          have hi1 : Try.prog.info? 3 = some i0 := hi0
          simp [Builtin.append_, run_underlying Try.underlying23, sizeOf, typeInfo, hi1, Builtin.lenOf, Builtin.firstCells, hnc, storeCells]
      · exact .inr ⟨ad, rfl⟩
    rcases r1 with r1 | ⟨ad, rfl⟩
    · unfold Oper.wp execOp
      simp only [ho, resolve, invoke, builtin, Sem.run_bind, Sem.run_pure, Result.andThen_ok, List.map_toArray, List.map_cons, List.map_nil, hs, hx, r1]
      exact hK w (by simpa using h) (World.grownBy.refl w _)
    · have hrow : w.ownsRow 0 3 1 (.slice (some ⟨g, 0, none⟩) n cap) n (iE.flat xs) := by rw [← hn]; rw [hn]; have := h; unfold El.Row at this; rw [hn] at this; exact this
      refine wp_append_own_spare w s x 23 ho 0 3 i0 1 Try.underlying23 hi0 hz1 g n cap (iE.flat xs) hs hrow ad 0 c [] hx (by simp) (by simp) (by simp) hroom ?_
      intro w2 h2 g2
      refine hK w2 ?_ g2
      unfold El.Row
      show w2.ownsRow 0 3 1 _ _ _
      simpa [hn] using h2
  · obtain ⟨ad, rfl, hc⟩ := hsrc (by simp)
    generalize y :: ys' = ys at *
    have hrow : w.ownsRow 0 3 1 (.slice (some ⟨g, 0, none⟩) n cap) n (iE.flat xs) := by have := h; unfold El.Row at this; rw [hn] at this; exact this
    refine wp_append_own_spare w s x 23 ho 0 3 i0 1 Try.underlying23 hi0 hz1 g n cap (iE.flat xs) hs hrow ad m c (iE.flat ys) hx (by rw [iE.flat_length, hm]) hc (iE.flat_one ys) hroom ?_
    intro w2 h2 g2
    refine hK w2 ?_ g2
    unfold El.Row
    rw [iE.flat_append, List.length_append, hn, hm]
    exact h2
theorem wpList_appSpare {rest : List Oper} (hgd : o.guard = none) (s x : Operand) (ho : o.op = .call { callee := .builtin .append, args := #[s, x], argTypes := #[23, 23] })
    (g n cap : Nat) (xs : List Int) (A : Option Addr) (m c : Nat) (ys : List Int) (hs : a.eval s = .slice (some ⟨g, 0, none⟩) n cap) (hx : a.eval x = .slice A m c) (h : iE.Row w (.slice (some ⟨g, 0, none⟩) n cap) xs) (hn : xs.length = n) (hsrc : iE.Src w A ys) (hm : ys.length = m) (hroom : n + m ≤ cap) (N : Nat) (hN : n + m = N)
    (hK : ∀ w2, iE.Row w2 (.slice (some ⟨g, 0, none⟩) N cap) (xs ++ ys) → w.grownBy w2 (some g) → wpList Try.prog ops Q rest (a.put o.dst (.slice (some ⟨g, 0, none⟩) N cap)) w2) : wpList Try.prog ops Q (o :: rest) a w := by
  subst hN
  exact wpList_plain hgd fun _ hK' => wp_appSpare s x ho g n cap xs A m c ys hs hx h hn hsrc hm hroom fun w2 h2 h3 => hK' _ _ (hK w2 h2 h3)
end
/-- Cells that are there, and may be written. -/
def Raw (w : World) (g n : Nat) : Prop := ∀ k, k < n → ∃ u, w.cell? ⟨g, k, none⟩ = some u ∧ w.frozen? ⟨g, k, none⟩ = false
theorem Raw.of_row {w : World} {g n cap : Nat} {xs : List Int} (h : iE.Row w (.slice (some ⟨g, 0, none⟩) n cap) xs) : Raw w g cap := by
  rcases h.2 with ⟨e, _⟩ | ⟨g', cap', cur, e, _, hg, _, _, hsz, _⟩
  · cases e
  · injection e with e1 e2 e3
    injection e1 with e1
    injection e1 with e1
    subst e1 e2 e3
    intro k hk
    refine ⟨cur[k]'(by omega), ?_, by simp [World.frozen?, hg]⟩
    rw [cell_of_row w g k cur _ (0, 0) hg]
    simp [show k < cur.size by omega]
theorem Raw.store {w : World} {g n : Nat} (h : Raw w g n) (k : Nat) (v : Value) : Raw (w.setCell ⟨g, k, none⟩ v) g n := fun j hj => by
  obtain ⟨u, hc, hf⟩ := h j hj
  by_cases e : k = j
  · subst e
    exact ⟨v, World.cell?_setCell_same' _ _ _ (by rw [hc]; rfl), by rw [World.frozen?_setCell]; exact hf⟩
  · refine ⟨u, ?_, by rw [World.frozen?_setCell]; exact hf⟩
    rw [World.cell?_setCell_other _ _ _ _ (by intro h2; injection h2 with _ h2; exact e h2)]
    exact hc
/-- One number more, in a cell that is there. -/
theorem Nums.more {B : Nat} {w : World} {g n : Nat} {xs : List Int} (h : Nums B w (some ⟨g, 0, none⟩) xs) (hr : Raw w g n) (hB : B ≤ g) (x : Int) (hk : xs.length < n) : Nums B (w.setCell ⟨g, xs.length, none⟩ (.int .i64 x)) (some ⟨g, 0, none⟩) (xs ++ [x]) := fun j y hy => by
  by_cases hj : j < xs.length
  · rw [List.getElem?_append_left hj] at hy
    obtain ⟨g', e, h1, hc, hf⟩ := h j y hy
    injection e with e
    injection e with e
    subst e
    refine ⟨g, rfl, h1, ?_, by rw [World.frozen?_setCell]; exact hf⟩
    rw [World.cell?_setCell_other _ _ _ _ (by intro h2; injection h2 with _ h2; omega)]
    exact hc
  · rw [List.getElem?_append_right (by omega)] at hy
    have hj2 : j = xs.length := by
      have := (List.getElem?_eq_some_iff.1 hy).1
      simp at this; omega
    subst hj2
    simp at hy
    subst hy
    obtain ⟨u, hc, hf⟩ := hr _ hk
    exact ⟨g, rfl, hB, World.cell?_setCell_same' _ _ _ (by rw [hc]; rfl), by rw [World.frozen?_setCell]; exact hf⟩

end Go.Proofs.Ytmgmfihjojhilaa
