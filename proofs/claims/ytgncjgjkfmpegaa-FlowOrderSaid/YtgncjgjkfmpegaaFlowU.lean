/-
  What FlowOrder's walk keeps: a flow alone, beside two rows of packets of the walk's own.
-/
import Derived.Test.YtgncjgjkfmpegaaFlowT
import Derived.Test.YtgncjgjkfmpegaaFlowY
namespace Go.Proofs.Ytgncjgjkfmpegaa
set_option maxRecDepth 100000
open Go.RowKit
set_option linter.unusedVariables false
set_option linter.unusedSimpArgs false
set_option maxRecDepth 100000

structure FOrd (w0 wr : World) (b : Nat) (F : Fl) (O : List Nat) (vi vo : Value) (I Q : List Pk) : Prop where
  one : FOne w0 wr b F O
  ri : PRow wr vi I
  ro : PRow wr vo Q
  ni : ∀ g, vi.ownBlock = some g → w0.heap.size ≤ g ∧ g ∉ O
  no : ∀ g, vo.ownBlock = some g → w0.heap.size ≤ g ∧ g ∉ O
  ap : ∀ g, vi.ownBlock = some g → vo.ownBlock ≠ some g
section
variable {w0 wr W w' : World} {b : Nat} {F F' : Fl} {O O' : List Nat} {vi vo v2 : Value} {I Q zs : List Pk}
theorem FOrd.swap (h : FOrd w0 wr b F O vi vo I Q) : FOrd w0 wr b F O vo vi Q I := ⟨h.one, h.ro, h.ri, h.no, h.ni, fun g h1 h2 => h.ap g h2 h1⟩
theorem FOrd.only0 (h : FOrd w0 wr b F O vi vo I Q) (ho : Only [] wr w') : FOrd w0 w' b F O vi vo I Q :=
  ⟨h.one.only0 ho, h.ri.only ho (by simp), h.ro.only ho (by simp), h.ni, h.no, h.ap⟩
/-- The flow turned. -/
theorem FOrd.turn (h : FOrd w0 wr b F O vi vo I Q) (h1 : FOne w0 w' b F' O') (hw : Went wr O w' O') : FOrd w0 w' b F' O' vi vo I Q := by
  have out : ∀ {v : Value} {xs : List Pk}, PRow wr v xs → (∀ g, v.ownBlock = some g → w0.heap.size ≤ g ∧ g ∉ O) → ∀ g, v.ownBlock = some g → w0.heap.size ≤ g ∧ g ∉ O' := fun {v xs} hr hn g hg => by
    refine ⟨(hn g hg).1, fun hk => ?_⟩
    rcases hw.2 g hk with h3 | h3
    · exact (hn g hg).2 h3
    · have := hr.lt hg; omega
  exact ⟨h1, h.ri.only hw.1 (fun g hg => (h.ni g hg).2), h.ro.only hw.1 (fun g hg => (h.no g hg).2), out h.ri h.ni, out h.ro h.no, h.ap⟩
/-- The first row grown. -/
theorem FOrd.grow (h : FOrd w0 wr b F O vi vo I Q) (o : Only [] wr W) (hg : W.grownBy w' vi.ownBlock) (hr : PRow w' v2 zs) (hl : v2.ownBlock = vi.ownBlock ∨ v2.ownBlock = some W.heap.size) : FOrd w0 w' b F O v2 vo zs Q := by
  have ho : Only vi.ownBlock.toList wr w' := (o.mono (T := vi.ownBlock.toList) (by simp)).grown hg (fun k hk => .inl (Option.mem_toList.2 hk))
  have hno : ∀ k ∈ O, k ∉ vi.ownBlock.toList := fun k hk hk2 => (h.ni k (Option.mem_toList.1 hk2)).2 hk
  have hW := h.only0 o
  have hv : ∀ g, v2.ownBlock = some g → vi.ownBlock = some g ∨ g = W.heap.size := fun g hg => by
    rcases hl with e | e
    · exact .inl (by rw [← e]; exact hg)
    · rw [e] at hg; injection hg with hg; exact .inr hg.symm
  refine ⟨⟨h.one.fl.only ho hno, h.one.new, h.one.only.trans ho (fun k hk => .inr (h.ni k (Option.mem_toList.1 hk)).1)⟩, hr, h.ro.only ho (fun g hg hk => h.ap g (Option.mem_toList.1 hk) hg), fun g hg => ?_, h.no, fun g hg h2 => ?_⟩
  · rcases hv g hg with h3 | h3
    · exact h.ni g h3
    · subst h3
      exact ⟨hW.one.only.size, fun hk => Nat.lt_irrefl _ (hW.one.fl.lt _ hk)⟩
  · rcases hv g hg with h3 | h3
    · exact h.ap g h3 h2
    · subst h3
      exact Nat.lt_irrefl _ (hW.ro.lt h2)
theorem FOrd.growOut (h : FOrd w0 wr b F O vi vo I Q) (o : Only [] wr W) (hg : W.grownBy w' vo.ownBlock) (hr : PRow w' v2 zs) (hl : v2.ownBlock = vo.ownBlock ∨ v2.ownBlock = some W.heap.size) : FOrd w0 w' b F O vi v2 I zs :=
  (h.swap.grow o hg hr hl).swap
theorem FOrd.start (h : FOne w0 wr b F O) : FOrd w0 wr b F O (.slice none 0 0) (.slice none 0 0) [] [] :=
  ⟨h, PRow.nil _, PRow.nil _, by simp [Value.ownBlock], by simp [Value.ownBlock], by simp [Value.ownBlock]⟩
end
end Go.Proofs.Ytgncjgjkfmpegaa
