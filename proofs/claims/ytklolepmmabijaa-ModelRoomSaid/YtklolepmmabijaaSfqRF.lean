/-
  The document's scheduler: Copy.
-/
import Derived.Test.YtklolepmmabijaaGmA
namespace Go.Proofs.Ytklolepmmabijaa
set_option maxRecDepth 100000
open Go.RowKit
set_option linter.unusedVariables false
set_option linter.unusedSimpArgs false
set_option maxRecDepth 100000

/-- A copy that is under way: the first p flows are there. -/
structure CpyR (w : World) (G : Nat) (S : Sq) (es : List En) (wr : World) (p : Nat) (u : Value) (ds : List En) : Prop where
  blk : QBlk wr G S.v S.m u
  row : pE.Row wr u (ds.map En.b)
  dl : ds.length = p
  key : ds.map En.key = (es.take p).map En.key
  fam : Fam Theirs wr ds (xOf G u)
  new : ∀ k ∈ ownF (xOf G u) ds, w.heap.size ≤ k
  only : Only [] w wr
theorem CpyR.step {w wr w3 W4 w5 : World} {G p : Nat} {S : Sq} {es ds : List En} {u v5 : Value} (h : CpyR w G S es wr p u ds) {e : En} (he : es[p]? = some e) (o3 : Only [] wr w3) {nb : Nat} {O3 : List Nat} (hf : RefOf w3 nb e.id e.F O3) (hO : ∀ k ∈ O3, wr.heap.size ≤ k) (o4 : Only [] w3 W4) (r5 : pE.Row w5 v5 (ds.map En.b ++ [nb])) (g5 : W4.grownBy w5 u.ownBlock) (l5 : v5.ownBlock = u.ownBlock ∨ v5.ownBlock = some W4.heap.size) :
    QBlk w5 G S.v S.m u ∧ CpyR w G S es (w5.setCell ⟨G, 0, none⟩ v5) (p + 1) v5 (ds ++ [⟨e.id, e.F, nb, O3⟩]) := by
  have o34 := o3.trans' o4
  have hu : ∀ g, u.ownBlock = some g → g < wr.heap.size := fun g hg => h.row.lt hg
  have hne : ∀ g, u.ownBlock = some g → g ≠ G := h.row.ne h.blk (by decide)
  have oU : Only u.ownBlock.toList W4 w5 := (Only.refl _ W4).grown g5 (fun k hk => .inl (Option.mem_toList.2 hk))
  have b5 : QBlk w5 G S.v S.m u := (h.blk.only0 o34).only oU (fun hk => hne G (Option.mem_toList.1 hk) rfl)
  have oX : Only (xOf G u) W4 (w5.setCell ⟨G, 0, none⟩ v5) := (oU.mono (T := xOf G u) (fun k hk => .inl (mem_xOf.2 (.inr (Option.mem_toList.1 hk))))).setCell (.inl (mem_xOf.2 (.inl rfl))) _
  have hX' : ∀ k ∈ xOf G v5, k ∈ xOf G u ∨ W4.heap.size ≤ k := fun k hk => by
    rcases mem_xOf.1 hk with rfl | hk
    · exact .inl (mem_xOf.2 (.inl rfl))
    · rcases l5 with l5 | l5
      · exact .inl (mem_xOf.2 (.inr (l5 ▸ hk)))
      · rw [l5] at hk; injection hk with hk; exact .inr (by omega)
  have hfW : RefOf W4 nb e.id e.F O3 := hf.only0 o4
  obtain ⟨f1, g1⟩ := h.fam.added rep_theirs (fun k hk => by
    rcases mem_xOf.1 hk with rfl | hk
    · exact h.blk.lt
    · exact hu k hk) o34 (e := ⟨e.id, e.F, nb, O3⟩) (show RefOf _ _ _ _ _ from hfW) hO ds.length oX hX'
  rw [List.take_length, List.drop_length] at f1 g1
  refine ⟨b5, b5.set0 v5, ?_, by rw [List.length_append, h.dl]; rfl, ?_, f1, fun k hk => ?_, ?_⟩
  · rw [List.map_append]
    exact r5.only ((Only.refl [G] w5).setCell (by simp) _) (fun g hg => by simpa using r5.ne b5 (by decide) g hg)
  · obtain ⟨hl, rfl⟩ := List.getElem?_eq_some_iff.1 he
    rw [List.map_append, h.key, List.take_succ_eq_append_getElem hl, List.map_append]
    rfl
  · rcases g1.2 k hk with h1 | h1
    · exact h.new k h1
    · exact Nat.le_trans h.only.size h1
  · exact h.only.trans g1.1 (fun k hk => .inr (h.new k hk))
end Go.Proofs.Ytklolepmmabijaa
