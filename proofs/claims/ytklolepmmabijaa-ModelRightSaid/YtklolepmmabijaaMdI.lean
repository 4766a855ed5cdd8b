/-
  A model beside the document's: step.
-/
import Derived.Test.YtklolepmmabijaaMdO
namespace Go.Proofs.Ytklolepmmabijaa
set_option maxRecDepth 100000
open Go.RowKit
set_option linter.unusedVariables false
set_option linter.unusedSimpArgs false
set_option maxRecDepth 100000

/-- A model beside the document's, both the same as numbers. -/
structure Mq (w : World) (b c : Nat) (M : Md) (O P : List Nat) : Prop where
  fl : MdOf b M w O
  rf : NdOf c M w P
  ap : ∀ k ∈ O, k ∉ P
section
variable {w w' : World} {b c : Nat} {M : Md} {O P T : List Nat}
theorem Mq.only (h : Mq w b c M O P) (ho : Only T w w') (hT : ∀ k ∈ O ++ P, k ∉ T) : Mq w' b c M O P :=
  ⟨(rep_md b M).only h.fl ho (fun k hk => hT k (by simp [hk])), (rep_nd c M).only h.rf ho (fun k hk => hT k (by simp [hk])), h.ap⟩
theorem Mq.only0 (h : Mq w b c M O P) (ho : Only [] w w') : Mq w' b c M O P := h.only ho (by simp)
theorem Mq.lt (h : Mq w b c M O P) : ∀ k ∈ O ++ P, k < w.heap.size := by
  intro k hk
  rcases List.mem_append.1 hk with hk | hk
  · exact (rep_md b M).lt h.fl k hk
  · exact (rep_nd c M).lt h.rf k hk
end
/-- Behind ours: what it told lies in v. -/
def Mb (w : World) (N b c : Nat) (cl : Cl) (M M' : Md) (O P : List Nat) (v : Value) (ps : List Pk) (W : World) : Prop :=
  ∃ O', CBox W N cl ∧ MdOf b M' W O' ∧ NdOf c M W P ∧ (∀ k ∈ O', k ∉ P) ∧ Went w O W O' ∧ PRow W v ps ∧ ∀ g, v.ownBlock = some g → w.heap.size ≤ g ∧ g ∉ O'
/-- Behind both. -/
def Mc (w : World) (b c : Nat) (M' : Md) (O P : List Nat) (v v2 : Value) (ps : List Pk) (W : World) : Prop :=
  ∃ O' P', Mq W b c M' O' P' ∧ Went w (O ++ P) W (O' ++ P') ∧ PRow W v ps ∧ PRow W v2 ps ∧ (∀ g, v.ownBlock = some g → w.heap.size ≤ g ∧ g ∉ O' ++ P') ∧ ∀ g, v2.ownBlock = some g → w.heap.size ≤ g ∧ g ∉ O' ++ P'
section
variable {w W U : World} {N b c : Nat} {cl : Cl} {M M' : Md} {O P : List Nat} {v v2 : Value} {ps : List Pk}
theorem Mq.ours (h : Mq W b c M O P) (hw : Only [] w W) (hb : CBox W N cl) (hN : N ∉ O) (t : Tl (MdOf b M') W O v ps U) : Mb w N b c cl M M' O P v ps U := by
  obtain ⟨O', r, g, hp, hn⟩ := t
  refine ⟨O', hb.only g.1 hN, r, (rep_nd c M).only h.rf g.1 (fun k hk hO => h.ap k hO hk), fun k hk hP => ?_, (Went.still hw O).trans g, hp, fun q hq => ⟨Nat.le_trans hw.size (hn q hq).1, (hn q hq).2⟩⟩
  rcases g.2 k hk with h1 | h1
  · exact h.ap k h1 hP
  · have := (rep_nd c M).lt h.rf k hP; omega
theorem Mb.on (h : Mb w N b c cl M M' O P v ps W) (ho : Only [] W U) : Mb w N b c cl M M' O P v ps U := by
  obtain ⟨O', h1, h2, h3, h4, h5, h6, h7⟩ := h
  exact ⟨O', h1.only0 ho, (rep_md b M').only h2 ho (by simp), (rep_nd c M).only h3 ho (by simp), h4, h5.trans (Went.still ho O'), h6.only ho (by simp), h7⟩
theorem Mb.rf (h : Mb w N b c cl M M' O P v ps W) : NdOf c M W P := by
  obtain ⟨O', h1, h2, h3, h4, h5, h6, h7⟩ := h
  exact h3
theorem Mb.theirs (h : Mb w N b c cl M M' O P v ps W) (hP0 : ∀ k ∈ P, k < w.heap.size) (t : Tl (NdOf c M') W P v2 ps U) : Mc w b c M' O P v v2 ps U := by
  obtain ⟨O', h1, h2, h3, h4, h5, h6, h7⟩ := h
  obtain ⟨P', r, g, hp, hn⟩ := t
  have hOP : ∀ k ∈ O', k ∉ P' := fun k hk hk2 => by
    rcases g.2 k hk2 with h8 | h8
    · exact h4 k hk h8
    · have := (rep_md b M').lt h2 k hk; omega
  have hvP : ∀ q, v.ownBlock = some q → q ∉ P := fun q hq hk => by have := (h7 q hq).1; have := hP0 q hk; omega
  refine ⟨O', P', ⟨(rep_md b M').only h2 g.1 h4, r, hOP⟩, h5.two g, h6.only g.1 hvP, hp, fun q hq => ⟨(h7 q hq).1, fun hk => ?_⟩, fun q hq => ⟨Nat.le_trans h5.1.size (hn q hq).1, fun hk => ?_⟩⟩
  · rcases List.mem_append.1 hk with hk | hk
    · exact (h7 q hq).2 hk
    · rcases g.2 q hk with h8 | h8
      · exact hvP q hq h8
      · have := h6.lt hq; omega
  · rcases List.mem_append.1 hk with hk | hk
    · have := (hn q hq).1; have := (rep_md b M').lt h2 q hk; omega
    · exact (hn q hq).2 hk
theorem Mc.on (h : Mc w b c M' O P v v2 ps W) (ho : Only [] W U) : Mc w b c M' O P v v2 ps U := by
  obtain ⟨O', P', h1, h2, h3, h4, h5, h6⟩ := h
  exact ⟨O', P', h1.only0 ho, h2.trans (Went.still ho _), h3.only ho (by simp), h4.only ho (by simp), h5, h6⟩
end
end Go.Proofs.Ytklolepmmabijaa
