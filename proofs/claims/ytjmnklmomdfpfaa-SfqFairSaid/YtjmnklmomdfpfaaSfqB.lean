/-
  A scheduler in memory: kinds of elements, families of flows (ours and the document's), the structs.
-/
import Derived.Test.YtjmnklmomdfpfaaSfqM
import Derived.Test.YtjmnklmomdfpfaaRowG
import Derived.Test.YtjmnklmomdfpfaaFlowG
namespace Go.Proofs.Ytjmnklmomdfpfaa
set_option maxRecDepth 100000
open Go.RowKit
set_option linter.unusedVariables false
set_option linter.unusedSimpArgs false

def ptr (b : Nat) : Value := .pointer (some ⟨b, 0, none⟩)
/-- member: a number and a flow (or none). -/
def mE : El (Int × Option Nat) 2 where
  T := 89
  cs := fun x => [.int .i64 x.1, .pointer (x.2.map fun b => ⟨b, 0, none⟩)]
  z := .agg #[.int .i64 0, .pointer none]
  wide := 16
  len := fun _ => rfl
  one := fun x u hu => by
    simp at hu
    rcases hu with rfl | rfl <;> rfl
  pos := by decide
  info := by kernel_rfl
  zs := rfl
  small := by decide
/-- turn: an item and a flow. -/
def tE : El (It × Nat) 3 where
  T := 76
  cs := fun x => [.int .u64 x.1.k, .int .i64 x.1.i, .pointer (some ⟨x.2, 0, none⟩)]
  z := .agg #[.int .u64 0, .int .i64 0, .pointer none]
  wide := 24
  len := fun _ => rfl
  one := fun x u hu => by
    simp at hu
    rcases hu with rfl | rfl | rfl <;> rfl
  pos := by decide
  info := by kernel_rfl
  zs := rfl
  small := by decide
/-- The document's flows. -/
def pE : El Nat 1 where
  T := 85
  cs := fun b => [.pointer (some ⟨b, 0, none⟩)]
  z := .pointer none
  wide := 8
  len := fun _ => rfl
  one := fun x u hu => by
    simp at hu
    subst hu
    rfl
  pos := by decide
  info := by kernel_rfl
  zs := rfl
  small := by decide
/-- ints. -/
def iE : El Int 1 where
  T := 3
  cs := fun a => [.int .i64 a]
  z := .int .i64 0
  wide := 8
  len := fun _ => rfl
  one := fun x u hu => by
    simp at hu
    subst hu
    rfl
  pos := by decide
  info := by kernel_rfl
  zs := rfl
  small := by decide

/-! ### families -/
/-- An entry: a flow's number, what it is, its block, what it owns. -/
structure En where
  id : Int
  F : Fl
  b : Nat
  O : List Nat
def En.key (e : En) : Int × Fl := (e.id, e.F)
def En.mb (e : En) : Int × Option Nat := (e.id, some e.b)
structure Rep (R : World → En → Prop) : Prop where
  only : ∀ {w w' : World} {e : En} {S : List Nat}, R w e → Only S w w' → (∀ k ∈ e.O, k ∉ S) → R w' e
  lt : ∀ {w : World} {e : En}, R w e → ∀ k ∈ e.O, k < w.heap.size
def Ours (w : World) (e : En) : Prop := FlowOf w e.b e.F e.O
def Theirs (w : World) (e : En) : Prop := RefOf w e.b e.id e.F e.O
theorem rep_ours : Rep Ours := ⟨fun h ho hS => FlowOf.only h ho hS, fun h => FlowOf.lt h⟩
theorem rep_theirs : Rep Theirs := ⟨fun h ho hS => RefOf.only h ho hS, fun h => RefOf.lt h⟩
/-- Flows that have nothing in common, nor with X. -/
structure Fam (R : World → En → Prop) (w : World) (es : List En) (X : List Nat) : Prop where
  each : ∀ e ∈ es, R w e
  ap : es.Pairwise fun a c => ∀ k ∈ a.O, k ∉ c.O
  apX : ∀ e ∈ es, ∀ k ∈ e.O, k ∉ X
def ownF (X : List Nat) (es : List En) : List Nat := X ++ es.flatMap En.O
theorem mem_ownF {X : List Nat} {es : List En} {k : Nat} : k ∈ ownF X es ↔ k ∈ X ∨ ∃ e ∈ es, k ∈ e.O := by simp [ownF]
theorem Fam.apart {R : World → En → Prop} {w : World} {es : List En} {X : List Nat} (h : Fam R w es X) {i : Nat} {e d : En} (hi : es[i]? = some e) {j : Nat} (hj : es[j]? = some d) (hne : i ≠ j) : ∀ k ∈ e.O, k ∉ d.O := by
  obtain ⟨hi', rfl⟩ := List.getElem?_eq_some_iff.1 hi
  obtain ⟨hj', rfl⟩ := List.getElem?_eq_some_iff.1 hj
  rcases Nat.lt_or_ge i j with h1 | h1
  · exact List.pairwise_iff_getElem.1 h.ap i j hi' hj' h1
  · intro k hk hk2
    exact List.pairwise_iff_getElem.1 h.ap j i hj' hi' (by omega) k hk2 hk
section
variable {R : World → En → Prop} (hR : Rep R) {w w' : World} {es : List En} {X : List Nat}
include hR
theorem Fam.only {S : List Nat} (h : Fam R w es X) (ho : Only S w w') (hS : ∀ e ∈ es, ∀ k ∈ e.O, k ∉ S) : Fam R w' es X :=
  ⟨fun e he => hR.only (h.each e he) ho (hS e he), h.ap, h.apX⟩
theorem Fam.only0 (h : Fam R w es X) (ho : Only [] w w') : Fam R w' es X := h.only hR ho (by simp)
/-- X alone turned. -/
theorem Fam.onlyX (h : Fam R w es X) (ho : Only X w w') {X' : List Nat} (hX : ∀ k ∈ X', k ∈ X ∨ w.heap.size ≤ k) : Fam R w' es X' ∧ Went w (ownF X es) w' (ownF X' es) := by
  refine ⟨⟨(h.only hR ho h.apX).each, h.ap, fun e he k hk hk2 => ?_⟩, ho.mono (fun k hk => .inl (mem_ownF.2 (.inl hk))), fun k hk => ?_⟩
  · rcases hX k hk2 with h1 | h1
    · exact h.apX e he k hk h1
    · have := hR.lt (h.each e he) k hk; omega
  · rcases mem_ownF.1 hk with h1 | h1
    · rcases hX k h1 with h2 | h2
      · exact .inl (mem_ownF.2 (.inl h2))
      · exact .inr h2
    · exact .inl (mem_ownF.2 (.inr h1))
/-- One flow turned. -/
theorem Fam.set (h : Fam R w es X) {i : Nat} {e e' : En} (hi : es[i]? = some e) (hr : R w' e') (hw : Went w e.O w' e'.O) (hX : ∀ k ∈ X, k < w.heap.size) :
    Fam R w' (es.set i e') X ∧ Went w (ownF X es) w' (ownF X (es.set i e')) := by
  have hil : i < es.length := (List.getElem?_eq_some_iff.1 hi).1
  have hem : e ∈ es := List.mem_of_getElem? hi
  have hget : ∀ j d, (es.set i e')[j]? = some d → (j = i ∧ d = e') ∨ (j ≠ i ∧ es[j]? = some d) := fun j d hd => by
    rw [List.getElem?_set] at hd
    by_cases e1 : i = j
    · subst e1
      rw [if_pos rfl, if_pos hil] at hd
      injection hd with hd
      exact .inl ⟨rfl, hd.symm⟩
    · rw [if_neg e1] at hd
      exact .inr ⟨fun e2 => e1 e2.symm, hd⟩
  have hold : ∀ j d, j ≠ i → es[j]? = some d → R w' d ∧ ∀ k ∈ d.O, k ∉ e'.O := fun j d hj hd => by
    have ha := h.apart hd hi hj
    have hd' := h.each d (List.mem_of_getElem? hd)
    refine ⟨hR.only hd' hw.1 ha, fun k hk hk2 => ?_⟩
    rcases hw.2 k hk2 with h1 | h1
    · exact ha k hk h1
    · have := hR.lt hd' k hk; omega
  refine ⟨⟨fun d hd => ?_, ?_, fun d hd k hk hkX => ?_⟩, ?_, fun k hk => ?_⟩
  · obtain ⟨j, hj⟩ := List.getElem?_of_mem hd
    rcases hget j d hj with ⟨_, rfl⟩ | ⟨h1, h2⟩
    · exact hr
    · exact (hold j d h1 h2).1
  · refine List.pairwise_iff_getElem.2 fun a b ha hb hab => ?_
    have ga := hget a _ (List.getElem?_eq_getElem ha)
    have gb := hget b _ (List.getElem?_eq_getElem hb)
    rcases ga with ⟨rfl, ga⟩ | ⟨na, ga⟩
    · rcases gb with ⟨rfl, gb⟩ | ⟨nb, gb⟩
      · omega
      · rw [ga]
        intro k hk hk2
        exact (hold b _ nb gb).2 k hk2 hk
    · rcases gb with ⟨rfl, gb⟩ | ⟨nb, gb⟩
      · rw [gb]
        exact (hold a _ na ga).2
      · exact h.apart ga gb (by omega)
  · obtain ⟨j, hj⟩ := List.getElem?_of_mem hd
    rcases hget j d hj with ⟨_, rfl⟩ | ⟨h1, h2⟩
    · rcases hw.2 k hk with h3 | h3
      · exact h.apX e hem k h3 hkX
      · have := hX k hkX; omega
    · exact h.apX d (List.mem_of_getElem? h2) k hk hkX
  · exact hw.1.mono (fun k hk => .inl (mem_ownF.2 (.inr ⟨e, hem, hk⟩)))
  · rcases mem_ownF.1 hk with h1 | ⟨d, hd, hkd⟩
    · exact .inl (mem_ownF.2 (.inl h1))
    · obtain ⟨j, hj⟩ := List.getElem?_of_mem hd
      rcases hget j d hj with ⟨_, rfl⟩ | ⟨h1, h2⟩
      · rcases hw.2 k hkd with h3 | h3
        · exact .inl (mem_ownF.2 (.inr ⟨e, hem, h3⟩))
        · exact .inr h3
      · exact .inl (mem_ownF.2 (.inr ⟨d, List.mem_of_getElem? h2, hkd⟩))
end
section
variable {R : World → En → Prop} {w : World} {es : List En} {X : List Nat}
/-- One more. -/
theorem Fam.insert (h : Fam R w es X) (i : Nat) {e : En} (hr : R w e) (hX : ∀ k ∈ e.O, k ∉ X) (hes : ∀ d ∈ es, ∀ k ∈ e.O, k ∉ d.O) : Fam R w (es.take i ++ e :: es.drop i) X := by
  have hm : ∀ d, d ∈ es.take i ++ e :: es.drop i → d = e ∨ d ∈ es := fun d hd => by
    rcases List.mem_append.1 hd with hd | hd
    · exact .inr (List.mem_of_mem_take hd)
    · rcases List.mem_cons.1 hd with rfl | hd
      · exact .inl rfl
      · exact .inr (List.mem_of_mem_drop hd)
  refine ⟨fun d hd => (hm d hd).elim (fun e1 => e1 ▸ hr) (h.each d), ?_, fun d hd => (hm d hd).elim (fun e1 => e1 ▸ hX) (h.apX d)⟩
  have h' := h.ap
  rw [← List.take_append_drop i es] at h'
  obtain ⟨p1, p2, p3⟩ := List.pairwise_append.1 h'
  refine List.pairwise_append.2 ⟨p1, List.pairwise_cons.2 ⟨fun d hd => hes d (List.mem_of_mem_drop hd), p2⟩, fun a ha b hb => ?_⟩
  rcases List.mem_cons.1 hb with rfl | hb
  · intro k hk hk2
    exact hes a (List.mem_of_mem_take ha) k hk2 hk
  · exact p3 a ha b hb
theorem Fam.sub (h : Fam R w es X) {ds : List En} (hd : ds.Sublist es) : Fam R w ds X :=
  ⟨fun e he => h.each e (hd.subset he), List.Pairwise.sublist hd h.ap, fun e he => h.apX e (hd.subset he)⟩
end

/-! ### the structs -/
def SBlk (w : World) (b : Nat) (v m : Int) (u : Value) : Prop := w.heap[b]? = some (.cells #[.int .u64 v, .int .u64 m, u] 68 (0, 0))
section
variable {w w' : World} {b : Nat} {v m : Int} {u : Value}
theorem SBlk.lt (h : SBlk w b v m u) : b < w.heap.size := (Array.getElem?_eq_some_iff.1 h).1
theorem SBlk.c (h : SBlk w b v m u) : w.cell? ⟨b, 0, none⟩ = some (.int .u64 v) ∧ w.cell? ⟨b, 1, none⟩ = some (.int .u64 m) ∧ w.cell? ⟨b, 2, none⟩ = some u :=
  ⟨by rw [cell_of_row w b 0 _ _ _ h]; rfl, by rw [cell_of_row w b 1 _ _ _ h]; rfl, by rw [cell_of_row w b 2 _ _ _ h]; rfl⟩
theorem SBlk.fr (h : SBlk w b v m u) (j : Nat) : w.frozen? ⟨b, j, none⟩ = false := frozen_of_row w b j _ _ h
theorem SBlk.only {S : List Nat} (h : SBlk w b v m u) (ho : Only S w w') (hS : b ∉ S) : SBlk w' b v m u := ho.get h hS
theorem SBlk.only0 (h : SBlk w b v m u) (ho : Only [] w w') : SBlk w' b v m u := h.only ho (by simp)
theorem SBlk.set0 (h : SBlk w b v m u) (x : Int) : SBlk (w.setCell ⟨b, 0, none⟩ (.int .u64 x)) b x m u := by
  have := heap_setCell_same w b 0 _ _ (.int .u64 x) h
  simpa [SBlk] using this
theorem SBlk.set1 (h : SBlk w b v m u) (x : Int) : SBlk (w.setCell ⟨b, 1, none⟩ (.int .u64 x)) b v x u := by
  have := heap_setCell_same w b 1 _ _ (.int .u64 x) h
  simpa [SBlk] using this
theorem SBlk.set2 (h : SBlk w b v m u) (x : Value) : SBlk (w.setCell ⟨b, 2, none⟩ x) b v m x := by
  have := heap_setCell_same w b 2 _ _ x h
  simpa [SBlk] using this
end
/-- The document's: flows first. -/
def QBlk (w : World) (b : Nat) (v m : Int) (u : Value) : Prop := w.heap[b]? = some (.cells #[u, .int .u64 v, .int .u64 m] 29 (0, 0))
section
variable {w w' : World} {b : Nat} {v m : Int} {u : Value}
theorem QBlk.lt (h : QBlk w b v m u) : b < w.heap.size := (Array.getElem?_eq_some_iff.1 h).1
theorem QBlk.c (h : QBlk w b v m u) : w.cell? ⟨b, 0, none⟩ = some u ∧ w.cell? ⟨b, 1, none⟩ = some (.int .u64 v) ∧ w.cell? ⟨b, 2, none⟩ = some (.int .u64 m) :=
  ⟨by rw [cell_of_row w b 0 _ _ _ h]; rfl, by rw [cell_of_row w b 1 _ _ _ h]; rfl, by rw [cell_of_row w b 2 _ _ _ h]; rfl⟩
theorem QBlk.fr (h : QBlk w b v m u) (j : Nat) : w.frozen? ⟨b, j, none⟩ = false := frozen_of_row w b j _ _ h
theorem QBlk.only {S : List Nat} (h : QBlk w b v m u) (ho : Only S w w') (hS : b ∉ S) : QBlk w' b v m u := ho.get h hS
theorem QBlk.only0 (h : QBlk w b v m u) (ho : Only [] w w') : QBlk w' b v m u := h.only ho (by simp)
theorem QBlk.set0 (h : QBlk w b v m u) (x : Value) : QBlk (w.setCell ⟨b, 0, none⟩ x) b v m x := by
  have := heap_setCell_same w b 0 _ _ x h
  simpa [QBlk] using this
theorem QBlk.set1 (h : QBlk w b v m u) (x : Int) : QBlk (w.setCell ⟨b, 1, none⟩ (.int .u64 x)) b x m u := by
  have := heap_setCell_same w b 1 _ _ (.int .u64 x) h
  simpa [QBlk] using this
theorem QBlk.set2 (h : QBlk w b v m u) (x : Int) : QBlk (w.setCell ⟨b, 2, none⟩ (.int .u64 x)) b v x u := by
  have := heap_setCell_same w b 2 _ _ (.int .u64 x) h
  simpa [QBlk] using this
end
def xOf (b : Nat) (u : Value) : List Nat := b :: u.ownBlock.toList
theorem mem_xOf {b : Nat} {u : Value} {k : Nat} : k ∈ xOf b u ↔ k = b ∨ u.ownBlock = some k := by simp [xOf, Option.mem_toList, eq_comm]

/-- Ours in memory: S as numbers, u its slice, es its flows. -/
structure SqIs (w : World) (b : Nat) (S : Sq) (u : Value) (es : List En) : Prop where
  ok : S.ok
  blk : SBlk w b S.v S.m u
  row : mE.Row w u (es.map En.mb)
  fam : Fam Ours w es (xOf b u)
  key : es.map En.key = S.l
def SqOf (w : World) (b : Nat) (S : Sq) (O : List Nat) : Prop := ∃ u es, SqIs w b S u es ∧ O = ownF (xOf b u) es
/-- What comes of one that is turned to S. -/
def STo (w : World) (b : Nat) (O : List Nat) (S : Sq) (w' : World) : Prop := ∃ O', SqOf w' b S O' ∧ Went w O w' O'
structure RqIs (w : World) (b : Nat) (S : Sq) (u : Value) (es : List En) : Prop where
  ok : S.ok
  blk : QBlk w b S.v S.m u
  row : pE.Row w u (es.map En.b)
  fam : Fam Theirs w es (xOf b u)
  key : es.map En.key = S.l
def RqOf (w : World) (b : Nat) (S : Sq) (O : List Nat) : Prop := ∃ u es, RqIs w b S u es ∧ O = ownF (xOf b u) es
def QTo (w : World) (b : Nat) (O : List Nat) (S : Sq) (w' : World) : Prop := ∃ O', RqOf w' b S O' ∧ Went w O w' O'
theorem key_len {S : Sq} {es : List En} (h : es.map En.key = S.l) : es.length = S.l.length := by rw [← h]; simp
theorem key_at {S : Sq} {es : List En} (h : es.map En.key = S.l) {i : Nat} {e : En} (hi : es[i]? = some e) : S.l[i]? = some (e.id, e.F) := by rw [← h, List.getElem?_map, hi]; rfl
theorem at_key {S : Sq} {es : List En} (h : es.map En.key = S.l) {i : Nat} {x : Int × Fl} (hi : S.l[i]? = some x) : ∃ e, es[i]? = some e ∧ e.id = x.1 ∧ e.F = x.2 := by
  rw [← h, List.getElem?_map] at hi
  rcases he : es[i]? with _ | e
  · rw [he] at hi; cases hi
  · rw [he] at hi
    injection hi with hi
    exact ⟨e, rfl, by rw [← hi]; rfl, by rw [← hi]; rfl⟩
section
variable {w w' : World} {b : Nat} {S : Sq} {u : Value} {es : List En} {O T : List Nat}
theorem SqIs.row_ne (h : SqIs w b S u es) : ∀ g, u.ownBlock = some g → g ≠ b := h.row.ne h.blk (by decide)
theorem SqIs.lt (h : SqIs w b S u es) : ∀ k ∈ ownF (xOf b u) es, k < w.heap.size := by
  intro k hk
  rcases mem_ownF.1 hk with hk | ⟨e, he, hk⟩
  · rcases mem_xOf.1 hk with rfl | hk
    · exact h.blk.lt
    · exact h.row.lt hk
  · exact rep_ours.lt (h.fam.each e he) k hk
theorem SqIs.only (h : SqIs w b S u es) (ho : Only T w w') (hT : ∀ k ∈ ownF (xOf b u) es, k ∉ T) : SqIs w' b S u es :=
  ⟨h.ok, h.blk.only ho (hT b (mem_ownF.2 (.inl (mem_xOf.2 (.inl rfl))))), h.row.only ho (fun g hg => hT g (mem_ownF.2 (.inl (mem_xOf.2 (.inr hg))))), h.fam.only rep_ours ho (fun e he k hk => hT k (mem_ownF.2 (.inr ⟨e, he, hk⟩))), h.key⟩
theorem SqIs.only0 (h : SqIs w b S u es) (ho : Only [] w w') : SqIs w' b S u es := h.only ho (by simp)
theorem SqOf.only (h : SqOf w b S O) (ho : Only T w w') (hT : ∀ k ∈ O, k ∉ T) : SqOf w' b S O := by
  obtain ⟨u, es, h1, rfl⟩ := h
  exact ⟨u, es, h1.only ho hT, rfl⟩
theorem SqOf.only0 (h : SqOf w b S O) (ho : Only [] w w') : SqOf w' b S O := h.only ho (by simp)
theorem SqOf.lt (h : SqOf w b S O) : ∀ k ∈ O, k < w.heap.size := by
  obtain ⟨u, es, h1, rfl⟩ := h
  exact h1.lt
theorem SqOf.mem (h : SqOf w b S O) : b ∈ O := by
  obtain ⟨u, es, h1, rfl⟩ := h
  exact mem_ownF.2 (.inl (mem_xOf.2 (.inl rfl)))
theorem SqOf.ok (h : SqOf w b S O) : S.ok := by
  obtain ⟨u, es, h1, rfl⟩ := h
  exact h1.ok
theorem STo.still (h : SqOf w b S O) (ho : Only [] w w') : STo w b O S w' := ⟨O, h.only0 ho, Went.still ho O⟩
theorem STo.from {w2 : World} (ho : Only [] w w2) (h : STo w2 b O S w') : STo w b O S w' := by
  obtain ⟨O', h1, h2⟩ := h
  exact ⟨O', h1, (Went.still ho O).trans h2⟩
theorem STo.on {w2 : World} (h : STo w b O S w2) (ho : Only [] w2 w') : STo w b O S w' := by
  obtain ⟨O', h1, h2⟩ := h
  exact ⟨O', h1.only0 ho, h2.trans (Went.still ho O')⟩
theorem RqIs.row_ne (h : RqIs w b S u es) : ∀ g, u.ownBlock = some g → g ≠ b := h.row.ne h.blk (by decide)
theorem RqIs.lt (h : RqIs w b S u es) : ∀ k ∈ ownF (xOf b u) es, k < w.heap.size := by
  intro k hk
  rcases mem_ownF.1 hk with hk | ⟨e, he, hk⟩
  · rcases mem_xOf.1 hk with rfl | hk
    · exact h.blk.lt
    · exact h.row.lt hk
  · exact rep_theirs.lt (h.fam.each e he) k hk
theorem RqIs.only (h : RqIs w b S u es) (ho : Only T w w') (hT : ∀ k ∈ ownF (xOf b u) es, k ∉ T) : RqIs w' b S u es :=
  ⟨h.ok, h.blk.only ho (hT b (mem_ownF.2 (.inl (mem_xOf.2 (.inl rfl))))), h.row.only ho (fun g hg => hT g (mem_ownF.2 (.inl (mem_xOf.2 (.inr hg))))), h.fam.only rep_theirs ho (fun e he k hk => hT k (mem_ownF.2 (.inr ⟨e, he, hk⟩))), h.key⟩
theorem RqIs.only0 (h : RqIs w b S u es) (ho : Only [] w w') : RqIs w' b S u es := h.only ho (by simp)
theorem RqOf.only (h : RqOf w b S O) (ho : Only T w w') (hT : ∀ k ∈ O, k ∉ T) : RqOf w' b S O := by
  obtain ⟨u, es, h1, rfl⟩ := h
  exact ⟨u, es, h1.only ho hT, rfl⟩
theorem RqOf.only0 (h : RqOf w b S O) (ho : Only [] w w') : RqOf w' b S O := h.only ho (by simp)
theorem RqOf.lt (h : RqOf w b S O) : ∀ k ∈ O, k < w.heap.size := by
  obtain ⟨u, es, h1, rfl⟩ := h
  exact h1.lt
theorem RqOf.mem (h : RqOf w b S O) : b ∈ O := by
  obtain ⟨u, es, h1, rfl⟩ := h
  exact mem_ownF.2 (.inl (mem_xOf.2 (.inl rfl)))
theorem RqOf.ok (h : RqOf w b S O) : S.ok := by
  obtain ⟨u, es, h1, rfl⟩ := h
  exact h1.ok
theorem QTo.still (h : RqOf w b S O) (ho : Only [] w w') : QTo w b O S w' := ⟨O, h.only0 ho, Went.still ho O⟩
theorem QTo.from {w2 : World} (ho : Only [] w w2) (h : QTo w2 b O S w') : QTo w b O S w' := by
  obtain ⟨O', h1, h2⟩ := h
  exact ⟨O', h1, (Went.still ho O).trans h2⟩
theorem QTo.on {w2 : World} (h : QTo w b O S w2) (ho : Only [] w2 w') : QTo w b O S w' := by
  obtain ⟨O', h1, h2⟩ := h
  exact ⟨O', h1.only0 ho, h2.trans (Went.still ho O')⟩
end
theorem set_same {α β : Type} (f : α → β) {es : List α} {i : Nat} {e e' : α} (hi : es[i]? = some e) (h : f e' = f e) : (es.set i e').map f = es.map f := by
  apply List.ext_getElem?
  intro j
  rw [List.getElem?_map, List.getElem?_map, List.getElem?_set]
  by_cases e1 : i = j
  · subst e1
    rw [if_pos rfl, if_pos (List.getElem?_eq_some_iff.1 hi).1, hi]
    simp [h]
  · rw [if_neg e1]
end Go.Proofs.Ytjmnklmomdfpfaa
