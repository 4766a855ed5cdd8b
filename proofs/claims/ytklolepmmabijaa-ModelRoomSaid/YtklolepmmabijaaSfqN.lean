/-
  What comes of a family of flows when one is added, removed, turned: in memory.
-/
import Derived.Test.YtklolepmmabijaaGmB
namespace Go.Proofs.Ytklolepmmabijaa
set_option maxRecDepth 100000
open Go.RowKit
set_option linter.unusedVariables false
set_option linter.unusedSimpArgs false

section
variable {R : World → En → Prop} (hR : Rep R) {w W w' : World} {es : List En} {X X' : List Nat}
include hR
theorem Fam.added (h : Fam R w es X) (hX : ∀ k ∈ X, k < w.heap.size) (o : Only [] w W) {e : En} (he : R W e) (hnew : ∀ k ∈ e.O, w.heap.size ≤ k) (i : Nat) (p : Only X W w') (hX' : ∀ k ∈ X', k ∈ X ∨ W.heap.size ≤ k) :
    Fam R w' (es.take i ++ e :: es.drop i) X' ∧ Went w (ownF X es) w' (ownF X' (es.take i ++ e :: es.drop i)) := by
  have f1 : Fam R W (es.take i ++ e :: es.drop i) X := (h.only0 hR o).insert i he (fun k hk hk2 => by have := hX k hk2; have := hnew k hk; omega) (fun d hd k hk hk2 => by have := hR.lt (h.each d hd) k hk2; have := hnew k hk; omega)
  obtain ⟨f2, g2⟩ := f1.onlyX hR p hX'
  refine ⟨f2, (o.mono (T := ownF X es) (by simp)).trans (p.mono (T := ownF X es) (fun k hk => .inl (mem_ownF.2 (.inl hk)))) (fun k hk => .inl hk), fun k hk => ?_⟩
  rcases g2.2 k hk with h1 | h1
  · rcases mem_ownF.1 h1 with h2 | ⟨d, hd, hk2⟩
    · exact .inl (mem_ownF.2 (.inl h2))
    · rcases List.mem_append.1 hd with hd | hd
      · exact .inl (mem_ownF.2 (.inr ⟨d, List.mem_of_mem_take hd, hk2⟩))
      · rcases List.mem_cons.1 hd with rfl | hd
        · exact .inr (hnew k hk2)
        · exact .inl (mem_ownF.2 (.inr ⟨d, List.mem_of_mem_drop hd, hk2⟩))
  · exact .inr (Nat.le_trans o.size h1)
theorem Fam.less (h : Fam R w es X) (o : Only [] w W) {ds : List En} (hd : ds.Sublist es) (p : Only X W w') (hX' : ∀ k ∈ X', k ∈ X ∨ W.heap.size ≤ k) :
    Fam R w' ds X' ∧ Went w (ownF X es) w' (ownF X' ds) := by
  obtain ⟨f2, g2⟩ := ((h.only0 hR o).sub hd).onlyX hR p hX'
  refine ⟨f2, (o.mono (T := ownF X es) (by simp)).trans (p.mono (T := ownF X es) (fun k hk => .inl (mem_ownF.2 (.inl hk)))) (fun k hk => .inl hk), fun k hk => ?_⟩
  rcases g2.2 k hk with h1 | h1
  · rcases mem_ownF.1 h1 with h2 | ⟨d, hd', hk2⟩
    · exact .inl (mem_ownF.2 (.inl h2))
    · exact .inl (mem_ownF.2 (.inr ⟨d, hd.subset hd', hk2⟩))
  · exact .inr (Nat.le_trans o.size h1)
end
theorem key_ins {S : Sq} {es : List En} (h : es.map En.key = S.l) (id : Int) (F : Fl) (nb : Nat) (O : List Nat) : (es.take (posK S.l id) ++ (⟨id, F, nb, O⟩ : En) :: es.drop (posK S.l id)).map En.key = insK S.l (id, F) := by
  unfold insK
  rw [List.map_append, List.map_cons, List.map_take, List.map_drop, h]
  rfl
theorem mb_ins (es : List En) (i : Nat) (e : En) : (es.take i ++ e :: es.drop i).map En.mb = (es.map En.mb).take i ++ e.mb :: (es.map En.mb).drop i := by
  rw [List.map_append, List.map_cons, List.map_take, List.map_drop]
theorem b_ins (es : List En) (i : Nat) (e : En) : (es.take i ++ e :: es.drop i).map En.b = (es.map En.b).take i ++ e.b :: (es.map En.b).drop i := by
  rw [List.map_append, List.map_cons, List.map_take, List.map_drop]
theorem map_erase {α β : Type} (f : α → β) (l : List α) (i : Nat) : (l.eraseIdx i).map f = (l.map f).eraseIdx i := by
  rw [List.eraseIdx_eq_take_drop_succ, List.eraseIdx_eq_take_drop_succ, List.map_append, List.map_take, List.map_drop]
section
variable {w W w4 : World} {b : Nat} {S : Sq} {u v4 : Value} {es : List En}
/-- The slice turned, or a new one: where the struct is, and what it may then hold. -/
theorem SqIs.turn (h : SqIs w b S u es) (o : Only [] w W) (p : Only u.ownBlock.toList W w4) {xs : List (Int × Option Nat)} (r : mE.Row w4 v4 xs) (l : v4.ownBlock = u.ownBlock ∨ ∃ g, v4.ownBlock = some g ∧ W.heap.size ≤ g) :
    SBlk w4 b S.v S.m u ∧ SBlk (w4.setCell ⟨b, 2, none⟩ v4) b S.v S.m v4 ∧ mE.Row (w4.setCell ⟨b, 2, none⟩ v4) v4 xs ∧ Only (xOf b u) W (w4.setCell ⟨b, 2, none⟩ v4) ∧ ∀ k ∈ xOf b v4, k ∈ xOf b u ∨ W.heap.size ≤ k := by
  have h4 : SBlk w4 b S.v S.m u := (h.blk.only0 o).only p (fun hk => h.row_ne b (Option.mem_toList.1 hk) rfl)
  refine ⟨h4, h4.set2 v4, r.only ((Only.refl [b] w4).setCell (by simp) _) (fun g hg => by simpa using r.ne h4 (by decide) g hg), ?_, fun k hk => ?_⟩
  · exact (p.mono (T := xOf b u) (fun k hk => .inl (mem_xOf.2 (.inr (Option.mem_toList.1 hk))))).setCell (.inl (mem_xOf.2 (.inl rfl))) _
  · rcases mem_xOf.1 hk with rfl | hk
    · exact .inl (mem_xOf.2 (.inl rfl))
    · rcases l with l | ⟨g, e, hg⟩
      · exact .inl (mem_xOf.2 (.inr (l ▸ hk)))
      · rw [e] at hk
        injection hk with hk
        exact .inr (hk ▸ hg)
theorem SqIs.added (h : SqIs w b S u es) {w2 : World} (o2 : Only [] w w2) {id : Int} {F : Fl} {nb : Nat} (f : FlowOf w2 nb F [nb]) (hnb : w.heap.size ≤ nb) (o3 : Only [] w2 W) (p : Only u.ownBlock.toList W w4)
    (r : mE.Row w4 v4 ((es.map En.mb).take (posK S.l id) ++ (id, some nb) :: (es.map En.mb).drop (posK S.l id))) (l : v4.ownBlock = u.ownBlock ∨ ∃ g, v4.ownBlock = some g ∧ W.heap.size ≤ g) (hok : (⟨S.v, S.m, insK S.l (id, F)⟩ : Sq).ok) :
    SBlk w4 b S.v S.m u ∧ STo w b (ownF (xOf b u) es) ⟨S.v, S.m, insK S.l (id, F)⟩ (w4.setCell ⟨b, 2, none⟩ v4) := by
  obtain ⟨t1, t2, t3, t4, t5⟩ := h.turn (o2.trans' o3) p r l
  obtain ⟨f1, g1⟩ := h.fam.added rep_ours (fun k hk => h.lt k (mem_ownF.2 (.inl hk))) (o2.trans' o3) (e := ⟨id, F, nb, [nb]⟩) (show FlowOf _ _ _ _ from f.only0 o3) (by simpa using hnb) (posK S.l id) t4 t5
  exact ⟨t1, _, ⟨v4, _, ⟨hok, t2, by rw [mb_ins]; exact t3, f1, key_ins h.key id F nb [nb]⟩, rfl⟩, g1⟩
theorem SqIs.removed (h : SqIs w b S u es) (o : Only [] w W) (i : Nat) (p : Only u.ownBlock.toList W w4) (r : mE.Row w4 v4 ((es.map En.mb).eraseIdx i)) (l : v4.ownBlock = u.ownBlock ∨ ∃ g, v4.ownBlock = some g ∧ W.heap.size ≤ g)
    (hok : (⟨S.v, S.m, S.l.eraseIdx i⟩ : Sq).ok) : SBlk w4 b S.v S.m u ∧ STo w b (ownF (xOf b u) es) ⟨S.v, S.m, S.l.eraseIdx i⟩ (w4.setCell ⟨b, 2, none⟩ v4) := by
  obtain ⟨t1, t2, t3, t4, t5⟩ := h.turn o p r l
  obtain ⟨f1, g1⟩ := h.fam.less rep_ours o (List.eraseIdx_sublist es i) t4 t5
  exact ⟨t1, _, ⟨v4, _, ⟨hok, t2, by rw [map_erase]; exact t3, f1, by rw [map_erase, h.key]⟩, rfl⟩, g1⟩
/-- One flow turned by its own call. -/
theorem SqIs.turned (h : SqIs w b S u es) (o : Only [] w W) {i : Nat} {e : En} (hi : es[i]? = some e) {F : Fl} (hf : FTo W e.b e.O F w4) (hok : (⟨S.v, S.m, S.l.set i (e.id, F)⟩ : Sq).ok) :
    ∃ es', SqIs w4 b ⟨S.v, S.m, S.l.set i (e.id, F)⟩ u es' ∧ Went w (ownF (xOf b u) es) w4 (ownF (xOf b u) es') := by
  obtain ⟨O', hF, hW⟩ := hf
  have h2 := h.only0 o
  obtain ⟨f1, g1⟩ := h2.fam.set rep_ours hi (e' := ⟨e.id, F, e.b, O'⟩) hF hW (fun k hk => h2.lt k (mem_ownF.2 (.inl hk)))
  have hem := List.mem_of_getElem? hi
  refine ⟨_, ⟨hok, ?_, ?_, f1, ?_⟩, (Went.still o _).trans g1⟩
  · exact h2.blk.only hW.1 (fun hk => h.fam.apX e hem b hk (mem_xOf.2 (.inl rfl)))
  · rw [set_same En.mb (e' := ⟨e.id, F, e.b, O'⟩) hi rfl]
    exact h2.row.only hW.1 (fun g hg hk => h.fam.apX e hem g hk (mem_xOf.2 (.inr hg)))
  · rw [List.map_set, h.key]
    rfl
/-- v and m set. -/
theorem SqIs.setV (h : SqIs w b S u es) {v : Int} (hv : U64 v) : SqIs (w.setCell ⟨b, 0, none⟩ (.int .u64 v)) b ⟨v, S.m, S.l⟩ u es ∧ Went w (ownF (xOf b u) es) (w.setCell ⟨b, 0, none⟩ (.int .u64 v)) (ownF (xOf b u) es) := by
  have o : Only [b] w (w.setCell ⟨b, 0, none⟩ (.int .u64 v)) := (Only.refl [b] w).setCell (by simp) _
  refine ⟨⟨⟨hv, h.ok.m, h.ok.srt, h.ok.wf, h.ok.len⟩, h.blk.set0 v, h.row.only o (fun g hg => by simpa using h.row_ne g hg), h.fam.only rep_ours o (fun e he k hk hb => h.fam.apX e he k hk (mem_xOf.2 (.inl (by simpa using hb)))), h.key⟩, o.mono (fun k hk => .inl (mem_ownF.2 (.inl (mem_xOf.2 (.inl (by simpa using hk)))))), fun k hk => .inl hk⟩
theorem SqIs.setM (h : SqIs w b S u es) {m : Int} (hm : U64 m) : SqIs (w.setCell ⟨b, 1, none⟩ (.int .u64 m)) b ⟨S.v, m, S.l⟩ u es ∧ Went w (ownF (xOf b u) es) (w.setCell ⟨b, 1, none⟩ (.int .u64 m)) (ownF (xOf b u) es) := by
  have o : Only [b] w (w.setCell ⟨b, 1, none⟩ (.int .u64 m)) := (Only.refl [b] w).setCell (by simp) _
  refine ⟨⟨⟨h.ok.v, hm, h.ok.srt, h.ok.wf, h.ok.len⟩, h.blk.set1 m, h.row.only o (fun g hg => by simpa using h.row_ne g hg), h.fam.only rep_ours o (fun e he k hk hb => h.fam.apX e he k hk (mem_xOf.2 (.inl (by simpa using hb)))), h.key⟩, o.mono (fun k hk => .inl (mem_ownF.2 (.inl (mem_xOf.2 (.inl (by simpa using hk)))))), fun k hk => .inl hk⟩
end
section
variable {w W w4 : World} {b : Nat} {S : Sq} {u v4 : Value} {es : List En}
/-- The document's: a new slice is laid, and put into the struct. -/
theorem RqIs.turn (h : RqIs w b S u es) (p : Only [] w w4) {xs : List Nat} (r : pE.Row w4 v4 xs) (l : ∀ g, v4.ownBlock = some g → w.heap.size ≤ g) :
    QBlk w4 b S.v S.m u ∧ QBlk (w4.setCell ⟨b, 0, none⟩ v4) b S.v S.m v4 ∧ pE.Row (w4.setCell ⟨b, 0, none⟩ v4) v4 xs ∧ Only (xOf b u) w (w4.setCell ⟨b, 0, none⟩ v4) ∧ ∀ k ∈ xOf b v4, k ∈ xOf b u ∨ w.heap.size ≤ k := by
  have h4 : QBlk w4 b S.v S.m u := h.blk.only0 p
  refine ⟨h4, h4.set0 v4, r.only ((Only.refl [b] w4).setCell (by simp) _) (fun g hg => by simpa using r.ne h4 (by decide) g hg), ?_, fun k hk => ?_⟩
  · exact (p.mono (T := xOf b u) (by simp)).setCell (.inl (mem_xOf.2 (.inl rfl))) _
  · rcases mem_xOf.1 hk with rfl | hk
    · exact .inl (mem_xOf.2 (.inl rfl))
    · exact .inr (l k hk)
theorem RqIs.added (h : RqIs w b S u es) (p : Only [] w w4) {id : Int} {F : Fl} {nb : Nat} (f : RefOf w4 nb id F [nb]) (hnb : w.heap.size ≤ nb)
    (r : pE.Row w4 v4 ((es.map En.b).take (posK S.l id) ++ nb :: (es.map En.b).drop (posK S.l id))) (l : ∀ g, v4.ownBlock = some g → w.heap.size ≤ g) (hok : (⟨S.v, S.m, insK S.l (id, F)⟩ : Sq).ok) :
    QTo w b (ownF (xOf b u) es) ⟨S.v, S.m, insK S.l (id, F)⟩ (w4.setCell ⟨b, 0, none⟩ v4) := by
  obtain ⟨t1, t2, t3, t4, t5⟩ := h.turn p r l
  have ne : v4.ownBlock ≠ some nb := fun e => by
    obtain ⟨cur, hc⟩ := r.typ e
    obtain ⟨_, s, v, hb, _⟩ := f
    unfold RBlk at hb
    rw [hc] at hb
    injection hb with hb
    injection hb with _ hb _
    exact absurd hb (by decide)
  have hlt : ∀ k ∈ xOf b v4, k < (w4.setCell ⟨b, 0, none⟩ v4).heap.size := fun k hk => by
    rcases mem_xOf.1 hk with rfl | hk
    · exact t2.lt
    · exact t3.lt hk
  have fo : RefOf (w4.setCell ⟨b, 0, none⟩ v4) nb id F [nb] := f.only ((Only.refl [b] w4).setCell (by simp) _) (by simp; have := h.blk.lt; omega)
  have f0 : Fam Theirs (w4.setCell ⟨b, 0, none⟩ v4) es (xOf b v4) := (h.fam.onlyX rep_theirs t4 t5).1
  have f1 := f0.insert (posK S.l id) (e := ⟨id, F, nb, [nb]⟩) fo (by
    intro k hk hk2
    simp at hk
    subst hk
    rcases mem_xOf.1 hk2 with e | e
    · have := h.blk.lt; omega
    · exact ne e) (fun d hd k hk hk2 => by
    simp at hk
    subst hk
    have := rep_theirs.lt (h.fam.each d hd) k hk2; omega)
  refine ⟨_, ⟨v4, _, ⟨hok, t2, by rw [b_ins]; exact t3, f1, key_ins h.key id F nb [nb]⟩, rfl⟩, t4.mono (fun k hk => .inl (mem_ownF.2 (.inl hk))), fun k hk => ?_⟩
  rcases mem_ownF.1 hk with h1 | ⟨d, hd, hk2⟩
  · exact (t5 k h1).imp (fun h2 => mem_ownF.2 (.inl h2)) (fun h2 => h2)
  · rcases List.mem_append.1 hd with hd | hd
    · exact .inl (mem_ownF.2 (.inr ⟨d, List.mem_of_mem_take hd, hk2⟩))
    · rcases List.mem_cons.1 hd with rfl | hd
      · simp at hk2; subst hk2; exact .inr hnb
      · exact .inl (mem_ownF.2 (.inr ⟨d, List.mem_of_mem_drop hd, hk2⟩))
theorem RqIs.removed (h : RqIs w b S u es) (p : Only [] w w4) (i : Nat) (r : pE.Row w4 v4 ((es.map En.b).eraseIdx i)) (l : ∀ g, v4.ownBlock = some g → w.heap.size ≤ g) (hok : (⟨S.v, S.m, S.l.eraseIdx i⟩ : Sq).ok) :
    QTo w b (ownF (xOf b u) es) ⟨S.v, S.m, S.l.eraseIdx i⟩ (w4.setCell ⟨b, 0, none⟩ v4) := by
  obtain ⟨t1, t2, t3, t4, t5⟩ := h.turn p r l
  obtain ⟨f1, g1⟩ := h.fam.less rep_theirs (Only.refl [] w) (List.eraseIdx_sublist es i) t4 t5
  exact ⟨_, ⟨v4, _, ⟨hok, t2, by rw [map_erase]; exact t3, f1, by rw [map_erase, h.key]⟩, rfl⟩, g1⟩
theorem RqIs.turned (h : RqIs w b S u es) (o : Only [] w W) {i : Nat} {e : En} (hi : es[i]? = some e) {F : Fl} (hf : RTo W e.b e.id e.O F w4) (hok : (⟨S.v, S.m, S.l.set i (e.id, F)⟩ : Sq).ok) :
    ∃ es', RqIs w4 b ⟨S.v, S.m, S.l.set i (e.id, F)⟩ u es' ∧ Went w (ownF (xOf b u) es) w4 (ownF (xOf b u) es') := by
  obtain ⟨O', hF, hW⟩ := hf
  have h2 := h.only0 o
  obtain ⟨f1, g1⟩ := h2.fam.set rep_theirs hi (e' := ⟨e.id, F, e.b, O'⟩) hF hW (fun k hk => h2.lt k (mem_ownF.2 (.inl hk)))
  have hem := List.mem_of_getElem? hi
  refine ⟨_, ⟨hok, ?_, ?_, f1, ?_⟩, (Went.still o _).trans g1⟩
  · exact h2.blk.only hW.1 (fun hk => h.fam.apX e hem b hk (mem_xOf.2 (.inl rfl)))
  · rw [set_same En.b (e' := ⟨e.id, F, e.b, O'⟩) hi rfl]
    exact h2.row.only hW.1 (fun g hg hk => h.fam.apX e hem g hk (mem_xOf.2 (.inr hg)))
  · rw [List.map_set, h.key]
    rfl
theorem RqIs.setV (h : RqIs w b S u es) {v : Int} (hv : U64 v) : RqIs (w.setCell ⟨b, 1, none⟩ (.int .u64 v)) b ⟨v, S.m, S.l⟩ u es ∧ Went w (ownF (xOf b u) es) (w.setCell ⟨b, 1, none⟩ (.int .u64 v)) (ownF (xOf b u) es) := by
  have o : Only [b] w (w.setCell ⟨b, 1, none⟩ (.int .u64 v)) := (Only.refl [b] w).setCell (by simp) _
  refine ⟨⟨⟨hv, h.ok.m, h.ok.srt, h.ok.wf, h.ok.len⟩, h.blk.set1 v, h.row.only o (fun g hg => by simpa using h.row_ne g hg), h.fam.only rep_theirs o (fun e he k hk hb => h.fam.apX e he k hk (mem_xOf.2 (.inl (by simpa using hb)))), h.key⟩, o.mono (fun k hk => .inl (mem_ownF.2 (.inl (mem_xOf.2 (.inl (by simpa using hk)))))), fun k hk => .inl hk⟩
theorem RqIs.setM (h : RqIs w b S u es) {m : Int} (hm : U64 m) : RqIs (w.setCell ⟨b, 2, none⟩ (.int .u64 m)) b ⟨S.v, m, S.l⟩ u es ∧ Went w (ownF (xOf b u) es) (w.setCell ⟨b, 2, none⟩ (.int .u64 m)) (ownF (xOf b u) es) := by
  have o : Only [b] w (w.setCell ⟨b, 2, none⟩ (.int .u64 m)) := (Only.refl [b] w).setCell (by simp) _
  refine ⟨⟨⟨h.ok.v, hm, h.ok.srt, h.ok.wf, h.ok.len⟩, h.blk.set2 m, h.row.only o (fun g hg => by simpa using h.row_ne g hg), h.fam.only rep_theirs o (fun e he k hk hb => h.fam.apX e he k hk (mem_xOf.2 (.inl (by simpa using hb)))), h.key⟩, o.mono (fun k hk => .inl (mem_ownF.2 (.inl (mem_xOf.2 (.inl (by simpa using hk)))))), fun k hk => .inl hk⟩
end
end Go.Proofs.Ytklolepmmabijaa
