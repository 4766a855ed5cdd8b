/-
  append onto a row of items, whatever the source (nil, empty, a part of another row): as a run, as a step of a plain region, as a step of a region that draws.
  A map from ints to uint64s as the function that it tells.
  Ahead; where an ID stands; what moved; boxes; the item with an ID.
-/
import Derived.Test.YtajhkdbldbifeaaDoorHeapW
import Derived.Deep.RegionLaw
import Derived.BigRegion
import Derived.BigQuiet
import Derived.StillTailTactics
import Derived.Deep.QuietTactic
import Derived.Laws.ResultCell
import Derived.Deep.LoopGhost
namespace Go.Proofs.YtajhkdbldbifeaaDoor
set_option maxRecDepth 100000
open Go.RowKit
set_option linter.unusedVariables false
set_option linter.unusedSimpArgs false

theorem item_info : (Tryd.prog.info? 24).map (fun i => (i.zero, i.size, i.bytes)) = some (some (.agg #[.int .u64 0, .int .i64 0]), 2, 16) := by kernel_rfl

/-- Where there is something to be read, A leads to it. -/
def Src (w : World) (A : Option Addr) (ys : List It) : Prop := ys ≠ [] → ∃ ad, A = some ad ∧ ∀ j u, (flat ys)[j]? = some u → w.cell? (ad.add j) = some u
theorem Src.nil (w : World) (A : Option Addr) : Src w A [] := fun h => absurd rfl h
theorem Src.keep {w w' : World} {A : Option Addr} {ys : List It} (h : Src w A ys) (hk : ∀ ad j, A = some ad → (w.cell? (ad.add j)).isSome = true → w'.cell? (ad.add j) = w.cell? (ad.add j)) : Src w' A ys := fun hne => by
  obtain ⟨ad, e, hc⟩ := h hne
  exact ⟨ad, e, fun j u hu => (hk ad j e (by rw [hc j u hu]; rfl)).trans (hc j u hu)⟩
theorem Src.of_row {w : World} {A : Option Addr} {n cap : Nat} {xs : List It} (h : RowIs w (.slice A n cap) xs) : Src w A xs := fun hne => by
  obtain ⟨g, c, e, _, _, _, ⟨cur, hg, hsz, hcur⟩, _⟩ := h.at_ (List.length_pos_iff.2 hne)
  injection e with e1 e2 e3
  refine ⟨⟨g, 0, none⟩, e1, fun j u hu => ?_⟩
  have hj : j < xs.length * 2 := by
    have := (List.getElem?_eq_some_iff.1 hu).1
    simpa using this
  have e9 : (⟨g, 0, none⟩ : Addr).add j = ⟨g, j, none⟩ := by
    unfold Addr.add
    split
    · rename_i h0; subst h0; rfl
    · simp
  rw [e9, cell_of_row w g j cur _ (0, 0) hg]
  rw [← hcur, List.getElem?_take, if_pos hj] at hu
  simpa using hu

theorem run_append_row (w : World) (ty : TypeId) (v : Value) (xs : List It) (h : RowIs w v xs) (A : Option Addr) (m c : Nat) (ys : List It) (hm : ys.length = m) (hs : Src w A ys) (hb : xs.length + m ≤ 2000000) :
    ∃ v' w', (Builtin.append_ #[59, 59] ty #[v, .slice A m c]).run Tryd.prog w = .ok v' w' ∧ RowIs w' v' (xs ++ ys) ∧ w.grownBy w' v.ownBlock ∧ (v'.ownBlock = v.ownBlock ∨ v'.ownBlock = some w.heap.size) := by
  obtain ⟨i0, hi0, hz0, hz1, hz2⟩ := info_parts item_info
  cases A with
  | none =>
    have hy : ys = [] := by
      cases ys with
      | nil => rfl
      | cons y ys => obtain ⟨ad, e, _⟩ := hs (by simp); cases e
    subst hy
    have hm0 : m = 0 := by simpa using hm.symm
    subst hm0
    refine ⟨v, w, ?_, by simpa using h, World.grownBy.refl w _, .inl rfl⟩
    rcases h.2 with ⟨rfl, e⟩ | ⟨g, cap, cur, rfl, _, _, hnc, _⟩
    · simp [Builtin.append_, run_underlying Tryd.underlying59, sizeOf, typeInfo, hi0, Builtin.lenOf, Builtin.firstCells]
    · simp [Builtin.append_, run_underlying Tryd.underlying59, sizeOf, typeInfo, hi0, Builtin.lenOf, Builtin.firstCells, hnc, storeCells]
  | some ad =>
    have hcells : ∀ j u, (flat ys)[j]? = some u → w.cell? (ad.add j) = some u := fun j u hu => by
      obtain ⟨ad', e, hc⟩ := hs (by rintro rfl; simp [flat] at hu)
      injection e with e
      subst e
      exact hc j u hu
    obtain ⟨v', w', r1, r2, r3, _, r5⟩ := run_append_own_at (P := Tryd.prog) w 0 59 ty 24 i0 _ 2 16 Tryd.underlying59 hi0 hz0 hz1 hz2 rfl (by decide) v xs.length (flat xs) h ad m c (flat ys)
      (by rw [flat_length, hm]) hcells (flat_one ys) (by unfold maxLen; omega) (by omega) (Nat.zero_le _)
    refine ⟨v', w', r1, ?_, r3, r5⟩
    unfold RowIs
    rw [flat_append, List.length_append, hm]
    exact r2

section
variable {w : World} {ops : Array Oper} {o : Oper} {a : Act} {K : Act → World → Prop} {Q : Exit → Act → World → Prop}
theorem wp_append_row (s x : Operand) (ho : o.op = .call { callee := .builtin .append, args := #[s, x], argTypes := #[59, 59] })
    (v : Value) (xs : List It) (hs : a.eval s = v) (h : RowIs w v xs) (A : Option Addr) (m c : Nat) (ys : List It) (hx : a.eval x = .slice A m c) (hm : ys.length = m) (hr : Src w A ys) (N : Nat) (hN : xs.length + m = N) (hb : N ≤ 2000000)
    (hK : ∀ A' cap' w', RowIs w' (.slice A' N cap') (xs ++ ys) → w.grownBy w' v.ownBlock → ((Value.slice A' N cap').ownBlock = v.ownBlock ∨ (Value.slice A' N cap').ownBlock = some w.heap.size) → K (a.put o.dst (.slice A' N cap')) w') : o.wp Tryd.prog a w K Q := by
  subst hN
  obtain ⟨v', w', r1, r2, r3, r4⟩ := run_append_row w o.type v xs h A m c ys hm hr hb
  unfold Oper.wp execOp
  simp only [ho, resolve, invoke, builtin, Sem.run_bind, Sem.run_pure, Result.andThen_ok, List.map_toArray, List.map_cons, List.map_nil, hs, hx, r1]
  obtain ⟨A', cap', rfl⟩ := r2.form
  rw [List.length_append, hm] at r2 r4 ⊢
  exact hK A' cap' w' r2 r3 r4
theorem wpList_append_row {rest : List Oper} (hgd : o.guard = none) (s x : Operand) (ho : o.op = .call { callee := .builtin .append, args := #[s, x], argTypes := #[59, 59] })
    (v : Value) (xs : List It) (hs : a.eval s = v) (h : RowIs w v xs) (A : Option Addr) (m c : Nat) (ys : List It) (hx : a.eval x = .slice A m c) (hm : ys.length = m) (hr : Src w A ys) (N : Nat) (hN : xs.length + m = N) (hb : N ≤ 2000000)
    (hK : ∀ A' cap' w', RowIs w' (.slice A' N cap') (xs ++ ys) → w.grownBy w' v.ownBlock → ((Value.slice A' N cap').ownBlock = v.ownBlock ∨ (Value.slice A' N cap').ownBlock = some w.heap.size) → wpList Tryd.prog ops Q rest (a.put o.dst (.slice A' N cap')) w') :
    wpList Tryd.prog ops Q (o :: rest) a w :=
  wpList_plain hgd fun _ hK' => wp_append_row s x ho v xs hs h A m c ys hx hm hr N hN hb fun A' cap' w' h2 h3 h4 => hK' _ _ (hK A' cap' w' h2 h3 h4)
theorem step_append_row {E : Prop} (hgd : o.guard = none) (s x : Operand) (ho : o.op = .call { callee := .builtin .append, args := #[s, x], argTypes := #[59, 59] })
    (v : Value) (xs : List It) (hs : a.eval s = v) (h : RowIs w v xs) (A : Option Addr) (m c : Nat) (ys : List It) (hx : a.eval x = .slice A m c) (hm : ys.length = m) (hr : Src w A ys) (N : Nat) (hN : xs.length + m = N) (hb : N ≤ 2000000)
    (hK : ∀ A' cap' w', RowIs w' (.slice A' N cap') (xs ++ ys) → w.grownBy w' v.ownBlock → ((Value.slice A' N cap').ownBlock = v.ownBlock ∨ (Value.slice A' N cap').ownBlock = some w.heap.size) → K (a.put o.dst (.slice A' N cap')) w') :
    if Region.wanted o (yielded ops a.tmps) = true then Oper.wp Tryd.prog o a w K Q else E := by
  have hw : Region.wanted o (yielded ops a.tmps) = true := by simp [Region.wanted, hgd]
  rw [if_pos hw]
  exact wp_append_row s x ho v xs hs h A m c ys hx hm hr N hN hb hK
end

/-- A box of one item: where the translation lays what is appended. -/
theorem src_box (w : World) (x : It) : Src (w.alloc (.cells #[.int .u64 x.k, .int .i64 x.i] 24)) (some ⟨w.heap.size, 0, none⟩) [x] := by
  refine Src.of_row (n := 1) (cap := 1) ⟨rfl, .inr ⟨w.heap.size, 1, _, rfl, Nat.zero_le _, heap_alloc_new w _, Nat.le_refl _, by decide, rfl, by simp [flat, It.cs]⟩⟩
end Go.Proofs.YtajhkdbldbifeaaDoor

namespace Go.Proofs.YtajhkdbldbifeaaDoor
set_option maxRecDepth 100000
open Go.RowKit Go.ChangeMaps Go.MapKept
open Go.Maps (Keyed)
set_option linter.unusedVariables false
set_option linter.unusedSimpArgs false

theorem zero_u64 (w : World) : (zeroValue 22).run Tryd.prog w = .ok (.int .u64 0) w := by kernel_rfl
section
variable {w : World} {b : Nat} {f : Int → Option Int}
/-- Block b is a map that tells f. -/
def MapU (w : World) (b : Nat) (f : Int → Option Int) : Prop :=
  ∃ es clock, w.heap[b]? = some (.map es clock) ∧ Stamped es clock ∧ (∀ e ∈ es.toList, ∃ k v, e.key = .int .i64 k ∧ i64ok k ∧ e.val = .int .u64 v ∧ f k = some v) ∧
    ∀ k v, f k = some v → ∃ e ∈ es.toList, e.key = .int .i64 k ∧ e.val = .int .u64 v
theorem MapU.keep {w' : World} (h : MapU w b f) (hk : w'.heap[b]? = w.heap[b]?) : MapU w' b f := by
  obtain ⟨es, clock, hb, r⟩ := h
  exact ⟨es, clock, hk.trans hb, r⟩
theorem MapU.lt (h : MapU w b f) : b < w.heap.size := by
  obtain ⟨es, clock, hb, r⟩ := h
  exact (Array.getElem?_eq_some_iff.1 hb).1
theorem MapU.made (w : World) : MapU (w.alloc (.map #[] 0)) w.heap.size (fun _ => none) :=
  ⟨#[], 0, (MapKept.heap_alloc w _).1, stamped_empty 0, by simp, by simp⟩
theorem keys_ofU {es : Array MapEntry} (h : ∀ e ∈ es.toList, ∃ k v, e.key = .int .i64 k ∧ i64ok k ∧ e.val = .int .u64 v ∧ f k = some v) : ∀ e ∈ es.toList, ∃ l, Go.keyOf Tryd.prog 3 e.key = some l := fun e he => by
  obtain ⟨k, v, h1, h2, _⟩ := h e he
  exact ⟨_, by rw [h1]; exact key_int h2⟩
theorem MapU.look (h : MapU w b f) {k : Int} (hk : i64ok k) (T : TypeId) (hT : Tryd.prog.underlying T = some (.map 3 22)) :
    (Instr.lookup T (.map (some b)) (.int .i64 k) true).run Tryd.prog w = .ok (.tuple #[.int .u64 ((f k).getD 0), .bool (f k).isSome]) w := by
  obtain ⟨es, clock, hb, hs, h1, h2⟩ := h
  rcases key_law.find w (key_int hk) es.toList (keys_ofU h1) with ⟨e1, e2⟩ | ⟨j, e0, e1, e2, e3⟩
  · have hf : f k = none := by
      rcases hf : f k with _ | v
      · rfl
      · obtain ⟨e, he, hek, _⟩ := h2 k v hf
        exact absurd hek (e2 e he)
    simp [Instr.lookup, run_underlying hT, MapKept.run_getObj_map hb, check_int w hk, e1, zero_u64, Result.andThen, hf]
  · obtain ⟨k', v, h3, h4, h5, h6⟩ := h1 e0 (List.mem_of_getElem? e2)
    have : k' = k := by rw [e3] at h3; injection h3 with _ h3; exact h3.symm
    subst this
    simp [Instr.lookup, run_underlying hT, MapKept.run_getObj_map hb, check_int w hk, e1, h5, Result.andThen, h6]
/-- The entry at a key turned to v. -/
theorem told_modifyU {es : Array MapEntry} {clock : Nat} (hs : Stamped es clock) (h1 : ∀ e ∈ es.toList, ∃ k v, e.key = .int .i64 k ∧ i64ok k ∧ e.val = .int .u64 v ∧ f k = some v)
    (h2 : ∀ k v, f k = some v → ∃ e ∈ es.toList, e.key = .int .i64 k ∧ e.val = .int .u64 v) {j : Nat} {e0 : MapEntry} (hj : es.toList[j]? = some e0) {k : Int} (hk : i64ok k) (he : e0.key = .int .i64 k) (v : Int) (g : MapEntry → MapEntry)
    (hg : g e0 = ⟨.int .i64 k, .int .u64 v, e0.born⟩) :
    (∀ e ∈ (es.modify j g).toList, ∃ k' v', e.key = .int .i64 k' ∧ i64ok k' ∧ e.val = .int .u64 v' ∧ upd f k v k' = some v') ∧
    ∀ k' v', upd f k v k' = some v' → ∃ e ∈ (es.modify j g).toList, e.key = .int .i64 k' ∧ e.val = .int .u64 v' := by
  have m0 : e0 ∈ es.toList := List.mem_of_getElem? hj
  refine ⟨fun e he2 => ?_, fun k' v' hu => ?_⟩
  · rcases mem_modify hj g e he2 with rfl | ⟨i, hne, hi⟩
    · rw [hg]; exact ⟨k, v, rfl, hk, rfl, by simp [upd]⟩
    · have m1 : e ∈ es.toList := List.mem_of_getElem? hi
      obtain ⟨k', v', r1, r2, r3, r4⟩ := h1 e m1
      refine ⟨k', v', r1, r2, r3, ?_⟩
      unfold upd
      split
      · rename_i ek
        subst ek
        have ee := Stamped.entry hs m1 m0 (r1.trans he.symm)
        subst ee
        have hp := List.pairwise_iff_getElem.1 hs.2.2
        obtain ⟨hi1, hi2⟩ := List.getElem?_eq_some_iff.1 hi
        obtain ⟨hj1, hj2⟩ := List.getElem?_eq_some_iff.1 hj
        rcases Nat.lt_trichotomy i j with h3 | h3 | h3
        · exact (hp i j (by simpa using hi1) (by simpa using hj1) h3 (by simp only [List.getElem_map, hi2, hj2])).elim
        · exact absurd h3 hne
        · exact (hp j i (by simpa using hj1) (by simpa using hi1) h3 (by simp only [List.getElem_map, hi2, hj2])).elim
      · exact r4
  · obtain ⟨mk1, mk2⟩ := mem_modify_mk hj g
    unfold upd at hu
    split at hu
    · rename_i ek
      subst ek
      injection hu with hu
      subst hu
      exact ⟨_, mk1, by rw [hg], by rw [hg]⟩
    · rename_i ek
      obtain ⟨e, m1, r1, r2⟩ := h2 k' v' hu
      obtain ⟨i, hi⟩ := List.getElem?_of_mem m1
      refine ⟨e, mk2 i e (fun e5 => ?_) hi, r1, r2⟩
      subst e5
      rw [hj] at hi
      injection hi with hi
      subst hi
      rw [he] at r1
      injection r1 with _ r1
      exact ek r1.symm
/-- 'm[k] = v'. -/
theorem MapU.put (h : MapU w b f) {k : Int} (hk : i64ok k) (v : Int) (T : TypeId) (hT : Tryd.prog.underlying T = some (.map 3 22)) :
    ∃ w', (Instr.mapUpdate T (.map (some b)) (.int .i64 k) (.int .u64 v)).run Tryd.prog w = .ok () w' ∧ MapU w' b (upd f k v) ∧ w.grownBy w' (some b) := by
  obtain ⟨es, clock, hb, hs, h1, h2⟩ := h
  rcases key_law.find w (key_int hk) es.toList (keys_ofU h1) with ⟨e1, e2⟩ | ⟨j, e0, e1, e2, e3⟩
  · refine ⟨setBlock w b (.map (es.push ⟨.int .i64 k, .int .u64 v, clock⟩) (clock + 1)), ?_, ⟨_, _, heap_setBlock_same hb _, stamped_push hs e2, ?_, ?_⟩, grown_setBlock w hb _⟩
    · simp [Instr.mapUpdate, run_underlying hT, MapKept.run_getObj_map hb, check_int w hk, e1, MapKept.run_setObj_map _ hb, Result.andThen, setBlock]
    · intro e he
      simp only [Array.toList_push, List.mem_append, List.mem_singleton] at he
      rcases he with he | rfl
      · obtain ⟨k', v', r1, r2, r3, r4⟩ := h1 e he
        refine ⟨k', v', r1, r2, r3, ?_⟩
        unfold upd
        rw [if_neg (fun e5 => e2 e he (by rw [r1, e5]))]
        exact r4
      · exact ⟨k, v, rfl, hk, rfl, by simp [upd]⟩
    · intro k' v' hu
      unfold upd at hu
      split at hu
      · rename_i ek
        subst ek
        injection hu with hu
        subst hu
        exact ⟨_, by simp; right; rfl, rfl, rfl⟩
      · obtain ⟨e, m1, r1, r2⟩ := h2 k' v' hu
        exact ⟨e, by simp [Array.toList_push]; left; simpa using m1, r1, r2⟩
  · have hj : es[j]? = some e0 := by simpa using e2
    obtain ⟨t1, t2⟩ := told_modifyU hs h1 h2 e2 hk e3 v (fun e' => { e' with key := .int .i64 k, val := .int .u64 v }) (by simp)
    refine ⟨setBlock w b (.map (es.modify j (fun e' => { e' with key := .int .i64 k, val := .int .u64 v })) clock), ?_, ⟨_, _, heap_setBlock_same hb _, stamped_modify hs j _ (fun _ _ => rfl) (fun e _ he => ?_), t1, t2⟩, grown_setBlock w hb _⟩
    · simp [Instr.mapUpdate, run_underlying hT, MapKept.run_getObj_map hb, check_int w hk, e1, hj, e3, key_law.stays w (key_int hk), MapKept.run_setObj_map _ hb, Result.andThen, setBlock]
    · rw [hj] at he; injection he with he; subst he; exact e3.symm
/-- 'delete(m, k)'. -/
theorem MapU.del (h : MapU w b f) {k : Int} (hk : i64ok k) (T ty : TypeId) (hT : Tryd.prog.underlying T = some (.map 3 22)) :
    ∃ w', (Builtin.delete_ #[T, 3] ty #[.map (some b), .int .i64 k]).run Tryd.prog w = .ok (.tuple #[]) w' ∧ MapU w' b (off f k) ∧ w.grownBy w' (some b) := by
  obtain ⟨es, clock, hb, hs, h1, h2⟩ := h
  rcases key_law.find w (key_int hk) es.toList (keys_ofU h1) with ⟨e1, e2⟩ | ⟨j, e0, e1, e2, e3⟩
  · refine ⟨setBlock w b (.map es clock), ?_, ⟨es, clock, heap_setBlock_same hb _, hs, fun e he => ?_, fun k' v' hu => ?_⟩, grown_setBlock w hb _⟩
    · simp [Builtin.delete_, run_underlying hT, MapKept.run_getObj_map hb, check_int w hk, e1, MapKept.run_setObj_map _ hb, Result.andThen, setBlock]
    · obtain ⟨k', v', r1, r2, r3, r4⟩ := h1 e he
      refine ⟨k', v', r1, r2, r3, ?_⟩
      unfold off
      rw [if_neg (fun e5 => e2 e he (by rw [r1, e5]))]
      exact r4
    · unfold off at hu
      split at hu
      · cases hu
      · exact h2 k' v' hu
  · have hjl : j < es.toList.length := (List.getElem?_eq_some_iff.1 e2).1
    have hjs : j < es.size := by simpa using hjl
    have hsub : (es.eraseIdxIfInBounds j).toList = es.toList.eraseIdx j := by
      unfold Array.eraseIdxIfInBounds
      rw [dif_pos hjs]
      simp
    refine ⟨setBlock w b (.map (es.eraseIdxIfInBounds j) clock), ?_, ⟨_, _, heap_setBlock_same hb _, stamped_erase hs j, fun e he => ?_, fun k' v' hu => ?_⟩, grown_setBlock w hb _⟩
    · simp [Builtin.delete_, run_underlying hT, MapKept.run_getObj_map hb, check_int w hk, e1, MapKept.run_setObj_map _ hb, Result.andThen, setBlock]
    · rw [hsub] at he
      obtain ⟨i, hne, hi⟩ := List.mem_eraseIdx_iff_getElem?.1 he
      have m1 : e ∈ es.toList := List.mem_of_getElem? hi
      obtain ⟨k', v', r1, r2, r3, r4⟩ := h1 e m1
      refine ⟨k', v', r1, r2, r3, ?_⟩
      unfold off
      split
      · rename_i ek
        subst ek
        have hp := List.pairwise_iff_getElem.1 hs.2.2
        obtain ⟨hi1, hi2⟩ := List.getElem?_eq_some_iff.1 hi
        obtain ⟨hj1, hj2⟩ := List.getElem?_eq_some_iff.1 e2
        rcases Nat.lt_trichotomy i j with h3 | h3 | h3
        · exact (hp i j (by simpa using hi1) (by simpa using hj1) h3 (by simp only [List.getElem_map, hi2, hj2, r1, e3])).elim
        · exact absurd h3 hne
        · exact (hp j i (by simpa using hj1) (by simpa using hi1) h3 (by simp only [List.getElem_map, hi2, hj2, r1, e3])).elim
      · exact r4
    · unfold off at hu
      split at hu
      · cases hu
      · rename_i ek
        obtain ⟨e, m1, r1, r2⟩ := h2 k' v' hu
        obtain ⟨i, hi⟩ := List.getElem?_of_mem m1
        refine ⟨e, ?_, r1, r2⟩
        rw [hsub]
        refine List.mem_eraseIdx_iff_getElem?.2 ⟨i, fun e5 => ?_, hi⟩
        subst e5
        rw [e2] at hi
        injection hi with hi
        subst hi
        rw [e3] at r1
        injection r1 with _ r1
        exact ek r1.symm
end
end Go.Proofs.YtajhkdbldbifeaaDoor

namespace Go.Proofs.YtajhkdbldbifeaaDoor
set_option maxRecDepth 100000
open Go.RowKit Go.ChangeMaps Go.MapKept
set_option linter.unusedVariables false
set_option linter.unusedSimpArgs false

/-- A cell that was there stays. -/
theorem Only.stay {w w' : World} (h : Only [] w w') {p : Addr} {v : Value} (hc : w.cell? p = some v) : w'.cell? p = some v := by
  rw [h.cell (World.block_lt_of_cell? w p hc) (by simp)]; exact hc
set_option maxHeartbeats 400000 in
/-- tag.Ahead: only new blocks behind it. -/
theorem ahead_only (x y : It) (w : World) :
    Calls Tryd.prog 76 #[.agg #[.int .u64 x.k, .int .i64 x.i], .agg #[.int .u64 y.k, .int .i64 y.i]] w fun e w' => e = .returned (.bool (x.lt y)) ∧ Only [] w w' := by
  unfold It.lt
  by_cases h : x.k = y.k
  · rw [h, ahead_same]
    go_enter Tryd.func76, Tryd.ntmps76
    go_wp2
    go_ret
    exact ⟨rfl, ((Only.refl _ _).alloc _).alloc _⟩
  · rw [ahead_not _ _ h]
    have t : (x.k != y.k) = true := by simp; omega
    go_enter Tryd.func76, Tryd.ntmps76
    go_wp2
    go_ret
    exact ⟨rfl, ((Only.refl _ _).alloc _).alloc _⟩
/-- Where an ID stands. -/
def fOf (xs : List It) (id : Int) : Option Int := (xs.findIdx? (fun x => x.i == id)).map Int.ofNat
theorem fOf_iff {xs : List It} (h : Ids xs) (id v : Int) : fOf xs id = some v ↔ ∃ k : Nat, k < xs.length ∧ (gOf xs k).i = id ∧ v = k := by
  unfold fOf
  rw [Option.map_eq_some_iff]
  constructor
  · rintro ⟨k, hk, rfl⟩
    obtain ⟨hl, hp, _⟩ := List.findIdx?_eq_some_iff_getElem.1 hk
    exact ⟨k, hl, by rw [gOf_get hl]; simpa using hp, rfl⟩
  · rintro ⟨k, hl, he, rfl⟩
    refine ⟨k, List.findIdx?_eq_some_iff_getElem.2 ⟨hl, by rw [gOf_get hl] at he; simpa using he, fun j hj => ?_⟩, rfl⟩
    intro hc
    have := h.place (a := j) (b := k) (by omega) hl (by rw [gOf_get (by omega : j < xs.length)]; rw [he]; simpa using hc)
    omega
theorem fOf_none {xs : List It} (id : Int) : fOf xs id = none ↔ ∀ x ∈ xs, x.i ≠ id := by
  unfold fOf
  simp
theorem opt_ext {a b : Option Int} (h : ∀ v, a = some v ↔ b = some v) : a = b := by
  rcases a with _ | a
  · rcases b with _ | b
    · rfl
    · exact absurd ((h b).2 rfl) (by simp)
  · exact ((h a).1 rfl).symm
/-- From w to w': of what was there only S has turned; S' is S, or new. -/
def Moved (w : World) (S : List Nat) (w' : World) (S' : List Nat) : Prop := Only S w w' ∧ ∀ b ∈ S', b ∈ S ∨ w.heap.size ≤ b
theorem Moved.refl (w : World) (S : List Nat) : Moved w S w S := ⟨Only.refl _ _, fun _ h => .inl h⟩
theorem Moved.trans {w w1 w2 : World} {S S1 S2 : List Nat} (h : Moved w S w1 S1) (h2 : Moved w1 S1 w2 S2) : Moved w S w2 S2 :=
  ⟨h.1.trans h2.1 h.2, fun b hb => by
    rcases h2.2 b hb with h3 | h3
    · exact h.2 b h3
    · exact .inr (Nat.le_trans h.1.size h3)⟩
theorem Moved.still {w w1 w2 : World} {S S1 : List Nat} (h : Moved w S w1 S1) (h2 : Only [] w1 w2) : Moved w S w2 S1 := ⟨h.1.trans h2 (by simp), h.2⟩
theorem Moved.of_only {w w1 : World} {S : List Nat} (h : Only [] w w1) : Moved w S w1 S := (Moved.refl w S).still h
/-- Is there an item with that ID? -/
def hasId (id : Int) (l : List It) : Bool := l.any (fun x => x.i == id)
theorem hasId_iff (id : Int) (l : List It) : hasId id l = true ↔ ∃ x ∈ l, x.i = id := by simp [hasId]
theorem hasId_not (id : Int) (l : List It) : hasId id l = false ↔ ∀ x ∈ l, x.i ≠ id := by simp [hasId]
theorem hasId_perm {l m : List It} (id : Int) (h : l.Perm m) : hasId id l = hasId id m := by
  rw [Bool.eq_iff_iff, hasId_iff, hasId_iff]
  exact ⟨fun ⟨x, hx, e⟩ => ⟨x, h.subset hx, e⟩, fun ⟨x, hx, e⟩ => ⟨x, h.symm.subset hx, e⟩⟩
theorem fOf_has (xs : List It) (id : Int) : (fOf xs id).isSome = hasId id xs := by
  rcases h : hasId id xs with _ | _
  · rw [(fOf_none id).2 ((hasId_not _ _).1 h)]; rfl
  · rcases h2 : fOf xs id with _ | q
    · obtain ⟨x, hx, e⟩ := (hasId_iff _ _).1 h
      exact absurd e ((fOf_none id).1 h2 x hx)
    · rfl
/-- The first one; an item of noughts if there is none. -/
def first (l : List It) : It := l.headD ⟨0, 0⟩
theorem first_gOf {l : List It} (h : 0 < l.length) : first l = gOf l 0 := by
  cases l with
  | nil => simp at h
  | cons x l => rfl
theorem own_item_blk {W : World} {v : Value} {xs : List It} (h : RowIs W v xs) {g : Nat} (hg : v.ownBlock = some g) : ∃ cur, W.heap[g]? = some (.cells cur 24 (0, 0)) := by
  rcases h.2 with ⟨rfl, _⟩ | ⟨g', cap, cur, rfl, h0, hb, r⟩
  · cases hg
  · have : g' = g := by simpa [Value.ownBlock] using hg
    subst this
    exact ⟨cur, hb⟩
theorem results_cell1 {fn : Func} {p : Tmp} {ty : TypeId} (h : fn.results = #[.cell p ty]) (tmps : Array Value) (P : Program) (w : World) :
    (results fn tmps).run P w = ((asAddr (tmps.getD p undef)).run P w).andThen fun a w₁ => ((loadVar ty a).run P w₁).andThen fun v w₂ => .ok v w₂ := by
  simp only [results, h]
  simp [Sem.run_bind, Result.andThen]
  split
  · split <;> assumption
  · rfl
/-- A block that holds one item. -/
def Box (w : World) (b : Nat) (x : It) : Prop := w.heap[b]? = some (.cells #[.int .u64 x.k, .int .i64 x.i] 24 (0, 0))
theorem Box.c0 {w : World} {b : Nat} {x : It} (h : Box w b x) : w.cell? ⟨b, 0, none⟩ = some (.int .u64 x.k) := by rw [cell_of_row w b 0 _ _ _ h]; rfl
theorem Box.c1 {w : World} {b : Nat} {x : It} (h : Box w b x) : w.cell? ⟨b, 1, none⟩ = some (.int .i64 x.i) := by rw [cell_of_row w b 1 _ _ _ h]; rfl
theorem Box.fr {w : World} {b : Nat} {x : It} (h : Box w b x) (i : Nat) : w.frozen? ⟨b, i, none⟩ = false := by unfold Box at h; simp [World.frozen?, h]
theorem Box.lt {w : World} {b : Nat} {x : It} (h : Box w b x) : b < w.heap.size := (Array.getElem?_eq_some_iff.1 h).1
theorem Box.only {w w' : World} {b : Nat} {x : It} {S : List Nat} (h : Box w b x) (ho : Only S w w') (hS : b ∉ S) : Box w' b x := ho.get h hS
theorem Box.new (w : World) (x : It) : Box (w.alloc (.cells #[.int .u64 x.k, .int .i64 x.i] 24)) w.heap.size x := heap_alloc_new w _
theorem eraseIdx_perm {xs : List It} {i : Nat} (hi : i < xs.length) : xs.Perm (gOf xs i :: xs.eraseIdx i) := by
  rw [gOf_get hi]
  have e := List.take_append_drop i xs
  have e2 : xs.eraseIdx i = xs.take i ++ xs.drop (i + 1) := List.eraseIdx_eq_take_drop_succ xs i
  rw [e2]
  have e3 : xs.drop i = xs[i] :: xs.drop (i + 1) := List.drop_eq_getElem_cons hi
  conv => lhs; rw [← e, e3]
  exact List.perm_middle
/-- The item with that ID. -/
def findId (id : Int) (l : List It) : Option It := l.find? (fun x => x.i == id)
def dropId (id : Int) (l : List It) : List It := l.eraseP (fun x => x.i == id)
theorem dropId_perm {xs l : List It} (hp : xs.Perm l) (hi : Ids xs) {k : Nat} (hk : k < xs.length) {id : Int} (he : (gOf xs k).i = id) : (xs.eraseIdx k).Perm (dropId id l) ∧ findId id l = some (gOf xs k) := by
  have h1 := eraseIdx_perm hk
  have hm : gOf xs k ∈ l := hp.subset (by rw [gOf_get hk]; exact List.getElem_mem _)
  obtain ⟨a, l1, l2, h2, h3, h4, h5⟩ := List.exists_of_eraseP (p := fun x : It => x.i == id) hm (by simpa using he)
  have ea : a = gOf xs k := (hi.perm hp).eq (by rw [h4]; simp) hm (by rw [he]; simpa using h3)
  have h6 : l.Perm (a :: dropId id l) := by
    unfold dropId
    rw [h5]
    conv => lhs; rw [h4]
    exact List.perm_middle
  refine ⟨(h1.symm.trans (hp.trans (ea ▸ h6))).cons_inv, ?_⟩
  unfold findId
  rw [h4, List.find?_append]
  have : l1.find? (fun x : It => x.i == id) = none := List.find?_eq_none.2 (fun x hx => h2 x hx)
  rw [this]
  simp [h3, ← ea]
theorem dropId_rises {l : List It} (h : Rises l) (id : Int) : Rises (dropId id l) := List.Pairwise.sublist List.eraseP_sublist h
theorem dropId_none {l : List It} {id : Int} (h : hasId id l = false) : dropId id l = l ∧ findId id l = none := by
  have hn := (hasId_not _ _).1 h
  exact ⟨List.eraseP_of_forall_not (fun x hx => by simpa using hn x hx), List.find?_eq_none.2 (fun x hx => by simpa using hn x hx)⟩
section
variable {w : World} {ops : Array Oper} {o : Oper} {a : Act} {Q : Exit → Act → World → Prop}
/-- 'delete(m, k)' as a step. -/
theorem wpList_del {rest : List Oper} (hgd : o.guard = none) (m x : Operand) (ho : o.op = .call { callee := .builtin .delete, args := #[m, x], argTypes := #[84, 3] })
    (b : Nat) (f : Int → Option Int) (k : Int) (hm : a.eval m = .map (some b)) (hx : a.eval x = .int .i64 k) (h : MapU w b f) (hk : i64ok k)
    (hK : ∀ w', MapU w' b (off f k) → w.grownBy w' (some b) → wpList Tryd.prog ops Q rest (a.put o.dst (.tuple #[])) w') : wpList Tryd.prog ops Q (o :: rest) a w := by
  refine wpList_plain hgd fun K hK' => ?_
  obtain ⟨w', r1, r2, r3⟩ := h.del hk 84 o.type Tryd.underlying84
  unfold Oper.wp execOp
  simp only [ho, resolve, invoke, builtin, Sem.run_bind, Sem.run_pure, Result.andThen_ok, List.map_toArray, List.map_cons, List.map_nil, hm, hx, r1]
  exact hK' _ _ (hK w' r2 r3)
end
end Go.Proofs.YtajhkdbldbifeaaDoor
