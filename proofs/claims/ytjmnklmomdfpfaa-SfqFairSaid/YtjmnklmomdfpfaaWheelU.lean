/-
  A map from ints to uint64s as the function that it tells.
-/
import Derived.Test.YtjmnklmomdfpfaaHeapW
namespace Go.Proofs.Ytjmnklmomdfpfaa
set_option maxRecDepth 100000
open Go.RowKit Go.ChangeMaps Go.MapKept
open Go.Maps (Keyed)
set_option linter.unusedVariables false
set_option linter.unusedSimpArgs false

theorem zero_u64 (w : World) : (zeroValue 27).run Try.prog w = .ok (.int .u64 0) w := by kernel_rfl
section
variable {w : World} {b : Nat} {f : Int → Option Int}
/-- Block b is a map that tells f. -/
def MapU (w : World) (b : Nat) (f : Int → Option Int) : Prop :=
  ∃ es clock, w.heap[b]? = some (.map es clock) ∧ Stamped es clock ∧ (∀ e ∈ es.toList, ∃ k v, e.key = .int .i64 k ∧ i64ok k ∧ e.val = .int .u64 v ∧ f k = some v) ∧
    ∀ k v, f k = some v → ∃ e ∈ es.toList, e.key = .int .i64 k ∧ e.val = .int .u64 v
theorem MapU.keep {w' : World} (h : MapU w b f) (hk : w'.heap[b]? = w.heap[b]?) : MapU w' b f := by
  obtain ⟨es, clock, hb, r⟩ := h
  exact ⟨es, clock, hk.trans hb, r⟩
theorem MapU.lt (h : MapU w b f) : b < w.heap.size := by
  obtain ⟨es, clock, hb, r⟩ := h
  exact (Array.getElem?_eq_some_iff.1 hb).1
theorem MapU.made (w : World) : MapU (w.alloc (.map #[] 0)) w.heap.size (fun _ => none) :=
  ⟨#[], 0, (MapKept.heap_alloc w _).1, stamped_empty 0, by simp, by simp⟩
theorem keys_ofU {es : Array MapEntry} (h : ∀ e ∈ es.toList, ∃ k v, e.key = .int .i64 k ∧ i64ok k ∧ e.val = .int .u64 v ∧ f k = some v) : ∀ e ∈ es.toList, ∃ l, Go.keyOf Try.prog 3 e.key = some l := fun e he => by
  obtain ⟨k, v, h1, h2, _⟩ := h e he
  exact ⟨_, by rw [h1]; exact key_int h2⟩
theorem MapU.look (h : MapU w b f) {k : Int} (hk : i64ok k) (T : TypeId) (hT : Try.prog.underlying T = some (.map 3 27)) :
    (Instr.lookup T (.map (some b)) (.int .i64 k) true).run Try.prog w = .ok (.tuple #[.int .u64 ((f k).getD 0), .bool (f k).isSome]) w := by
  obtain ⟨es, clock, hb, hs, h1, h2⟩ := h
  rcases key_law.find w (key_int hk) es.toList (keys_ofU h1) with ⟨e1, e2⟩ | ⟨j, e0, e1, e2, e3⟩
  · have hf : f k = none := by
      rcases hf : f k with _ | v
      · rfl
      · obtain ⟨e, he, hek, _⟩ := h2 k v hf
        exact absurd hek (e2 e he)
    simp [Instr.lookup, run_underlying hT, MapKept.run_getObj_map hb, check_int w hk, e1, zero_u64, Result.andThen, hf]
  · obtain ⟨k', v, h3, h4, h5, h6⟩ := h1 e0 (List.mem_of_getElem? e2)
    have : k' = k := by rw [e3] at h3; injection h3 with _ h3; exact h3.symm
    subst this
    simp [Instr.lookup, run_underlying hT, MapKept.run_getObj_map hb, check_int w hk, e1, h5, Result.andThen, h6]
/-- The entry at a key turned to v. -/
theorem told_modifyU {es : Array MapEntry} {clock : Nat} (hs : Stamped es clock) (h1 : ∀ e ∈ es.toList, ∃ k v, e.key = .int .i64 k ∧ i64ok k ∧ e.val = .int .u64 v ∧ f k = some v)
    (h2 : ∀ k v, f k = some v → ∃ e ∈ es.toList, e.key = .int .i64 k ∧ e.val = .int .u64 v) {j : Nat} {e0 : MapEntry} (hj : es.toList[j]? = some e0) {k : Int} (hk : i64ok k) (he : e0.key = .int .i64 k) (v : Int) (g : MapEntry → MapEntry)
    (hg : g e0 = ⟨.int .i64 k, .int .u64 v, e0.born⟩) :
    (∀ e ∈ (es.modify j g).toList, ∃ k' v', e.key = .int .i64 k' ∧ i64ok k' ∧ e.val = .int .u64 v' ∧ upd f k v k' = some v') ∧
    ∀ k' v', upd f k v k' = some v' → ∃ e ∈ (es.modify j g).toList, e.key = .int .i64 k' ∧ e.val = .int .u64 v' := by
  have m0 : e0 ∈ es.toList := List.mem_of_getElem? hj
  refine ⟨fun e he2 => ?_, fun k' v' hu => ?_⟩
  · rcases mem_modify hj g e he2 with rfl | ⟨i, hne, hi⟩
    · rw [hg]; exact ⟨k, v, rfl, hk, rfl, by simp [upd]⟩
    · have m1 : e ∈ es.toList := List.mem_of_getElem? hi
      obtain ⟨k', v', r1, r2, r3, r4⟩ := h1 e m1
      refine ⟨k', v', r1, r2, r3, ?_⟩
      unfold upd
      split
      · rename_i ek
        subst ek
        have ee := Stamped.entry hs m1 m0 (r1.trans he.symm)
        subst ee
        have hp := List.pairwise_iff_getElem.1 hs.2.2
        obtain ⟨hi1, hi2⟩ := List.getElem?_eq_some_iff.1 hi
        obtain ⟨hj1, hj2⟩ := List.getElem?_eq_some_iff.1 hj
        rcases Nat.lt_trichotomy i j with h3 | h3 | h3
        · exact (hp i j (by simpa using hi1) (by simpa using hj1) h3 (by simp only [List.getElem_map, hi2, hj2])).elim
        · exact absurd h3 hne
        · exact (hp j i (by simpa using hj1) (by simpa using hi1) h3 (by simp only [List.getElem_map, hi2, hj2])).elim
      · exact r4
  · obtain ⟨mk1, mk2⟩ := mem_modify_mk hj g
    unfold upd at hu
    split at hu
    · rename_i ek
      subst ek
      injection hu with hu
      subst hu
      exact ⟨_, mk1, by rw [hg], by rw [hg]⟩
    · rename_i ek
      obtain ⟨e, m1, r1, r2⟩ := h2 k' v' hu
      obtain ⟨i, hi⟩ := List.getElem?_of_mem m1
      refine ⟨e, mk2 i e (fun e5 => ?_) hi, r1, r2⟩
      subst e5
      rw [hj] at hi
      injection hi with hi
      subst hi
      rw [he] at r1
      injection r1 with _ r1
      exact ek r1.symm
/-- 'm[k] = v'. -/
theorem MapU.put (h : MapU w b f) {k : Int} (hk : i64ok k) (v : Int) (T : TypeId) (hT : Try.prog.underlying T = some (.map 3 27)) :
    ∃ w', (Instr.mapUpdate T (.map (some b)) (.int .i64 k) (.int .u64 v)).run Try.prog w = .ok () w' ∧ MapU w' b (upd f k v) ∧ w.grownBy w' (some b) := by
  obtain ⟨es, clock, hb, hs, h1, h2⟩ := h
  rcases key_law.find w (key_int hk) es.toList (keys_ofU h1) with ⟨e1, e2⟩ | ⟨j, e0, e1, e2, e3⟩
  · refine ⟨setBlock w b (.map (es.push ⟨.int .i64 k, .int .u64 v, clock⟩) (clock + 1)), ?_, ⟨_, _, heap_setBlock_same hb _, stamped_push hs e2, ?_, ?_⟩, grown_setBlock w hb _⟩
    · simp [Instr.mapUpdate, run_underlying hT, MapKept.run_getObj_map hb, check_int w hk, e1, MapKept.run_setObj_map _ hb, Result.andThen, setBlock]
    · intro e he
      simp only [Array.toList_push, List.mem_append, List.mem_singleton] at he
      rcases he with he | rfl
      · obtain ⟨k', v', r1, r2, r3, r4⟩ := h1 e he
        refine ⟨k', v', r1, r2, r3, ?_⟩
        unfold upd
        rw [if_neg (fun e5 => e2 e he (by rw [r1, e5]))]
        exact r4
      · exact ⟨k, v, rfl, hk, rfl, by simp [upd]⟩
    · intro k' v' hu
      unfold upd at hu
      split at hu
      · rename_i ek
        subst ek
        injection hu with hu
        subst hu
        exact ⟨_, by simp; right; rfl, rfl, rfl⟩
      · obtain ⟨e, m1, r1, r2⟩ := h2 k' v' hu
        exact ⟨e, by simp [Array.toList_push]; left; simpa using m1, r1, r2⟩
  · have hj : es[j]? = some e0 := by simpa using e2
    obtain ⟨t1, t2⟩ := told_modifyU hs h1 h2 e2 hk e3 v (fun e' => { e' with key := .int .i64 k, val := .int .u64 v }) (by simp)
    refine ⟨setBlock w b (.map (es.modify j (fun e' => { e' with key := .int .i64 k, val := .int .u64 v })) clock), ?_, ⟨_, _, heap_setBlock_same hb _, stamped_modify hs j _ (fun _ _ => rfl) (fun e _ he => ?_), t1, t2⟩, grown_setBlock w hb _⟩
    · simp [Instr.mapUpdate, run_underlying hT, MapKept.run_getObj_map hb, check_int w hk, e1, hj, e3, key_law.stays w (key_int hk), MapKept.run_setObj_map _ hb, Result.andThen, setBlock]
    · rw [hj] at he; injection he with he; subst he; exact e3.symm
/-- 'delete(m, k)'. -/
theorem MapU.del (h : MapU w b f) {k : Int} (hk : i64ok k) (T ty : TypeId) (hT : Try.prog.underlying T = some (.map 3 27)) :
    ∃ w', (Builtin.delete_ #[T, 3] ty #[.map (some b), .int .i64 k]).run Try.prog w = .ok (.tuple #[]) w' ∧ MapU w' b (off f k) ∧ w.grownBy w' (some b) := by
  obtain ⟨es, clock, hb, hs, h1, h2⟩ := h
  rcases key_law.find w (key_int hk) es.toList (keys_ofU h1) with ⟨e1, e2⟩ | ⟨j, e0, e1, e2, e3⟩
  · refine ⟨setBlock w b (.map es clock), ?_, ⟨es, clock, heap_setBlock_same hb _, hs, fun e he => ?_, fun k' v' hu => ?_⟩, grown_setBlock w hb _⟩
    · simp [Builtin.delete_, run_underlying hT, MapKept.run_getObj_map hb, check_int w hk, e1, MapKept.run_setObj_map _ hb, Result.andThen, setBlock]
    · obtain ⟨k', v', r1, r2, r3, r4⟩ := h1 e he
      refine ⟨k', v', r1, r2, r3, ?_⟩
      unfold off
      rw [if_neg (fun e5 => e2 e he (by rw [r1, e5]))]
      exact r4
    · unfold off at hu
      split at hu
      · cases hu
      · exact h2 k' v' hu
  · have hjl : j < es.toList.length := (List.getElem?_eq_some_iff.1 e2).1
    have hjs : j < es.size := by simpa using hjl
    have hsub : (es.eraseIdxIfInBounds j).toList = es.toList.eraseIdx j := by
      unfold Array.eraseIdxIfInBounds
      rw [dif_pos hjs]
      simp
    refine ⟨setBlock w b (.map (es.eraseIdxIfInBounds j) clock), ?_, ⟨_, _, heap_setBlock_same hb _, stamped_erase hs j, fun e he => ?_, fun k' v' hu => ?_⟩, grown_setBlock w hb _⟩
    · simp [Builtin.delete_, run_underlying hT, MapKept.run_getObj_map hb, check_int w hk, e1, MapKept.run_setObj_map _ hb, Result.andThen, setBlock]
    · rw [hsub] at he
      obtain ⟨i, hne, hi⟩ := List.mem_eraseIdx_iff_getElem?.1 he
      have m1 : e ∈ es.toList := List.mem_of_getElem? hi
      obtain ⟨k', v', r1, r2, r3, r4⟩ := h1 e m1
      refine ⟨k', v', r1, r2, r3, ?_⟩
      unfold off
      split
      · rename_i ek
        subst ek
        have hp := List.pairwise_iff_getElem.1 hs.2.2
        obtain ⟨hi1, hi2⟩ := List.getElem?_eq_some_iff.1 hi
        obtain ⟨hj1, hj2⟩ := List.getElem?_eq_some_iff.1 e2
        rcases Nat.lt_trichotomy i j with h3 | h3 | h3
        · exact (hp i j (by simpa using hi1) (by simpa using hj1) h3 (by simp only [List.getElem_map, hi2, hj2, r1, e3])).elim
        · exact absurd h3 hne
        · exact (hp j i (by simpa using hj1) (by simpa using hi1) h3 (by simp only [List.getElem_map, hi2, hj2, r1, e3])).elim
      · exact r4
    · unfold off at hu
      split at hu
      · cases hu
      · rename_i ek
        obtain ⟨e, m1, r1, r2⟩ := h2 k' v' hu
        obtain ⟨i, hi⟩ := List.getElem?_of_mem m1
        refine ⟨e, ?_, r1, r2⟩
        rw [hsub]
        refine List.mem_eraseIdx_iff_getElem?.2 ⟨i, fun e5 => ?_, hi⟩
        subst e5
        rw [e2] at hi
        injection hi with hi
        subst hi
        rw [e3] at r1
        injection r1 with _ r1
        exact ek r1.symm
end
end Go.Proofs.Ytjmnklmomdfpfaa
