/-
  A map from locations to slices of ints, as the function that it tells.
-/
import Derived.Test.YtmgmfihjojhilaaRcA
import Derived.DeepKeys4
namespace Go.Proofs.Ytmgmfihjojhilaa
set_option maxRecDepth 100000
open Go.RowKit Go.ChangeMaps Go.MapKept
open Go.Maps (Keyed)
set_option linter.unusedVariables false
set_option linter.unusedSimpArgs false
set_option maxRecDepth 100000

/-- A slice: where it lies, how long it is, how much room it has. -/
structure Sl where
  A : Option Addr
  n : Nat
  c : Nat
def Sl.val (s : Sl) : Value := .slice s.A s.n s.c
def Sl.nil : Sl := ⟨none, 0, 0⟩
theorem Sl.eta (s : Sl) : s.val = .slice s.A s.n s.c := rfl
def Lc.ok (p : Lc) : Prop := i64ok p.k ∧ i64ok p.a ∧ i64ok p.b
theorem lc_laid : laidOutB Try.prog = true := by kernel_rfl
theorem lc_row : (34 : TypeId) < Try.prog.types.size := of_decide_eq_true (by kernel_rfl)
theorem lc_wide : (match Try.prog.underlying 34 with | some (.array _ _) | some (.struct _) => true | _ => false) = true := by kernel_rfl
theorem lc_law : Keyed Try.prog 34 := Keyed.of_law (deep_law_laid lc_laid (m := 3) (by omega) lc_row (by kernel_rfl) lc_wide)
theorem lc_kt : Try.prog.keyType 34 = true := by kernel_rfl
theorem lc_key (p : Lc) (h : p.ok) : ∃ l, Go.keyOf Try.prog 34 p.val = some l := by
  obtain ⟨k, a, b⟩ := p
  obtain ⟨h1, h2, h3⟩ := h
  obtain ⟨m, hm⟩ : ∃ m, Try.prog.types.size = m + 1 := ⟨_, (Nat.succ_pred_eq_of_pos (Nat.lt_of_le_of_lt (Nat.zero_le _) lc_row)).symm⟩
  refine ⟨.string (keyBytes [.int .i64 k, .int .i64 a, .int .i64 b]), ?_⟩
  have k1 : Try.prog.cellsOf 3 = 1 := by kernel_rfl
  have k3 : Try.prog.cellsOf 34 = 3 := by kernel_rfl
  unfold i64ok at h1 h2 h3
  unfold Go.keyOf Lc.val
  simp only [Try.underlying34]
  rw [if_pos (by simp [lc_kt, Value.formed, Try.underlying34, k3]), hm]
  unfold Program.keyLits
  simp only [Try.underlying34, Value.cells]
  simp [k3, k1, Program.keyLits, Try.underlying3, h1, h2, h3]
theorem zero_sl (w : World) : (zeroValue 23).run Try.prog w = .ok (.slice none 0 0) w := by kernel_rfl
theorem lc_inj {p q : Lc} (h : p.val = q.val) : p = q := by
  obtain ⟨k, a, b⟩ := p
  obtain ⟨k', a', b'⟩ := q
  simp [Lc.val] at h
  simp [h]
theorem sl_inj {p q : Sl} (h : p.val = q.val) : p = q := by
  obtain ⟨k, a, b⟩ := p
  obtain ⟨k', a', b'⟩ := q
  simp [Sl.val] at h
  simp [h]

/-- Block b is a map that tells f. -/
def MapL (w : World) (b : Nat) (f : Lc → Option Sl) : Prop :=
  ∃ es clock, w.heap[b]? = some (.map es clock) ∧ Stamped es clock ∧ (∀ e ∈ es.toList, ∃ (k : Lc) (v : Sl), e.key = k.val ∧ k.ok ∧ e.val = v.val ∧ f k = some v) ∧
    ∀ (k : Lc) (v : Sl), f k = some v → ∃ e ∈ es.toList, e.key = k.val ∧ e.val = v.val
def updL (f : Lc → Option Sl) (k : Lc) (v : Sl) : Lc → Option Sl := fun q => if q = k then some v else f q
section
variable {w : World} {b : Nat} {f : Lc → Option Sl}
theorem MapL.keep {w' : World} (h : MapL w b f) (hk : w'.heap[b]? = w.heap[b]?) : MapL w' b f := by
  obtain ⟨es, clock, hb, r⟩ := h
  exact ⟨es, clock, hk.trans hb, r⟩
theorem MapL.lt (h : MapL w b f) : b < w.heap.size := by
  obtain ⟨es, clock, hb, r⟩ := h
  exact (Array.getElem?_eq_some_iff.1 hb).1
theorem MapL.only {w' : World} {S : List Nat} (h : MapL w b f) (ho : Only S w w') (hS : b ∉ S) : MapL w' b f := h.keep (ho.block b h.lt hS)
theorem MapL.made (w : World) : MapL (w.alloc (.map #[] 0)) w.heap.size (fun _ => none) :=
  ⟨#[], 0, (MapKept.heap_alloc w _).1, stamped_empty 0, by simp, by simp⟩
theorem keys_ofL {es : Array MapEntry} (h : ∀ e ∈ es.toList, ∃ (k : Lc) (v : Sl), e.key = k.val ∧ k.ok ∧ e.val = v.val ∧ f k = some v) : ∀ e ∈ es.toList, ∃ l, Go.keyOf Try.prog 34 e.key = some l := fun e he => by
  obtain ⟨k, v, h1, h2, _⟩ := h e he
  rw [h1]
  exact lc_key k h2
theorem MapL.look (h : MapL w b f) {k : Lc} (hk : k.ok) (T : TypeId) (hT : Try.prog.underlying T = some (.map 34 23)) :
    (Instr.lookup T (.map (some b)) k.val false).run Try.prog w = .ok ((f k).getD Sl.nil).val w := by
  obtain ⟨es, clock, hb, hs, h1, h2⟩ := h
  obtain ⟨l, hl⟩ := lc_key k hk
  rcases lc_law.find w hl es.toList (keys_ofL h1) with ⟨e1, e2⟩ | ⟨j, e0, e1, e2, e3⟩
  · have hf : f k = none := by
      rcases hf : f k with _ | v
      · rfl
      · obtain ⟨e, he, hek, _⟩ := h2 k v hf
        exact absurd hek (e2 e he)
    simp [Instr.lookup, run_underlying hT, MapKept.run_getObj_map hb, lc_law.check w _ hl, e1, zero_sl, Result.andThen, hf, Sl.val, Sl.nil]
  · obtain ⟨k', v, h3, h4, h5, h6⟩ := h1 e0 (List.mem_of_getElem? e2)
    obtain rfl : k' = k := lc_inj (h3.symm.trans e3)
    simp [Instr.lookup, run_underlying hT, MapKept.run_getObj_map hb, lc_law.check w _ hl, e1, h5, Result.andThen, h6]
/-- The entry at a key turned to v. -/
theorem told_modifyL {es : Array MapEntry} {clock : Nat} (hs : Stamped es clock) (h1 : ∀ e ∈ es.toList, ∃ (k : Lc) (v : Sl), e.key = k.val ∧ k.ok ∧ e.val = v.val ∧ f k = some v)
    (h2 : ∀ (k : Lc) (v : Sl), f k = some v → ∃ e ∈ es.toList, e.key = k.val ∧ e.val = v.val) {j : Nat} {e0 : MapEntry} (hj : es.toList[j]? = some e0) {k : Lc} (hk : k.ok) (he : e0.key = k.val) (v : Sl) (g : MapEntry → MapEntry)
    (hg : g e0 = ⟨k.val, v.val, e0.born⟩) :
    (∀ e ∈ (es.modify j g).toList, ∃ (k' : Lc) (v' : Sl), e.key = k'.val ∧ k'.ok ∧ e.val = v'.val ∧ updL f k v k' = some v') ∧
    ∀ (k' : Lc) (v' : Sl), updL f k v k' = some v' → ∃ e ∈ (es.modify j g).toList, e.key = k'.val ∧ e.val = v'.val := by
  have m0 : e0 ∈ es.toList := List.mem_of_getElem? hj
  refine ⟨fun e he2 => ?_, fun k' v' hu => ?_⟩
  · rcases mem_modify hj g e he2 with rfl | ⟨i, hne, hi⟩
    · rw [hg]; exact ⟨k, v, rfl, hk, rfl, by simp [updL]⟩
    · have m1 : e ∈ es.toList := List.mem_of_getElem? hi
      obtain ⟨k', v', r1, r2, r3, r4⟩ := h1 e m1
      refine ⟨k', v', r1, r2, r3, ?_⟩
      unfold updL
      split
      · rename_i ek
        subst ek
        have ee := Stamped.entry hs m1 m0 (r1.trans he.symm)
        subst ee
        have hp := List.pairwise_iff_getElem.1 hs.2.2
        obtain ⟨hi1, hi2⟩ := List.getElem?_eq_some_iff.1 hi
        obtain ⟨hj1, hj2⟩ := List.getElem?_eq_some_iff.1 hj
        rcases Nat.lt_trichotomy i j with h3 | h3 | h3
        · exact (hp i j (by simpa using hi1) (by simpa using hj1) h3 (by simp only [List.getElem_map, hi2, hj2])).elim
        · exact absurd h3 hne
        · exact (hp j i (by simpa using hj1) (by simpa using hi1) h3 (by simp only [List.getElem_map, hi2, hj2])).elim
      · exact r4
  · obtain ⟨mk1, mk2⟩ := mem_modify_mk hj g
    unfold updL at hu
    split at hu
    · rename_i ek
      subst ek
      injection hu with hu
      subst hu
      exact ⟨_, mk1, by rw [hg], by rw [hg]⟩
    · rename_i ek
      obtain ⟨e, m1, r1, r2⟩ := h2 k' v' hu
      obtain ⟨i, hi⟩ := List.getElem?_of_mem m1
      refine ⟨e, mk2 i e (fun e5 => ?_) hi, r1, r2⟩
      subst e5
      rw [hj] at hi
      injection hi with hi
      subst hi
      exact ek (lc_inj (r1.symm.trans he))
/-- 'm[k] = v'. -/
theorem MapL.put (h : MapL w b f) {k : Lc} (hk : k.ok) (v : Sl) (T : TypeId) (hT : Try.prog.underlying T = some (.map 34 23)) :
    ∃ w', (Instr.mapUpdate T (.map (some b)) k.val v.val).run Try.prog w = .ok () w' ∧ MapL w' b (updL f k v) ∧ Only [b] w w' := by
  obtain ⟨es, clock, hb, hs, h1, h2⟩ := h
  obtain ⟨l, hl⟩ := lc_key k hk
  have hO : ∀ o, Only [b] w (setBlock w b o) := fun o => (Only.refl [b] w).grown (grown_setBlock w hb o) (fun k hk => .inl (by injection hk with hk; simp [hk]))
  rcases lc_law.find w hl es.toList (keys_ofL h1) with ⟨e1, e2⟩ | ⟨j, e0, e1, e2, e3⟩
  · refine ⟨setBlock w b (.map (es.push ⟨k.val, v.val, clock⟩) (clock + 1)), ?_, ⟨_, _, heap_setBlock_same hb _, stamped_push hs e2, ?_, ?_⟩, hO _⟩
    · simp [Instr.mapUpdate, run_underlying hT, MapKept.run_getObj_map hb, lc_law.check w _ hl, e1, MapKept.run_setObj_map _ hb, Result.andThen, setBlock]
    · intro e he
      simp only [Array.toList_push, List.mem_append, List.mem_singleton] at he
      rcases he with he | rfl
      · obtain ⟨k', v', r1, r2, r3, r4⟩ := h1 e he
        refine ⟨k', v', r1, r2, r3, ?_⟩
        unfold updL
        rw [if_neg (fun e5 => e2 e he (by rw [r1, e5]))]
        exact r4
      · exact ⟨k, v, rfl, hk, rfl, by simp [updL]⟩
    · intro k' v' hu
      unfold updL at hu
      split at hu
      · rename_i ek
        subst ek
        injection hu with hu
        subst hu
        exact ⟨_, by simp; right; rfl, rfl, rfl⟩
      · obtain ⟨e, m1, r1, r2⟩ := h2 k' v' hu
        exact ⟨e, by simp [Array.toList_push]; left; simpa using m1, r1, r2⟩
  · have hj : es[j]? = some e0 := by simpa using e2
    obtain ⟨t1, t2⟩ := told_modifyL hs h1 h2 e2 hk e3 v (fun e' => { e' with key := k.val, val := v.val }) (by simp)
    refine ⟨setBlock w b (.map (es.modify j (fun e' => { e' with key := k.val, val := v.val })) clock), ?_, ⟨_, _, heap_setBlock_same hb _, stamped_modify hs j _ (fun _ _ => rfl) (fun e _ he => ?_), t1, t2⟩, hO _⟩
    · simp [Instr.mapUpdate, run_underlying hT, MapKept.run_getObj_map hb, lc_law.check w _ hl, e1, hj, e3, lc_law.stays w hl, MapKept.run_setObj_map _ hb, Result.andThen, setBlock]
    · rw [hj] at he; injection he with he; subst he; exact e3.symm
end
end Go.Proofs.Ytmgmfihjojhilaa
