/-
  Words for the world, for the heap: what may have turned ('Only'), a row of items, a map from ints to ints as the function that it tells.
-/
import Derived.Test.YtaaolacfhdfagaaHeapM
import Derived.Test.YtaaolacfhdfagaaChecked
import Derived.WalkKit
import Derived.Below
import Derived.Lib.Hide
import Derived.Maps.Keyed
import Derived.Maps.AppendAt
import Derived.WideKeyEntry
import Derived.Deep.AppendLies
import Derived.Deep.Draws
import Derived.OwnWalk
namespace Go.Proofs.Ytaaolacfhdfagaa
set_option maxRecDepth 100000
open Go.RowKit Go.ChangeMaps Go.MapKept
open Go.Maps (Keyed)
set_option linter.unusedVariables false
set_option linter.unusedSimpArgs false

/-! ### what may have turned -/
/-- Of the blocks of w at most those of S have turned; there may be new ones. -/
structure Only (S : List Nat) (w w' : World) : Prop where
  os : w'.os = w.os
  tape : w'.tape = w.tape
  output : w'.output = w.output
  size : w.heap.size ≤ w'.heap.size
  block : ∀ k, k < w.heap.size → k ∉ S → w'.heap[k]? = w.heap[k]?

theorem Only.refl (S : List Nat) (w : World) : Only S w w := ⟨rfl, rfl, rfl, Nat.le_refl _, fun _ _ _ => rfl⟩
theorem Only.trans {S T : List Nat} {a b c : World} (h : Only S a b) (h2 : Only T b c) (hT : ∀ k ∈ T, k ∈ S ∨ a.heap.size ≤ k) : Only S a c :=
  ⟨h2.os.trans h.os, h2.tape.trans h.tape, h2.output.trans h.output, Nat.le_trans h.size h2.size, fun k hk hS =>
    (h2.block k (Nat.lt_of_lt_of_le hk h.size) (fun hk2 => (hT k hk2).elim hS (fun h3 => by omega))).trans (h.block k hk hS)⟩
theorem Only.trans' {S : List Nat} {a b c : World} (h : Only S a b) (h2 : Only S b c) : Only S a c := h.trans h2 fun _ hk => .inl hk
theorem Only.mono {S T : List Nat} {w w' : World} (h : Only S w w') (hT : ∀ k ∈ S, k ∈ T ∨ w.heap.size ≤ k) : Only T w w' :=
  (Only.refl T w).trans h hT
theorem Only.drew {S : List Nat} {a w : World} (h : Only S a w) : Only S a w.drew := ⟨h.os, h.tape, h.output, h.size, h.block⟩
theorem Only.drewN {S : List Nat} {a w : World} (h : Only S a w) (n : Nat) : Only S a (w.drewN n) := ⟨h.os, h.tape, h.output, h.size, h.block⟩
theorem Only.alloc {S : List Nat} {a w : World} (h : Only S a w) (o : Obj) : Only S a (w.alloc o) :=
  h.trans (T := []) ⟨rfl, rfl, rfl, by simp, fun k hk _ => Below.heap_alloc _ _ _ hk⟩ (by simp)
theorem Only.setCell {S : List Nat} {a w : World} (h : Only S a w) {p : Addr} (hp : p.block ∈ S ∨ a.heap.size ≤ p.block) (u : Value) : Only S a (w.setCell p u) :=
  h.trans (T := [p.block]) ⟨rfl, rfl, rfl, by simp [World.setCell], fun k _ hk => Below.heap_setCell _ _ _ _ (by simpa using hk)⟩ (by simpa using hp)
theorem Only.grown {S : List Nat} {a w w' : World} {row : Option Nat} (h : Only S a w) (hg : w.grownBy w' row) (hr : ∀ k, row = some k → k ∈ S ∨ a.heap.size ≤ k) : Only S a w' :=
  h.trans (T := row.toList) ⟨hg.os, hg.tape, hg.output, hg.size, fun k hk hk2 => hg.block k hk (fun e => hk2 (by simp [← e]))⟩ (fun k hk => hr k (by simpa using hk))
theorem Only.of_below {w w' : World} (h : Below w.heap.size w w') : Only [] w w' := ⟨h.os, h.tape, h.output, h.size, fun k hk _ => h.block k hk⟩
theorem Only.below {S : List Nat} {w w' : World} (h : Only S w w') {B : Nat} (hB : B ≤ w.heap.size) (hS : ∀ k ∈ S, B ≤ k) : Below B w w' :=
  ⟨h.os, h.tape, h.output, h.size, fun k hk => h.block k (by omega) (fun h2 => by have := hS k h2; omega)⟩
theorem Only.cell {S : List Nat} {w w' : World} (h : Only S w w') {p : Addr} (hp : p.block < w.heap.size) (hS : p.block ∉ S) : w'.cell? p = w.cell? p := World.cell?_of_block (w := w) (h.block p.block hp hS)
theorem Only.get {S : List Nat} {w w' : World} (h : Only S w w') {b : Nat} {o : Obj} (hb : w.heap[b]? = some o) (hS : b ∉ S) : w'.heap[b]? = some o :=
  (h.block b (Array.getElem?_eq_some_iff.1 hb).1 hS).trans hb

/-! ### rows of items -/
def It.cs (x : It) : List Value := [.int .u64 x.k, .int .i64 x.i]
def It.val (x : It) : Value := .agg #[.int .u64 x.k, .int .i64 x.i]
def flat (xs : List It) : List Value := xs.flatMap It.cs
def i64ok (a : Int) : Prop := (Lit.int .i64 a).wf = true
def It.ok (x : It) : Prop := (Lit.int .u64 x.k).wf = true ∧ i64ok x.i
theorem flat_cons (x : It) (xs : List It) : flat (x :: xs) = .int .u64 x.k :: .int .i64 x.i :: flat xs := by simp [flat, It.cs]
theorem flat_append (xs ys : List It) : flat (xs ++ ys) = flat xs ++ flat ys := by simp [flat]
@[simp] theorem flat_length (xs : List It) : (flat xs).length = xs.length * 2 := by
  induction xs with
  | nil => rfl
  | cons x xs ih => rw [flat_cons]; simp [ih]; omega
theorem flat_set : ∀ (xs : List It) (k : Nat) (x : It), flat (xs.set k x) = ((flat xs).set (k * 2) (.int .u64 x.k)).set (k * 2 + 1) (.int .i64 x.i)
  | [], k, x => by simp [flat]
  | y :: xs, 0, x => by simp [flat_cons]
  | y :: xs, k + 1, x => by
    rw [List.set_cons_succ, flat_cons, flat_cons, flat_set xs k x]
    have e1 : (k + 1) * 2 = k * 2 + 2 := by omega
    rw [e1]
    simp
theorem flat_key : ∀ (xs : List It) (k : Nat), k < xs.length → (flat xs)[k * 2]? = some (.int .u64 (gOf xs k).k) ∧ (flat xs)[k * 2 + 1]? = some (.int .i64 (gOf xs k).i)
  | [], k, h => by simp at h
  | x :: xs, 0, _ => by simp [flat_cons, gOf]
  | x :: xs, k + 1, h => by
    have := flat_key xs k (by simpa using h)
    have e1 : (k + 1) * 2 = k * 2 + 2 := by omega
    rw [flat_cons, e1]
    simpa [gOf] using this
theorem flat_take : ∀ (xs : List It) (k : Nat), (flat xs).take (k * 2) = flat (xs.take k)
  | [], k => by simp [flat]
  | x :: xs, 0 => by simp [flat]
  | x :: xs, k + 1 => by
    have e1 : (k + 1) * 2 = k * 2 + 2 := by omega
    rw [e1, List.take_succ_cons, flat_cons, flat_cons, ← flat_take xs k]
    simp
theorem flat_drop : ∀ (xs : List It) (k : Nat), (flat xs).drop (k * 2) = flat (xs.drop k)
  | [], k => by simp [flat]
  | x :: xs, 0 => by simp
  | x :: xs, k + 1 => by
    have e1 : (k + 1) * 2 = k * 2 + 2 := by omega
    rw [e1, List.drop_succ_cons, flat_cons, ← flat_drop xs k]
    simp
theorem flat_one (xs : List It) : ∀ u ∈ flat xs, u.oneCell' = true := by
  intro u hu
  simp only [flat, List.mem_flatMap] at hu
  obtain ⟨x, _, hx⟩ := hu
  simp only [It.cs, List.mem_cons, List.not_mem_nil, or_false] at hx
  rcases hx with rfl | rfl <;> rfl

/-! ### a map from ints to ints -/
theorem key_law : Keyed Try.prog 3 := Maps.int_keyed Try.underlying3
theorem key_int {a : Int} (h : i64ok a) : Go.keyOf Try.prog 3 (.int .i64 a) = some (.int .i64 a) := Maps.keyOf_int_mk Try.underlying3 h
theorem check_int (w : World) {a : Int} (h : i64ok a) (em : Bool) : (Instr.checkKey em 10000 3 (.int .i64 a)).run Try.prog w = .ok () w := key_law.check w em (key_int h)
theorem zero_int (w : World) : (zeroValue 3).run Try.prog w = .ok (.int .i64 0) w := by kernel_rfl

/-- Block b is a map that tells f. -/
def MapAt (w : World) (b : Nat) (f : Int → Option Int) : Prop :=
  ∃ es clock, w.heap[b]? = some (.map es clock) ∧ Stamped es clock ∧ (∀ e ∈ es.toList, ∃ k v, e.key = .int .i64 k ∧ i64ok k ∧ e.val = .int .i64 v ∧ f k = some v) ∧
    ∀ k v, f k = some v → ∃ e ∈ es.toList, e.key = .int .i64 k ∧ e.val = .int .i64 v

def upd (f : Int → Option Int) (k v : Int) : Int → Option Int := fun q => if q = k then some v else f q
def off (f : Int → Option Int) (k : Int) : Int → Option Int := fun q => if q = k then none else f q

section
variable {w : World} {b : Nat} {f : Int → Option Int}
theorem MapAt.keep {w' : World} (h : MapAt w b f) (hk : w'.heap[b]? = w.heap[b]?) : MapAt w' b f := by
  obtain ⟨es, clock, hb, r⟩ := h
  exact ⟨es, clock, hk.trans hb, r⟩
theorem MapAt.lt (h : MapAt w b f) : b < w.heap.size := by
  obtain ⟨es, clock, hb, r⟩ := h
  exact (Array.getElem?_eq_some_iff.1 hb).1
theorem MapAt.made (w : World) : MapAt (w.alloc (.map #[] 0)) w.heap.size (fun _ => none) :=
  ⟨#[], 0, (MapKept.heap_alloc w _).1, stamped_empty 0, by simp, by simp⟩
theorem keys_of {es : Array MapEntry} (h : ∀ e ∈ es.toList, ∃ k v, e.key = .int .i64 k ∧ i64ok k ∧ e.val = .int .i64 v ∧ f k = some v) : ∀ e ∈ es.toList, ∃ l, Go.keyOf Try.prog 3 e.key = some l := fun e he => by
  obtain ⟨k, v, h1, h2, _⟩ := h e he
  exact ⟨_, by rw [h1]; exact key_int h2⟩
theorem MapAt.look (h : MapAt w b f) {k : Int} (hk : i64ok k) (T : TypeId) (hT : Try.prog.underlying T = some (.map 3 3)) :
    (Instr.lookup T (.map (some b)) (.int .i64 k) true).run Try.prog w = .ok (.tuple #[.int .i64 ((f k).getD 0), .bool (f k).isSome]) w := by
  obtain ⟨es, clock, hb, hs, h1, h2⟩ := h
  rcases key_law.find w (key_int hk) es.toList (keys_of h1) with ⟨e1, e2⟩ | ⟨j, e0, e1, e2, e3⟩
  · have hf : f k = none := by
      rcases hf : f k with _ | v
      · rfl
      · obtain ⟨e, he, hek, _⟩ := h2 k v hf
        exact absurd hek (e2 e he)
    simp [Instr.lookup, run_underlying hT, MapKept.run_getObj_map hb, check_int w hk, e1, zero_int, Result.andThen, hf]
  · obtain ⟨k', v, h3, h4, h5, h6⟩ := h1 e0 (List.mem_of_getElem? e2)
    have : k' = k := by rw [e3] at h3; injection h3 with _ h3; exact h3.symm
    subst this
    simp [Instr.lookup, run_underlying hT, MapKept.run_getObj_map hb, check_int w hk, e1, h5, Result.andThen, h6]
theorem Stamped.entry {es : Array MapEntry} {clock : Nat} (h : Stamped es clock) {x y : MapEntry} (hx : x ∈ es.toList) (hy : y ∈ es.toList) (e : x.key = y.key) : x = y := by
  obtain ⟨i, hi, rfl⟩ := List.getElem_of_mem hx
  obtain ⟨j, hj, rfl⟩ := List.getElem_of_mem hy
  have hp := List.pairwise_iff_getElem.1 h.2.2
  rcases Nat.lt_trichotomy i j with h1 | h1 | h1
  · exact (hp i j (by simpa using hi) (by simpa using hj) h1 (by simpa using e)).elim
  · subst h1; rfl
  · exact (hp j i (by simpa using hj) (by simpa using hi) h1 (by simpa using e.symm)).elim
theorem mem_modify {es : Array MapEntry} {j : Nat} {e0 : MapEntry} (hj : es.toList[j]? = some e0) (g : MapEntry → MapEntry) (x : MapEntry) (hx : x ∈ (es.modify j g).toList) : x = g e0 ∨ ∃ i, i ≠ j ∧ es.toList[i]? = some x := by
  obtain ⟨i, hi⟩ := List.getElem?_of_mem hx
  rw [Array.toList_modify, modify_eq_set g _ _ _ hj, List.getElem?_set] at hi
  split at hi
  · split at hi
    · left; injection hi with hi; exact hi.symm
    · cases hi
  · exact .inr ⟨i, by omega, hi⟩
theorem mem_modify_mk {es : Array MapEntry} {j : Nat} {e0 : MapEntry} (hj : es.toList[j]? = some e0) (g : MapEntry → MapEntry) : g e0 ∈ (es.modify j g).toList ∧ ∀ i x, i ≠ j → es.toList[i]? = some x → x ∈ (es.modify j g).toList := by
  have hl : j < es.toList.length := (List.getElem?_eq_some_iff.1 hj).1
  rw [Array.toList_modify, modify_eq_set g _ _ _ hj]
  refine ⟨List.mem_of_getElem? (i := j) (by rw [List.getElem?_set, if_pos rfl, if_pos hl]), fun i x hne hi => List.mem_of_getElem? (i := i) (by rw [List.getElem?_set, if_neg (by omega)]; exact hi)⟩
/-- The entry at a key turned to v. -/
theorem told_modify {es : Array MapEntry} {clock : Nat} (hs : Stamped es clock) (h1 : ∀ e ∈ es.toList, ∃ k v, e.key = .int .i64 k ∧ i64ok k ∧ e.val = .int .i64 v ∧ f k = some v)
    (h2 : ∀ k v, f k = some v → ∃ e ∈ es.toList, e.key = .int .i64 k ∧ e.val = .int .i64 v) {j : Nat} {e0 : MapEntry} (hj : es.toList[j]? = some e0) {k : Int} (hk : i64ok k) (he : e0.key = .int .i64 k) (v : Int) (g : MapEntry → MapEntry)
    (hg : g e0 = ⟨.int .i64 k, .int .i64 v, e0.born⟩) :
    (∀ e ∈ (es.modify j g).toList, ∃ k' v', e.key = .int .i64 k' ∧ i64ok k' ∧ e.val = .int .i64 v' ∧ upd f k v k' = some v') ∧
    ∀ k' v', upd f k v k' = some v' → ∃ e ∈ (es.modify j g).toList, e.key = .int .i64 k' ∧ e.val = .int .i64 v' := by
  have m0 : e0 ∈ es.toList := List.mem_of_getElem? hj
  refine ⟨fun e he2 => ?_, fun k' v' hu => ?_⟩
  · rcases mem_modify hj g e he2 with rfl | ⟨i, hne, hi⟩
    · rw [hg]; exact ⟨k, v, rfl, hk, rfl, by simp [upd]⟩
    · have m1 : e ∈ es.toList := List.mem_of_getElem? hi
      obtain ⟨k', v', r1, r2, r3, r4⟩ := h1 e m1
      refine ⟨k', v', r1, r2, r3, ?_⟩
      unfold upd
      split
      · rename_i ek
        subst ek
        have ee := Stamped.entry hs m1 m0 (r1.trans he.symm)
        subst ee
        have hp := List.pairwise_iff_getElem.1 hs.2.2
        obtain ⟨hi1, hi2⟩ := List.getElem?_eq_some_iff.1 hi
        obtain ⟨hj1, hj2⟩ := List.getElem?_eq_some_iff.1 hj
        rcases Nat.lt_trichotomy i j with h3 | h3 | h3
        · exact (hp i j (by simpa using hi1) (by simpa using hj1) h3 (by simp only [List.getElem_map, hi2, hj2])).elim
        · exact absurd h3 hne
        · exact (hp j i (by simpa using hj1) (by simpa using hi1) h3 (by simp only [List.getElem_map, hi2, hj2])).elim
      · exact r4
  · obtain ⟨mk1, mk2⟩ := mem_modify_mk hj g
    unfold upd at hu
    split at hu
    · rename_i ek
      subst ek
      injection hu with hu
      subst hu
      exact ⟨_, mk1, by rw [hg], by rw [hg]⟩
    · rename_i ek
      obtain ⟨e, m1, r1, r2⟩ := h2 k' v' hu
      obtain ⟨i, hi⟩ := List.getElem?_of_mem m1
      refine ⟨e, mk2 i e (fun e5 => ?_) hi, r1, r2⟩
      subst e5
      rw [hj] at hi
      injection hi with hi
      subst hi
      rw [he] at r1
      injection r1 with _ r1
      exact ek r1.symm
theorem grown_setBlock (w : World) {es : Array MapEntry} {clock : Nat} (hb : w.heap[b]? = some (.map es clock)) (o : Obj) : w.grownBy (setBlock w b o) (some b) :=
  ⟨rfl, rfl, rfl, by simp [setBlock], fun i _ hi => heap_setBlock_other hb _ (fun e => hi (by rw [e]))⟩
/-- 'm[k] = v'. -/
theorem MapAt.put (h : MapAt w b f) {k : Int} (hk : i64ok k) (v : Int) (T : TypeId) (hT : Try.prog.underlying T = some (.map 3 3)) :
    ∃ w', (Instr.mapUpdate T (.map (some b)) (.int .i64 k) (.int .i64 v)).run Try.prog w = .ok () w' ∧ MapAt w' b (upd f k v) ∧ w.grownBy w' (some b) := by
  obtain ⟨es, clock, hb, hs, h1, h2⟩ := h
  rcases key_law.find w (key_int hk) es.toList (keys_of h1) with ⟨e1, e2⟩ | ⟨j, e0, e1, e2, e3⟩
  · refine ⟨setBlock w b (.map (es.push ⟨.int .i64 k, .int .i64 v, clock⟩) (clock + 1)), ?_, ⟨_, _, heap_setBlock_same hb _, stamped_push hs e2, ?_, ?_⟩, grown_setBlock w hb _⟩
    · simp [Instr.mapUpdate, run_underlying hT, MapKept.run_getObj_map hb, check_int w hk, e1, MapKept.run_setObj_map _ hb, Result.andThen, setBlock]
    · intro e he
      simp only [Array.toList_push, List.mem_append, List.mem_singleton] at he
      rcases he with he | rfl
      · obtain ⟨k', v', r1, r2, r3, r4⟩ := h1 e he
        refine ⟨k', v', r1, r2, r3, ?_⟩
        unfold upd
        rw [if_neg (fun e5 => e2 e he (by rw [r1, e5]))]
        exact r4
      · exact ⟨k, v, rfl, hk, rfl, by simp [upd]⟩
    · intro k' v' hu
      unfold upd at hu
      split at hu
      · rename_i ek
        subst ek
        injection hu with hu
        subst hu
        exact ⟨_, by simp; right; rfl, rfl, rfl⟩
      · obtain ⟨e, m1, r1, r2⟩ := h2 k' v' hu
        exact ⟨e, by simp [Array.toList_push]; left; simpa using m1, r1, r2⟩
  · have hj : es[j]? = some e0 := by simpa using e2
    obtain ⟨t1, t2⟩ := told_modify hs h1 h2 e2 hk e3 v (fun e' => { e' with key := .int .i64 k, val := .int .i64 v }) (by simp)
    refine ⟨setBlock w b (.map (es.modify j (fun e' => { e' with key := .int .i64 k, val := .int .i64 v })) clock), ?_, ⟨_, _, heap_setBlock_same hb _, stamped_modify hs j _ (fun _ _ => rfl) (fun e _ he => ?_), t1, t2⟩, grown_setBlock w hb _⟩
    · simp [Instr.mapUpdate, run_underlying hT, MapKept.run_getObj_map hb, check_int w hk, e1, hj, e3, key_law.stays w (key_int hk), MapKept.run_setObj_map _ hb, Result.andThen, setBlock]
    · rw [hj] at he; injection he with he; subst he; exact e3.symm
/-- 'm[k1], m[k2] = ..': the entry of a key that is there, then the store into it. -/
theorem MapAt.entry (h : MapAt w b f) {k v0 : Int} (hk : i64ok k) (hf : f k = some v0) (v : Int) (T : TypeId) (hT : Try.prog.underlying T = some (.map 3 3)) :
    ∃ st : Nat, (Instr.mapEntry T (.map (some b)) (.int .i64 k)).run Try.prog w = .ok (.tuple #[.int .i64 v0, .int .i64 (st : Int)]) w ∧
      ∃ w', (Instr.entryStore T (.map (some b)) (.int .i64 (st : Int)) (.int .i64 v)).run Try.prog w = .ok () w' ∧ MapAt w' b (upd f k v) ∧ w.grownBy w' (some b) := by
  obtain ⟨es, clock, hb, hs, h1, h2⟩ := h
  rcases key_law.find w (key_int hk) es.toList (keys_of h1) with ⟨e1, e2⟩ | ⟨j, e0, e1, e2, e3⟩
  · obtain ⟨e, he, hek, _⟩ := h2 k v0 hf
    exact absurd hek (e2 e he)
  · have hj : es[j]? = some e0 := by simpa using e2
    obtain ⟨k', v', r1, r2, r3, r4⟩ := h1 e0 (List.mem_of_getElem? e2)
    have ek : k' = k := by rw [e3] at r1; injection r1 with _ r1; exact r1.symm
    subst ek
    have ev : v' = v0 := by rw [hf] at r4; injection r4 with r4; exact r4.symm
    subst ev
    have hsame : es.modify j (fun e => { e with key := .int .i64 k' }) = es := by
      apply Array.ext'
      rw [Array.toList_modify, modify_eq_set _ _ _ _ e2]
      have : ({ e0 with key := .int .i64 k' } : MapEntry) = e0 := by rw [← e3]
      rw [this]
      exact WideElems.set_self _ _ _ e2
    have hset : ({ w with heap := w.heap.setIfInBounds b (.map es clock) } : World) = w := by
      have : w.heap.setIfInBounds b (.map es clock) = w.heap := by
        apply Array.ext_getElem?
        intro i
        rw [Array.getElem?_setIfInBounds]
        split
        · rename_i e
          subst e
          split
          · exact hb.symm
          · rename_i h9
            exact absurd (Array.getElem?_eq_some_iff.1 hb).1 h9
        · rfl
      rw [this]
    refine ⟨e0.born, ?_, ?_⟩
    · simp [Instr.mapEntry, run_underlying hT, MapKept.run_getObj_map hb, check_int w hk, e1, hj, e3, key_law.stays w (key_int hk), hsame, MapKept.run_setObj_map _ hb, Result.andThen, hset, r3, goInt]
    · have hidx : es.findIdx? (fun e => ((e.born : Nat) : Int) == ((e0.born : Nat) : Int)) = some j := by
        rw [WideElems.findIdx_arr]
        exact WideElems.findIdx_born hs.2.1 e2
      obtain ⟨t1, t2⟩ := told_modify hs h1 h2 e2 hk e3 v (fun e' => { e' with val := .int .i64 v }) (by simp [e3])
      refine ⟨setBlock w b (.map (es.modify j (fun e' => { e' with val := .int .i64 v })) clock), ?_, ⟨_, _, heap_setBlock_same hb _, stamped_modify hs j _ (fun _ _ => rfl) (fun _ _ _ => rfl), t1, t2⟩, grown_setBlock w hb _⟩
      simp [Instr.entryStore, MapKept.run_getObj_map hb, asInt, asIntOf, hidx, MapKept.run_setObj_map _ hb, Result.andThen, setBlock]
/-- 'delete(m, k)'. -/
theorem MapAt.del (h : MapAt w b f) {k : Int} (hk : i64ok k) (T ty : TypeId) (hT : Try.prog.underlying T = some (.map 3 3)) :
    ∃ w', (Builtin.delete_ #[T, 3] ty #[.map (some b), .int .i64 k]).run Try.prog w = .ok (.tuple #[]) w' ∧ MapAt w' b (off f k) ∧ w.grownBy w' (some b) := by
  obtain ⟨es, clock, hb, hs, h1, h2⟩ := h
  rcases key_law.find w (key_int hk) es.toList (keys_of h1) with ⟨e1, e2⟩ | ⟨j, e0, e1, e2, e3⟩
  · refine ⟨setBlock w b (.map es clock), ?_, ⟨es, clock, heap_setBlock_same hb _, hs, fun e he => ?_, fun k' v' hu => ?_⟩, grown_setBlock w hb _⟩
    · simp [Builtin.delete_, run_underlying hT, MapKept.run_getObj_map hb, check_int w hk, e1, MapKept.run_setObj_map _ hb, Result.andThen, setBlock]
    · obtain ⟨k', v', r1, r2, r3, r4⟩ := h1 e he
      refine ⟨k', v', r1, r2, r3, ?_⟩
      unfold off
      rw [if_neg (fun e5 => e2 e he (by rw [r1, e5]))]
      exact r4
    · unfold off at hu
      split at hu
      · cases hu
      · exact h2 k' v' hu
  · have hjl : j < es.toList.length := (List.getElem?_eq_some_iff.1 e2).1
    have hjs : j < es.size := by simpa using hjl
    have hsub : (es.eraseIdxIfInBounds j).toList = es.toList.eraseIdx j := by
      unfold Array.eraseIdxIfInBounds
      rw [dif_pos hjs]
      simp
    refine ⟨setBlock w b (.map (es.eraseIdxIfInBounds j) clock), ?_, ⟨_, _, heap_setBlock_same hb _, stamped_erase hs j, fun e he => ?_, fun k' v' hu => ?_⟩, grown_setBlock w hb _⟩
    · simp [Builtin.delete_, run_underlying hT, MapKept.run_getObj_map hb, check_int w hk, e1, MapKept.run_setObj_map _ hb, Result.andThen, setBlock]
    · rw [hsub] at he
      obtain ⟨i, hne, hi⟩ := List.mem_eraseIdx_iff_getElem?.1 he
      have m1 : e ∈ es.toList := List.mem_of_getElem? hi
      obtain ⟨k', v', r1, r2, r3, r4⟩ := h1 e m1
      refine ⟨k', v', r1, r2, r3, ?_⟩
      unfold off
      split
      · rename_i ek
        subst ek
        have hp := List.pairwise_iff_getElem.1 hs.2.2
        obtain ⟨hi1, hi2⟩ := List.getElem?_eq_some_iff.1 hi
        obtain ⟨hj1, hj2⟩ := List.getElem?_eq_some_iff.1 e2
        rcases Nat.lt_trichotomy i j with h3 | h3 | h3
        · exact (hp i j (by simpa using hi1) (by simpa using hj1) h3 (by simp only [List.getElem_map, hi2, hj2, r1, e3])).elim
        · exact absurd h3 hne
        · exact (hp j i (by simpa using hj1) (by simpa using hi1) h3 (by simp only [List.getElem_map, hi2, hj2, r1, e3])).elim
      · exact r4
    · unfold off at hu
      split at hu
      · cases hu
      · rename_i ek
        obtain ⟨e, m1, r1, r2⟩ := h2 k' v' hu
        obtain ⟨i, hi⟩ := List.getElem?_of_mem m1
        refine ⟨e, ?_, r1, r2⟩
        rw [hsub]
        refine List.mem_eraseIdx_iff_getElem?.2 ⟨i, fun e5 => ?_, hi⟩
        subst e5
        rw [e2] at hi
        injection hi with hi
        subst hi
        rw [e3] at r1
        injection r1 with _ r1
        exact ek r1.symm
end
end Go.Proofs.Ytaaolacfhdfagaa
