/-
  Plain words for the queue, nothing of the program in them: lists of several shards laid together in one order; who is first of all; what an item pushed, popped, dropped does to it.
-/
import Derived.Test.YtajhkdbldbifeaaGreatDoorGmC
import Derived.Test.YtajhkdbldbifeaaGreatDoorGmM
namespace Go.Proofs.YtajhkdbldbifeaaGreatDoor
set_option maxRecDepth 100000
set_option linter.unusedVariables false
set_option linter.unusedSimpArgs false

/-- The lists of the first m shards, one behind the other. -/
def catL (L : Nat → List It) : Nat → List It
  | 0 => []
  | m + 1 => catL L m ++ L m
theorem mem_catL {L : Nat → List It} {x : It} : ∀ {m : Nat}, x ∈ catL L m ↔ ∃ i, i < m ∧ x ∈ L i
  | 0 => by simp [catL]
  | m + 1 => by
    rw [catL, List.mem_append, mem_catL]
    constructor
    · rintro (⟨i, h1, h2⟩ | h)
      · exact ⟨i, by omega, h2⟩
      · exact ⟨m, by omega, h⟩
    · rintro ⟨i, h1, h2⟩
      by_cases e : i = m
      · subst e; exact .inr h2
      · exact .inl ⟨i, by omega, h2⟩
theorem catL_congr {L M : Nat → List It} : ∀ {m : Nat}, (∀ i, i < m → L i = M i) → catL L m = catL M m
  | 0, _ => rfl
  | m + 1, h => by rw [catL, catL, catL_congr (fun i hi => h i (by omega)), h m (by omega)]
theorem catL_fup_out {L : Nat → List It} {i m : Nat} (l : List It) (h : m ≤ i) : catL (fup L i l) m = catL L m := catL_congr fun k hk => fup_other _ _ (by omega)
/-- One shard's list told anew: an item more. -/
theorem catL_more {L : Nat → List It} {i : Nat} {x : It} {l : List It} (hp : (L i).Perm (x :: l)) : ∀ {m : Nat}, i < m → (catL L m).Perm (x :: catL (fup L i l) m)
  | 0, h => by omega
  | m + 1, h => by
    rw [catL, catL]
    by_cases e : i = m
    · subst e
      rw [catL_fup_out _ (Nat.le_refl _), fup_same]
      exact (List.Perm.append_left _ hp).trans (List.perm_middle)
    · rw [fup_other _ _ (by omega : m ≠ i)]
      exact (List.Perm.append_right _ (catL_more hp (by omega : i < m)))
theorem fup_id {α : Type} (f : Nat → α) (i : Nat) : fup f i (f i) = f := by funext k; unfold fup; split <;> simp_all
theorem fup_twice {α : Type} (f : Nat → α) (i : Nat) (a b : α) : fup (fup f i a) i b = fup f i b := by funext k; unfold fup; split <;> rfl

/-- What the shards of a queue may hold: lists in order, an ID once, each at home. -/
structure Homes (n : Nat) (L : Nat → List It) : Prop where
  rises : ∀ i, i < n → Rises (L i)
  ids : ∀ i, i < n → Ids (L i)
  home : ∀ i, i < n → ∀ x ∈ L i, 0 ≤ x.i ∧ x.i % (n : Int) = (i : Int)
theorem Homes.fup {n : Nat} {L : Nat → List It} (h : Homes n L) {i : Nat} {l : List It} (hr : Rises l) (hi : Ids l) (hh : ∀ x ∈ l, 0 ≤ x.i ∧ x.i % (n : Int) = (i : Int)) : Homes n (fup L i l) := by
  refine ⟨fun k hk => ?_, fun k hk => ?_, fun k hk => ?_⟩
  all_goals by_cases e : k = i
  · subst e; rw [fup_same]; exact hr
  · rw [fup_other _ _ e]; exact h.rises k hk
  · subst e; rw [fup_same]; exact hi
  · rw [fup_other _ _ e]; exact h.ids k hk
  · subst e; rw [fup_same]; exact hh
  · rw [fup_other _ _ e]; exact h.home k hk
theorem Homes.sub {n : Nat} {L : Nat → List It} (h : Homes n L) {i : Nat} (hi : i < n) {l : List It} (hl : l.Sublist (L i)) : Homes n (Go.Proofs.YtajhkdbldbifeaaGreatDoor.fup L i l) :=
  h.fup (List.Pairwise.sublist hl (h.rises i hi)) ((h.ids i hi).sub hl) fun x hx => h.home i hi x (hl.subset hx)
theorem Homes.empty (n : Nat) : Homes n (fun _ => []) := ⟨fun _ _ => List.Pairwise.nil, fun _ _ => by simp [Ids], fun _ _ x hx => by simp at hx⟩
theorem Homes.idsTo {n : Nat} {L : Nat → List It} (h : Homes n L) : ∀ {m : Nat}, m ≤ n → Ids (catL L m)
  | 0, _ => by simp [Ids, catL]
  | m + 1, hm => by
    have h1 := h.idsTo (m := m) (by omega)
    have h2 := h.ids m (by omega)
    unfold Ids at *
    rw [catL, List.map_append, List.nodup_append]
    refine ⟨h1, h2, fun a ha b hb e => ?_⟩
    obtain ⟨x, hx, rfl⟩ := List.mem_map.1 ha
    obtain ⟨y, hy, rfl⟩ := List.mem_map.1 hb
    obtain ⟨i, hi, hxi⟩ := mem_catL.1 hx
    have a1 := (h.home i (by omega) x hxi).2
    have a2 := (h.home m (by omega) y hy).2
    rw [e, a2] at a1
    omega
theorem Homes.idsAll {n : Nat} {L : Nat → List It} (h : Homes n L) : Ids (catL L n) := h.idsTo (Nat.le_refl n)

/-- Items pushed one behind the other. -/
def insAll (a : List It) : List It → List It
  | [] => a
  | x :: l => insAll (ins x a) l
theorem insAll_app : ∀ (a l m : List It), insAll a (l ++ m) = insAll (insAll a l) m
  | a, [], m => rfl
  | a, x :: l, m => insAll_app (ins x a) l m
theorem insAll_perm : ∀ (a l : List It), (insAll a l).Perm (a ++ l)
  | a, [] => by simp [insAll]
  | a, x :: l => (insAll_perm (ins x a) l).trans (((ins_perm x a).append_right l).trans (by simp))
theorem insAll_rises : ∀ {a l : List It}, Rises a → Ids (a ++ l) → Rises (insAll a l)
  | a, [], h, _ => h
  | a, x :: l, h, hi => by
    have hi2 : Ids (ins x a ++ l) := hi.perm ((List.Perm.trans (by simp) ((ins_perm x a).symm.append_right l)))
    refine insAll_rises (a := ins x a) (ins_rises h fun y hy e => ?_) hi2
    unfold Ids at hi
    rw [List.map_append, List.nodup_append] at hi
    exact hi.2.2 y.i (List.mem_map.2 ⟨y, hy, rfl⟩) x.i (by simp) e
/-- All items of n shards, in order. -/
def mergeM (L : Nat → List It) (n : Nat) : List It := insAll [] (catL L n)
theorem merge_perm (L : Nat → List It) (n : Nat) : (mergeM L n).Perm (catL L n) := insAll_perm [] _
theorem merge_len (L : Nat → List It) (n : Nat) : (mergeM L n).length = (catL L n).length := (merge_perm L n).length_eq
theorem mem_merge {L : Nat → List It} {n : Nat} {x : It} : x ∈ mergeM L n ↔ ∃ i, i < n ∧ x ∈ L i := by rw [(merge_perm L n).mem_iff, mem_catL]
theorem Homes.merged {n : Nat} {L : Nat → List It} (h : Homes n L) : Rises (mergeM L n) := insAll_rises List.Pairwise.nil (by simpa using h.idsAll)
theorem Homes.mergedIds {n : Nat} {L : Nat → List It} (h : Homes n L) : Ids (mergeM L n) := h.idsAll.perm (merge_perm L n).symm
theorem Homes.merge_eq {n : Nat} {L : Nat → List It} (h : Homes n L) {m : List It} (hr : Rises m) (hp : m.Perm (catL L n)) : mergeM L n = m :=
  Rises.eq_of_perm h.merged hr ((merge_perm L n).trans hp.symm)
theorem merge_congr {L M : Nat → List It} {n : Nat} (h : ∀ i, i < n → L i = M i) : mergeM L n = mergeM M n := by unfold mergeM; rw [catL_congr h]

/-! ### the first of all -/
/-- Which shards have items; the first one of each. -/
def hasL (L : Nat → List It) : Nat → Bool := fun i => !(L i).isEmpty
def firL (L : Nat → List It) : Nat → It := fun i => first (L i)
theorem hasL_fup (L : Nat → List It) (i : Nat) (l : List It) : hasL (fup L i l) = fup (hasL L) i (!l.isEmpty) := by funext k; unfold hasL fup; split <;> rfl
theorem firL_fup (L : Nat → List It) (i : Nat) (l : List It) : firL (fup L i l) = fup (firL L) i (first l) := by funext k; unfold firL fup; split <;> rfl
/-- The shard whose first item is the first of all; -1. -/
def bestL (L : Nat → List It) (n : Nat) : Int := refBest (hasL L) (firL L) n
theorem bestL_range (L : Nat → List It) (n : Nat) : bestL L n = -1 ∨ ∃ i : Nat, i < n ∧ L i ≠ [] ∧ bestL L n = i := by
  rcases refBest_range (hasL L) (firL L) n with h | ⟨i, h1, h2, h3⟩
  · exact .inl h
  · exact .inr ⟨i, h1, by simpa [hasL] using h2, h3⟩
theorem merge_none {L : Nat → List It} {n : Nat} (h : bestL L n = -1) : mergeM L n = [] := by
  rcases refBest_wins (hasL L) (firL L) n with ⟨_, h2⟩ | ⟨i, h1, _⟩
  · rw [← List.isEmpty_iff, List.isEmpty_iff]
    apply List.eq_nil_iff_forall_not_mem.2
    intro x hx
    obtain ⟨i, hi, hxi⟩ := mem_merge.1 hx
    exact h2 i ⟨hi, by simp [hasL, List.ne_nil_of_mem hxi]⟩
  · unfold bestL at h; omega
theorem first_cons {l : List It} (h : l ≠ []) : l = first l :: l.tail := by cases l with | nil => exact absurd rfl h | cons x t => rfl
theorem Homes.merge_first {n : Nat} {L : Nat → List It} (h : Homes n L) {i : Nat} (hb : bestL L n = i) : i < n ∧ L i ≠ [] ∧ mergeM L n = first (L i) :: mergeM (Go.Proofs.YtajhkdbldbifeaaGreatDoor.fup L i (L i).tail) n := by
  rcases refBest_wins (hasL L) (firL L) n with ⟨h1, h2⟩ | ⟨i', h1, ⟨h2, h3⟩, h4⟩
  · unfold bestL at hb; omega
  · have e : i' = i := by unfold bestL at hb; omega
    subst e
    have hne : L i' ≠ [] := by simpa [hasL] using h3
    refine ⟨h2, hne, ?_⟩
    have hc := first_cons hne
    have h' : Homes n (Go.Proofs.YtajhkdbldbifeaaGreatDoor.fup L i' (L i').tail) := h.sub h2 (List.tail_sublist _)
    have hf : first (L i') ∈ L i' := by rw [hc]; exact List.mem_cons_self
    have hri := h.rises i' h2
    refine h.merge_eq (List.pairwise_cons.2 ⟨fun x hx => ?_, h'.merged⟩) ?_
    · obtain ⟨j, hj, hxj⟩ := mem_merge.1 hx
      by_cases e : j = i'
      · subst e
        rw [fup_same] at hxj
        rw [hc] at hri
        exact (List.pairwise_cons.1 hri).1 x hxj
      · rw [fup_other _ _ e] at hxj
        have hnj : L j ≠ [] := List.ne_nil_of_mem hxj
        have l1 : (first (L i')).le (first (L j)) := (h4 j ⟨hj, by simp [hasL, hnj]⟩).1
        have l2 : (first (L j)).le x := by
          have hcj := first_cons hnj
          have hrj := h.rises j hj
          rw [hcj] at hrj hxj
          rcases List.mem_cons.1 hxj with rfl | h9
          · exact It.le_refl _
          · exact It.le_of_lt ((List.pairwise_cons.1 hrj).1 x h9)
        refine It.lt_of_le_ne (It.le_trans l1 l2) fun e2 => ?_
        have a1 := (h.home i' h2 _ hf).2
        have a2 := (h.home j hj _ hxj).2
        rw [e2, a2] at a1
        omega
    · exact ((merge_perm _ n).cons _).trans (catL_more (by rw [← hc]) h2).symm

/-! ### one shard turned: what all of them are then -/
theorem drop_perm {m : List It} (hm : Ids m) {x : It} {id : Int} (hx : x ∈ m) (hxi : x.i = id) : m.Perm (x :: dropId id m) := by
  obtain ⟨y, l1, l2, hn, hp, e1, e2⟩ := List.exists_of_eraseP (p := fun y : It => y.i == id) hx (by simp [hxi])
  have e : y = x := hm.eq (by rw [e1]; simp) hx (by rw [hxi]; simpa using hp)
  have e3 : dropId id m = l1 ++ l2 := e2
  rw [e3]
  refine (List.Perm.of_eq e1).trans ?_
  rw [e]
  exact List.perm_middle
section
variable {n : Nat} {L : Nat → List It}
theorem catL_ins {i : Nat} {x : It} (hi : i < n) : (catL (Go.Proofs.YtajhkdbldbifeaaGreatDoor.fup L i (ins x (L i))) n).Perm (x :: catL L n) := by
  have h := catL_more (L := Go.Proofs.YtajhkdbldbifeaaGreatDoor.fup L i (ins x (L i))) (i := i) (x := x) (l := L i) (by rw [fup_same]; exact (ins_perm x (L i)).trans (List.perm_append_comm)) hi
  rw [fup_twice, fup_id] at h
  exact h
theorem Homes.ins (h : Homes n L) {i : Nat} {x : It} (hi : i < n) (hx : 0 ≤ x.i ∧ x.i % (n : Int) = (i : Int)) (hno : hasId x.i (L i) = false) : Homes n (Go.Proofs.YtajhkdbldbifeaaGreatDoor.fup L i (Go.Proofs.YtajhkdbldbifeaaGreatDoor.ins x (L i))) := by
  have hn := (hasId_not _ _).1 hno
  have hp := ins_perm x (L i)
  refine h.fup (ins_rises (h.rises i hi) hn) ?_ fun y hy => ?_
  · have : Ids (L i ++ [x]) := by
      have hi' := h.ids i hi
      unfold Ids at hi' ⊢
      rw [List.map_append, List.nodup_append]
      refine ⟨hi', by simp, fun a ha b hb e => ?_⟩
      simp at hb
      obtain ⟨y, hy, rfl⟩ := List.mem_map.1 ha
      exact hn y hy (e.trans hb)
    exact this.perm hp.symm
  · have := hp.subset hy
    rcases List.mem_append.1 this with h1 | h1
    · exact h.home i hi y h1
    · have e : y = x := by simpa using h1
      rw [e]; exact hx
theorem Homes.drop (h : Homes n L) {i : Nat} (hi : i < n) (id : Int) : Homes n (Go.Proofs.YtajhkdbldbifeaaGreatDoor.fup L i (dropId id (L i))) := h.sub hi List.eraseP_sublist
/-- An ID is there just if it is there at home. -/
theorem Homes.has (h : Homes n L) {i : Nat} {id : Int} (hi : i < n) (hid : id % (n : Int) = (i : Int)) : hasId id (mergeM L n) = hasId id (L i) := by
  rw [Bool.eq_iff_iff, hasId_iff, hasId_iff]
  constructor
  · rintro ⟨x, hx, rfl⟩
    obtain ⟨j, hj, hxj⟩ := mem_merge.1 hx
    have a := (h.home j hj x hxj).2
    rw [hid] at a
    have e : i = j := by omega
    subst e
    exact ⟨x, hxj, rfl⟩
  · rintro ⟨x, hx, rfl⟩
    exact ⟨x, mem_merge.2 ⟨i, hi, hx⟩, rfl⟩
theorem Homes.merge_ins (h : Homes n L) {i : Nat} {x : It} (hi : i < n) (hx : 0 ≤ x.i ∧ x.i % (n : Int) = (i : Int)) (hno : hasId x.i (L i) = false) : mergeM (Go.Proofs.YtajhkdbldbifeaaGreatDoor.fup L i (Go.Proofs.YtajhkdbldbifeaaGreatDoor.ins x (L i))) n = Go.Proofs.YtajhkdbldbifeaaGreatDoor.ins x (mergeM L n) := by
  have hn : ∀ y ∈ mergeM L n, y.i ≠ x.i := (hasId_not _ _).1 (by rw [h.has hi hx.2]; exact hno)
  refine (h.ins hi hx hno).merge_eq (ins_rises h.merged hn) ?_
  exact (ins_perm x _).trans ((List.perm_append_comm).trans (((merge_perm L n).cons x).trans (catL_ins hi).symm))
theorem Homes.merge_drop (h : Homes n L) {i : Nat} {id : Int} (hi : i < n) (hid : id % (n : Int) = (i : Int)) : mergeM (Go.Proofs.YtajhkdbldbifeaaGreatDoor.fup L i (dropId id (L i))) n = dropId id (mergeM L n) ∧ findId id (mergeM L n) = findId id (L i) := by
  rcases hf : findId id (L i) with _ | x
  · have hno : hasId id (L i) = false := by
      rw [hasId_not]
      intro y hy e
      have := List.find?_eq_none.1 hf y hy
      simp [e] at this
    obtain ⟨e1, e2⟩ := dropId_none hno
    obtain ⟨e3, e4⟩ := dropId_none (l := mergeM L n) (id := id) (by rw [h.has hi hid]; exact hno)
    rw [e1, fup_id, e3, e4]
    exact ⟨rfl, rfl⟩
  · obtain ⟨hx, hxi⟩ := (find_iff (h.ids i hi) id x).1 hf
    have hxm : x ∈ mergeM L n := mem_merge.2 ⟨i, hi, hx⟩
    refine ⟨(h.drop hi id).merge_eq (dropId_rises h.merged id) ?_, (find_iff h.mergedIds id x).2 ⟨hxm, hxi⟩⟩
    have p1 := drop_perm (h.ids i hi) hx hxi
    have p2 := drop_perm h.mergedIds hxm hxi
    have p3 := catL_more (L := L) (i := i) p1 hi
    exact (List.perm_cons x).1 (p2.symm.trans ((merge_perm L n).trans p3))
end
end Go.Proofs.YtajhkdbldbifeaaGreatDoor
