/-
  Plain lists, for the heap: items and their order, heaps as lists, what moving an item up or down leaves, lists that rise. No program, no world.
-/
import Derived.Test.YtaaolacfhdfagaaTagM
namespace Go.Proofs.Ytaaolacfhdfagaa
set_option maxRecDepth 100000
set_option linter.unusedVariables false

/-- An item: its key, its ID. -/
structure It where
  k : Int
  i : Int
deriving DecidableEq, Inhabited

def It.lt (x y : It) : Bool := aheadB x.k x.i y.k y.i
theorem It.lt_iff (x y : It) : x.lt y = true ↔ (x.k < y.k ∨ x.k = y.k ∧ x.i < y.i) := by simp [It.lt, aheadB]
theorem It.irrefl (x : It) : x.lt x = false := by
  rcases h : x.lt x with _ | _
  · rfl
  · rw [It.lt_iff] at h; omega
theorem It.trans {x y z : It} (h : x.lt y = true) (h2 : y.lt z = true) : x.lt z = true := by
  rw [It.lt_iff] at *; omega
theorem It.eq_of {x y : It} (h : x.lt y = false) (h2 : y.lt x = false) : x = y := by
  have a : ¬ (x.lt y = true) := by simp [h]
  have b : ¬ (y.lt x = true) := by simp [h2]
  rw [It.lt_iff] at a b
  obtain ⟨k, i⟩ := x
  obtain ⟨k', i'⟩ := y
  simp only [It.mk.injEq]
  simp only at a b
  omega
/-- No item ahead: x may stand ahead of y. -/
def It.le (x y : It) : Prop := y.lt x = false
theorem It.le_refl (x : It) : x.le x := It.irrefl x
theorem It.le_of_lt {x y : It} (h : x.lt y = true) : x.le y := by
  rcases h2 : y.lt x with _ | _
  · exact h2
  · have := It.trans h h2; rw [It.irrefl] at this; cases this
theorem It.le_trans {x y z : It} (h : x.le y) (h2 : y.le z) : x.le z := by
  have a : ¬ (y.lt x = true) := by simp [show y.lt x = false from h]
  have b : ¬ (z.lt y = true) := by simp [show z.lt y = false from h2]
  rcases h3 : z.lt x with _ | _
  · exact h3
  · rw [It.lt_iff] at *; omega
theorem It.lt_of_le_ne {x y : It} (h : x.le y) (hne : x ≠ y) : x.lt y = true := by
  rcases h2 : x.lt y with _ | _
  · exact absurd (It.eq_of h2 h) hne
  · rfl
theorem It.le_of_not {x y : It} (h : ¬ (y.lt x = true)) : x.le y := by simpa [It.le] using h

/-! ### heaps, as functions from places -/
/-- All is in order but what touches place i; what hangs below i may stand below what is above i. -/
def HInv (g : Nat → It) (n i : Nat) : Prop :=
  (∀ k, 0 < k → k < n → k ≠ i → (k - 1) / 2 ≠ i → (g ((k - 1) / 2)).le (g k)) ∧ ∀ c, 0 < c → c < n → (c - 1) / 2 = i → 0 < i → (g ((i - 1) / 2)).le (g c)
/-- What hangs below i stands rightly below it. -/
def HKids (g : Nat → It) (n i : Nat) : Prop := ∀ c, 0 < c → c < n → (c - 1) / 2 = i → (g i).le (g c)
/-- i stands rightly below what is above it. -/
def HUp (g : Nat → It) (i : Nat) : Prop := 0 < i → (g ((i - 1) / 2)).le (g i)
def IsHeap (g : Nat → It) (n : Nat) : Prop := ∀ k, 0 < k → k < n → (g ((k - 1) / 2)).le (g k)

theorem IsHeap.of {g : Nat → It} {n i : Nat} (h : HInv g n i) (hk : HKids g n i) (hu : HUp g i) : IsHeap g n := by
  intro k hk0 hkn
  by_cases e : k = i
  · subst e; exact hu hk0
  · by_cases e2 : (k - 1) / 2 = i
    · subst e2; exact hk k hk0 hkn rfl
    · exact h.1 k hk0 hkn e e2
/-- A heap, one place of which holds something else now. -/
theorem HInv.of_heap {g g' : Nat → It} {n i : Nat} (h : IsHeap g n) (hg : ∀ k, k < n → k ≠ i → g' k = g k) : HInv g' n i := by
  refine ⟨fun k hk0 hkn hki hpi => ?_, fun c hc0 hcn hci hi0 => ?_⟩
  · rw [hg k hkn hki, hg _ (by omega) hpi]; exact h k hk0 hkn
  · rw [hg c hcn (by omega), hg _ (by omega) (by omega)]
    have h1 := h c hc0 hcn
    rw [hci] at h1
    exact It.le_trans (h i hi0 (by omega)) h1
theorem IsHeap.mono {g : Nat → It} {n m : Nat} (h : IsHeap g n) (hm : m ≤ n) : IsHeap g m := fun k h0 hk => h k h0 (by omega)

def swf (g : Nat → It) (i j : Nat) : Nat → It := fun k => if k = j then g i else if k = i then g j else g k

theorem HInv.up {g : Nat → It} {n i : Nat} (h : HInv g n i) (hi : 0 < i) (hin : i < n) (hlt : (g i).lt (g ((i - 1) / 2)) = true) : HInv (swf g i ((i - 1) / 2)) n ((i - 1) / 2) := by
  have hp : (i - 1) / 2 < i := by omega
  refine ⟨fun k hk0 hkn hkp hpp => ?_, fun c hc0 hcn hcp hp0 => ?_⟩
  · have hki : k ≠ i := fun e => hpp (by rw [e])
    unfold swf
    rw [if_neg hkp, if_neg hki, if_neg hpp]
    by_cases e : (k - 1) / 2 = i
    · rw [if_pos e]; exact h.2 k hk0 hkn e hi
    · rw [if_neg e]; exact h.1 k hk0 hkn hki e
  · unfold swf
    rw [if_neg (by omega : ((i - 1) / 2 - 1) / 2 ≠ (i - 1) / 2), if_neg (by omega : ((i - 1) / 2 - 1) / 2 ≠ i), if_neg (by omega : c ≠ (i - 1) / 2)]
    have h1 := h.1 ((i - 1) / 2) hp0 (by omega) (by omega) (by omega)
    by_cases e : c = i
    · rw [if_pos e]; exact h1
    · rw [if_neg e]
      have h2 := h.1 c hc0 hcn e (by omega)
      rw [hcp] at h2
      exact It.le_trans h1 h2
theorem HKids.up {g : Nat → It} {n i : Nat} (h : HInv g n i) (hi : 0 < i) (hin : i < n) (hlt : (g i).lt (g ((i - 1) / 2)) = true) : HKids (swf g i ((i - 1) / 2)) n ((i - 1) / 2) := by
  intro c hc0 hcn hcp
  unfold swf
  rw [if_pos rfl, if_neg (by omega : c ≠ (i - 1) / 2)]
  by_cases e : c = i
  · rw [if_pos e]; exact It.le_of_lt hlt
  · rw [if_neg e]
    have h2 := h.1 c hc0 hcn e (by omega)
    rw [hcp] at h2
    exact It.le_trans (It.le_of_lt hlt) h2
/-- Down: c is the first of i's children, and ahead of i. -/
theorem HInv.down {g : Nat → It} {n i c : Nat} (h : HInv g n i) (hu : HUp g i) (hc0 : 0 < c) (hcn : c < n) (hci : (c - 1) / 2 = i) (hleast : ∀ d, 0 < d → d < n → (d - 1) / 2 = i → (g c).le (g d)) (hlt : (g c).lt (g i) = true) :
    HInv (swf g i c) n c ∧ HUp (swf g i c) c := by
  have hic : i < c := by omega
  refine ⟨⟨fun k hk0 hkn hkc hpc => ?_, fun d hd0 hdn hdc hcp => ?_⟩, fun _ => ?_⟩
  · unfold swf
    rw [if_neg hkc, if_neg hpc]
    by_cases e : k = i
    · subst e
      rw [if_pos rfl, if_neg (by omega)]
      exact h.2 c hc0 hcn hci hk0
    · rw [if_neg e]
      by_cases e2 : (k - 1) / 2 = i
      · rw [if_pos e2]; exact hleast k hk0 hkn e2
      · rw [if_neg e2]; exact h.1 k hk0 hkn e e2
  · unfold swf
    rw [hci, if_neg (by omega), if_pos rfl, if_neg (by omega), if_neg (by omega)]
    have := h.1 d hd0 hdn (by omega) (by omega)
    rw [hdc] at this
    exact this
  · unfold swf
    rw [hci, if_neg (by omega), if_pos rfl, if_pos rfl]
    exact It.le_of_lt hlt
theorem IsHeap.least {g : Nat → It} {n : Nat} (h : IsHeap g n) : ∀ k, k < n → (g 0).le (g k) := by
  intro k
  induction k using Nat.strongRecOn with
  | _ k ih =>
    intro hk
    by_cases e : k = 0
    · subst e; exact It.le_refl _
    · exact It.le_trans (ih ((k - 1) / 2) (by omega) (by omega)) (h k (by omega) hk)

/-! ### lists -/
def gOf (xs : List It) : Nat → It := fun k => xs.getD k default
theorem gOf_get {xs : List It} {k : Nat} (h : k < xs.length) : gOf xs k = xs[k] := by simp [gOf, h]
def swl (xs : List It) (i j : Nat) : List It := (xs.set i (gOf xs j)).set j (gOf xs i)
@[simp] theorem swl_length (xs : List It) (i j : Nat) : (swl xs i j).length = xs.length := by simp [swl]
theorem gOf_set (xs : List It) (i : Nat) (x : It) (hi : i < xs.length) (k : Nat) : gOf (xs.set i x) k = if k = i then x else gOf xs k := by
  unfold gOf
  by_cases e : k = i
  · subst e; simp [hi]
  · rw [if_neg e]
    simp only [List.getD_eq_getElem?_getD]
    rw [List.getElem?_set_ne (by omega)]
theorem gOf_swl (xs : List It) {i j : Nat} (hi : i < xs.length) (hj : j < xs.length) : gOf (swl xs i j) = swf (gOf xs) i j := by
  funext k
  unfold swl swf
  rw [gOf_set _ _ _ (by simpa using hj), gOf_set _ _ _ hi]
theorem swl_perm (xs : List It) {i j : Nat} (hi : i < xs.length) (hj : j < xs.length) : (swl xs i j).Perm xs := by
  have h := Array.swap_perm (xs := xs.toArray) (i := i) (j := j) (by simpa using hi) (by simpa using hj)
  have h2 := Array.perm_iff_toList_perm.1 h
  have e : (xs.toArray.swap i j (by simpa using hi) (by simpa using hj)).toList = swl xs i j := by
    rw [Array.toList_swap]
    simp [swl, gOf_get hi, gOf_get hj]
  rw [e] at h2
  simpa using h2

/-- Lists that rise: each is ahead of all behind it. -/
def Rises (l : List It) : Prop := l.Pairwise fun x y => x.lt y = true
theorem Rises.eq_of_perm : ∀ {l m : List It}, Rises l → Rises m → l.Perm m → l = m
  | [], m, _, _, h => (List.Perm.nil_eq h)
  | x :: l, [], _, _, h => absurd h.length_eq (by simp)
  | x :: l, y :: m, h1, h2, h => by
    have hx := List.pairwise_cons.1 h1
    have hy := List.pairwise_cons.1 h2
    have e : x = y := by
      have mx : x ∈ y :: m := h.subset (by simp)
      have my : y ∈ x :: l := h.symm.subset (by simp)
      rcases List.mem_cons.1 mx with e | mx
      · exact e
      · rcases List.mem_cons.1 my with e | my
        · exact e.symm
        · have := It.trans (hx.1 y my) (hy.1 x mx)
          rw [It.irrefl] at this; cases this
    subst e
    rw [Rises.eq_of_perm hx.2 hy.2 (List.Perm.cons_inv h)]
theorem Rises.head_least {l : List It} (h : Rises l) (x : It) (hx : x ∈ l) : (gOf l 0).le x := by
  cases l with
  | nil => cases hx
  | cons y l =>
    rcases List.mem_cons.1 hx with e | hx
    · subst e; exact It.le_refl _
    · exact It.le_of_lt ((List.pairwise_cons.1 h).1 x hx)
/-- A heap's first one is the first one of the list that rises. -/
theorem heap_first {xs l : List It} (h : IsHeap (gOf xs) xs.length) (hp : xs.Perm l) (hr : Rises l) (h0 : 0 < xs.length) : gOf xs 0 = gOf l 0 := by
  have hl : 0 < l.length := by rw [← hp.length_eq]; exact h0
  apply It.eq_of
  · have m : gOf xs 0 ∈ l := hp.subset (by rw [gOf_get h0]; exact List.getElem_mem h0)
    rcases h2 : (gOf xs 0).lt (gOf l 0) with _ | _
    · rfl
    · have := hr.head_least _ m
      rw [It.le, h2] at this; cases this
  · have m : gOf l 0 ∈ xs := hp.symm.subset (by rw [gOf_get hl]; exact List.getElem_mem hl)
    obtain ⟨k, hk, e⟩ := List.getElem_of_mem m
    have := h.least k hk
    rw [gOf_get hk, e] at this
    exact this

theorem takeWhile_all (p : It → Bool) : ∀ (l : List It) (x : It), x ∈ l.takeWhile p → p x = true
  | [], _, h => by simp at h
  | y :: l, x, h => by
    rw [List.takeWhile_cons] at h
    split at h
    · rename_i hp
      rcases List.mem_cons.1 h with e | h
      · subst e; exact hp
      · exact takeWhile_all p l x h
    · cases h
theorem dropWhile_head (p : It → Bool) : ∀ (l : List It) (z : It) (r : List It), l.dropWhile p = z :: r → p z = false
  | [], _, _, h => by simp at h
  | y :: l, z, r, h => by
    rw [List.dropWhile_cons] at h
    split at h
    · exact dropWhile_head p l z r h
    · rename_i hp
      injection h with e _
      subst e; simpa using hp
/-- An item put where it belongs. -/
def ins (y : It) (l : List It) : List It := l.takeWhile (fun x => x.lt y) ++ y :: l.dropWhile (fun x => x.lt y)
theorem ins_perm (y : It) (l : List It) : (ins y l).Perm (l ++ [y]) := by
  have e : l.takeWhile (fun x => x.lt y) ++ l.dropWhile (fun x => x.lt y) = l := List.takeWhile_append_dropWhile
  unfold ins
  refine (List.perm_middle).trans ?_
  rw [e]
  exact (List.perm_append_singleton y l).symm
theorem ins_rises {y : It} {l : List It} (h : Rises l) (hy : ∀ x ∈ l, x.i ≠ y.i) : Rises (ins y l) := by
  have e : l.takeWhile (fun x => x.lt y) ++ l.dropWhile (fun x => x.lt y) = l := List.takeWhile_append_dropWhile
  have h' := h
  rw [← e] at h'
  obtain ⟨p1, p2, p3⟩ := List.pairwise_append.1 h'
  have ha : ∀ x ∈ l.takeWhile (fun x => x.lt y), x.lt y = true := fun x hx => by
    exact takeWhile_all _ l x hx
  have hb : ∀ x ∈ l.dropWhile (fun x => x.lt y), y.lt x = true := fun x hx => by
    have hne : l.dropWhile (fun x => x.lt y) ≠ [] := List.ne_nil_of_mem hx
    obtain ⟨z, r, hz⟩ := List.exists_cons_of_ne_nil hne
    have hz0 : z.lt y = false := dropWhile_head (fun x : It => x.lt y) l z r hz
    have hzy : y.lt z = true := by
      refine It.lt_of_le_ne hz0 (fun e2 => hy z ?_ (by rw [e2]))
      exact (List.dropWhile_suffix _).subset (by rw [hz]; simp)
    rw [hz] at hx p2
    rcases List.mem_cons.1 hx with e3 | hx
    · subst e3; exact hzy
    · exact It.trans hzy ((List.pairwise_cons.1 p2).1 x hx)
  refine List.pairwise_append.2 ⟨p1, List.pairwise_cons.2 ⟨hb, p2⟩, fun a ha' b hb' => ?_⟩
  rcases List.mem_cons.1 hb' with e4 | hb'
  · subst e4; exact ha a ha'
  · exact p3 a ha' b hb'

/-- No ID twice. -/
def Ids (l : List It) : Prop := (l.map It.i).Nodup
theorem Ids.perm {l m : List It} (h : Ids l) (hp : l.Perm m) : Ids m := (hp.map It.i).nodup_iff.1 h
theorem Ids.eq {l : List It} (h : Ids l) {x y : It} (hx : x ∈ l) (hy : y ∈ l) (e : x.i = y.i) : x = y := by
  induction l with
  | nil => cases hx
  | cons z l ih =>
    have hn := List.nodup_cons.1 (show ((z :: l).map It.i).Nodup from h)
    rcases List.mem_cons.1 hx with e1 | hx'
    · rcases List.mem_cons.1 hy with e2 | hy'
      · rw [e1, e2]
      · exact absurd (List.mem_map.2 ⟨y, hy', by rw [← e, e1]⟩) hn.1
    · rcases List.mem_cons.1 hy with e2 | hy'
      · exact absurd (List.mem_map.2 ⟨x, hx', by rw [e, e2]⟩) hn.1
      · exact ih hn.2 hx' hy'
theorem Ids.place {l : List It} (h : Ids l) {a b : Nat} (ha : a < l.length) (hb : b < l.length) (e : (gOf l a).i = (gOf l b).i) : a = b := by
  rw [gOf_get ha, gOf_get hb] at e
  have hp := List.pairwise_iff_getElem.1 (show (l.map It.i).Nodup from h)
  rcases Nat.lt_trichotomy a b with h1 | h1 | h1
  · exact (hp a b (by simpa using ha) (by simpa using hb) h1 (by simpa using e)).elim
  · exact h1
  · exact (hp b a (by simpa using hb) (by simpa using ha) h1 (by simpa using e.symm)).elim
end Go.Proofs.Ytaaolacfhdfagaa
