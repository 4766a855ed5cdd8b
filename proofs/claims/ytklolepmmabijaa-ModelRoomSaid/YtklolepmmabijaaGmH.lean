/-
  Plain lists, for the heap: items and their order, heaps as lists, what moving an item up or down leaves, lists that rise. No program, no world.
  Words for the world, for the heap: what may have turned ('Only'), a row of items, a map from ints to ints as the function that it tells.
  append onto a row of items, whatever the source (nil, empty, a part of another row): as a run, as a step of a plain region, as a step of a region that draws.
  A map from ints to uint64s as the function that it tells.
  Ahead; where an ID stands; what moved; boxes; the item with an ID.
-/
import Derived.Test.YtklolepmmabijaaGmT
import Derived.Test.YtklolepmmabijaaChecked
import Derived.WalkKit
import Derived.Below
import Derived.Lib.Hide
import Derived.Maps.Keyed
import Derived.Maps.AppendAt
import Derived.WideKeyEntry
import Derived.Deep.AppendLies
import Derived.Deep.Draws
import Derived.OwnWalk
import Derived.Deep.RegionLaw
import Derived.BigRegion
import Derived.BigQuiet
import Derived.StillTailTactics
import Derived.Deep.QuietTactic
import Derived.Laws.ResultCell
import Derived.Deep.LoopGhost
namespace Go.Proofs.Ytklolepmmabijaa
set_option maxRecDepth 100000
set_option linter.unusedVariables false

/-- An item: its key, its ID. -/
structure It where
  k : Int
  i : Int
deriving DecidableEq, Inhabited

def It.lt (x y : It) : Bool := aheadB x.k x.i y.k y.i
theorem It.lt_iff (x y : It) : x.lt y = true ↔ (x.k < y.k ∨ x.k = y.k ∧ x.i < y.i) := by simp [It.lt, aheadB]
theorem It.irrefl (x : It) : x.lt x = false := by
  rcases h : x.lt x with _ | _
  · rfl
  · rw [It.lt_iff] at h; omega
theorem It.trans {x y z : It} (h : x.lt y = true) (h2 : y.lt z = true) : x.lt z = true := by
  rw [It.lt_iff] at *; omega
theorem It.eq_of {x y : It} (h : x.lt y = false) (h2 : y.lt x = false) : x = y := by
  have a : ¬ (x.lt y = true) := by simp [h]
  have b : ¬ (y.lt x = true) := by simp [h2]
  rw [It.lt_iff] at a b
  obtain ⟨k, i⟩ := x
  obtain ⟨k', i'⟩ := y
  simp only [It.mk.injEq]
  simp only at a b
  omega
/-- No item ahead: x may stand ahead of y. -/
def It.le (x y : It) : Prop := y.lt x = false
theorem It.le_refl (x : It) : x.le x := It.irrefl x
theorem It.le_of_lt {x y : It} (h : x.lt y = true) : x.le y := by
  rcases h2 : y.lt x with _ | _
  · exact h2
  · have := It.trans h h2; rw [It.irrefl] at this; cases this
theorem It.le_trans {x y z : It} (h : x.le y) (h2 : y.le z) : x.le z := by
  have a : ¬ (y.lt x = true) := by simp [show y.lt x = false from h]
  have b : ¬ (z.lt y = true) := by simp [show z.lt y = false from h2]
  rcases h3 : z.lt x with _ | _
  · exact h3
  · rw [It.lt_iff] at *; omega
theorem It.lt_of_le_ne {x y : It} (h : x.le y) (hne : x ≠ y) : x.lt y = true := by
  rcases h2 : x.lt y with _ | _
  · exact absurd (It.eq_of h2 h) hne
  · rfl
theorem It.le_of_not {x y : It} (h : ¬ (y.lt x = true)) : x.le y := by simpa [It.le] using h

/-! ### heaps, as functions from places -/
/-- All is in order but what touches place i; what hangs below i may stand below what is above i. -/
def HInv (g : Nat → It) (n i : Nat) : Prop :=
  (∀ k, 0 < k → k < n → k ≠ i → (k - 1) / 2 ≠ i → (g ((k - 1) / 2)).le (g k)) ∧ ∀ c, 0 < c → c < n → (c - 1) / 2 = i → 0 < i → (g ((i - 1) / 2)).le (g c)
/-- What hangs below i stands rightly below it. -/
def HKids (g : Nat → It) (n i : Nat) : Prop := ∀ c, 0 < c → c < n → (c - 1) / 2 = i → (g i).le (g c)
/-- i stands rightly below what is above it. -/
def HUp (g : Nat → It) (i : Nat) : Prop := 0 < i → (g ((i - 1) / 2)).le (g i)
def IsHeap (g : Nat → It) (n : Nat) : Prop := ∀ k, 0 < k → k < n → (g ((k - 1) / 2)).le (g k)

theorem IsHeap.of {g : Nat → It} {n i : Nat} (h : HInv g n i) (hk : HKids g n i) (hu : HUp g i) : IsHeap g n := by
  intro k hk0 hkn
  by_cases e : k = i
  · subst e; exact hu hk0
  · by_cases e2 : (k - 1) / 2 = i
    · subst e2; exact hk k hk0 hkn rfl
    · exact h.1 k hk0 hkn e e2
/-- A heap, one place of which holds something else now. -/
theorem HInv.of_heap {g g' : Nat → It} {n i : Nat} (h : IsHeap g n) (hg : ∀ k, k < n → k ≠ i → g' k = g k) : HInv g' n i := by
  refine ⟨fun k hk0 hkn hki hpi => ?_, fun c hc0 hcn hci hi0 => ?_⟩
  · rw [hg k hkn hki, hg _ (by omega) hpi]; exact h k hk0 hkn
  · rw [hg c hcn (by omega), hg _ (by omega) (by omega)]
    have h1 := h c hc0 hcn
    rw [hci] at h1
    exact It.le_trans (h i hi0 (by omega)) h1
theorem IsHeap.mono {g : Nat → It} {n m : Nat} (h : IsHeap g n) (hm : m ≤ n) : IsHeap g m := fun k h0 hk => h k h0 (by omega)

def swf (g : Nat → It) (i j : Nat) : Nat → It := fun k => if k = j then g i else if k = i then g j else g k

theorem HInv.up {g : Nat → It} {n i : Nat} (h : HInv g n i) (hi : 0 < i) (hin : i < n) (hlt : (g i).lt (g ((i - 1) / 2)) = true) : HInv (swf g i ((i - 1) / 2)) n ((i - 1) / 2) := by
  have hp : (i - 1) / 2 < i := by omega
  refine ⟨fun k hk0 hkn hkp hpp => ?_, fun c hc0 hcn hcp hp0 => ?_⟩
  · have hki : k ≠ i := fun e => hpp (by rw [e])
    unfold swf
    rw [if_neg hkp, if_neg hki, if_neg hpp]
    by_cases e : (k - 1) / 2 = i
    · rw [if_pos e]; exact h.2 k hk0 hkn e hi
    · rw [if_neg e]; exact h.1 k hk0 hkn hki e
  · unfold swf
    rw [if_neg (by omega : ((i - 1) / 2 - 1) / 2 ≠ (i - 1) / 2), if_neg (by omega : ((i - 1) / 2 - 1) / 2 ≠ i), if_neg (by omega : c ≠ (i - 1) / 2)]
    have h1 := h.1 ((i - 1) / 2) hp0 (by omega) (by omega) (by omega)
    by_cases e : c = i
    · rw [if_pos e]; exact h1
    · rw [if_neg e]
      have h2 := h.1 c hc0 hcn e (by omega)
      rw [hcp] at h2
      exact It.le_trans h1 h2
theorem HKids.up {g : Nat → It} {n i : Nat} (h : HInv g n i) (hi : 0 < i) (hin : i < n) (hlt : (g i).lt (g ((i - 1) / 2)) = true) : HKids (swf g i ((i - 1) / 2)) n ((i - 1) / 2) := by
  intro c hc0 hcn hcp
  unfold swf
  rw [if_pos rfl, if_neg (by omega : c ≠ (i - 1) / 2)]
  by_cases e : c = i
  · rw [if_pos e]; exact It.le_of_lt hlt
  · rw [if_neg e]
    have h2 := h.1 c hc0 hcn e (by omega)
    rw [hcp] at h2
    exact It.le_trans (It.le_of_lt hlt) h2
/-- Down: c is the first of i's children, and ahead of i. -/
theorem HInv.down {g : Nat → It} {n i c : Nat} (h : HInv g n i) (hu : HUp g i) (hc0 : 0 < c) (hcn : c < n) (hci : (c - 1) / 2 = i) (hleast : ∀ d, 0 < d → d < n → (d - 1) / 2 = i → (g c).le (g d)) (hlt : (g c).lt (g i) = true) :
    HInv (swf g i c) n c ∧ HUp (swf g i c) c := by
  have hic : i < c := by omega
  refine ⟨⟨fun k hk0 hkn hkc hpc => ?_, fun d hd0 hdn hdc hcp => ?_⟩, fun _ => ?_⟩
  · unfold swf
    rw [if_neg hkc, if_neg hpc]
    by_cases e : k = i
    · subst e
      rw [if_pos rfl, if_neg (by omega)]
      exact h.2 c hc0 hcn hci hk0
    · rw [if_neg e]
      by_cases e2 : (k - 1) / 2 = i
      · rw [if_pos e2]; exact hleast k hk0 hkn e2
      · rw [if_neg e2]; exact h.1 k hk0 hkn e e2
  · unfold swf
    rw [hci, if_neg (by omega), if_pos rfl, if_neg (by omega), if_neg (by omega)]
    have := h.1 d hd0 hdn (by omega) (by omega)
    rw [hdc] at this
    exact this
  · unfold swf
    rw [hci, if_neg (by omega), if_pos rfl, if_pos rfl]
    exact It.le_of_lt hlt
theorem IsHeap.least {g : Nat → It} {n : Nat} (h : IsHeap g n) : ∀ k, k < n → (g 0).le (g k) := by
  intro k
  induction k using Nat.strongRecOn with
  | _ k ih =>
    intro hk
    by_cases e : k = 0
    · subst e; exact It.le_refl _
    · exact It.le_trans (ih ((k - 1) / 2) (by omega) (by omega)) (h k (by omega) hk)

/-! ### lists -/
def gOf (xs : List It) : Nat → It := fun k => xs.getD k default
theorem gOf_get {xs : List It} {k : Nat} (h : k < xs.length) : gOf xs k = xs[k] := by simp [gOf, h]
def swl (xs : List It) (i j : Nat) : List It := (xs.set i (gOf xs j)).set j (gOf xs i)
@[simp] theorem swl_length (xs : List It) (i j : Nat) : (swl xs i j).length = xs.length := by simp [swl]
theorem gOf_set (xs : List It) (i : Nat) (x : It) (hi : i < xs.length) (k : Nat) : gOf (xs.set i x) k = if k = i then x else gOf xs k := by
  unfold gOf
  by_cases e : k = i
  · subst e; simp [hi]
  · rw [if_neg e]
    simp only [List.getD_eq_getElem?_getD]
    rw [List.getElem?_set_ne (by omega)]
theorem gOf_swl (xs : List It) {i j : Nat} (hi : i < xs.length) (hj : j < xs.length) : gOf (swl xs i j) = swf (gOf xs) i j := by
  funext k
  unfold swl swf
  rw [gOf_set _ _ _ (by simpa using hj), gOf_set _ _ _ hi]
theorem swl_perm (xs : List It) {i j : Nat} (hi : i < xs.length) (hj : j < xs.length) : (swl xs i j).Perm xs := by
  have h := Array.swap_perm (xs := xs.toArray) (i := i) (j := j) (by simpa using hi) (by simpa using hj)
  have h2 := Array.perm_iff_toList_perm.1 h
  have e : (xs.toArray.swap i j (by simpa using hi) (by simpa using hj)).toList = swl xs i j := by
    rw [Array.toList_swap]
    simp [swl, gOf_get hi, gOf_get hj]
  rw [e] at h2
  simpa using h2

/-- Lists that rise: each is ahead of all behind it. -/
def Rises (l : List It) : Prop := l.Pairwise fun x y => x.lt y = true
theorem Rises.eq_of_perm : ∀ {l m : List It}, Rises l → Rises m → l.Perm m → l = m
  | [], m, _, _, h => (List.Perm.nil_eq h)
  | x :: l, [], _, _, h => absurd h.length_eq (by simp)
  | x :: l, y :: m, h1, h2, h => by
    have hx := List.pairwise_cons.1 h1
    have hy := List.pairwise_cons.1 h2
    have e : x = y := by
      have mx : x ∈ y :: m := h.subset (by simp)
      have my : y ∈ x :: l := h.symm.subset (by simp)
      rcases List.mem_cons.1 mx with e | mx
      · exact e
      · rcases List.mem_cons.1 my with e | my
        · exact e.symm
        · have := It.trans (hx.1 y my) (hy.1 x mx)
          rw [It.irrefl] at this; cases this
    subst e
    rw [Rises.eq_of_perm hx.2 hy.2 (List.Perm.cons_inv h)]
theorem Rises.head_least {l : List It} (h : Rises l) (x : It) (hx : x ∈ l) : (gOf l 0).le x := by
  cases l with
  | nil => cases hx
  | cons y l =>
    rcases List.mem_cons.1 hx with e | hx
    · subst e; exact It.le_refl _
    · exact It.le_of_lt ((List.pairwise_cons.1 h).1 x hx)
/-- A heap's first one is the first one of the list that rises. -/
theorem heap_first {xs l : List It} (h : IsHeap (gOf xs) xs.length) (hp : xs.Perm l) (hr : Rises l) (h0 : 0 < xs.length) : gOf xs 0 = gOf l 0 := by
  have hl : 0 < l.length := by rw [← hp.length_eq]; exact h0
  apply It.eq_of
  · have m : gOf xs 0 ∈ l := hp.subset (by rw [gOf_get h0]; exact List.getElem_mem h0)
    rcases h2 : (gOf xs 0).lt (gOf l 0) with _ | _
    · rfl
    · have := hr.head_least _ m
      rw [It.le, h2] at this; cases this
  · have m : gOf l 0 ∈ xs := hp.symm.subset (by rw [gOf_get hl]; exact List.getElem_mem hl)
    obtain ⟨k, hk, e⟩ := List.getElem_of_mem m
    have := h.least k hk
    rw [gOf_get hk, e] at this
    exact this

theorem takeWhile_all (p : It → Bool) : ∀ (l : List It) (x : It), x ∈ l.takeWhile p → p x = true
  | [], _, h => by simp at h
  | y :: l, x, h => by
    rw [List.takeWhile_cons] at h
    split at h
    · rename_i hp
      rcases List.mem_cons.1 h with e | h
      · subst e; exact hp
      · exact takeWhile_all p l x h
    · cases h
theorem dropWhile_head (p : It → Bool) : ∀ (l : List It) (z : It) (r : List It), l.dropWhile p = z :: r → p z = false
  | [], _, _, h => by simp at h
  | y :: l, z, r, h => by
    rw [List.dropWhile_cons] at h
    split at h
    · exact dropWhile_head p l z r h
    · rename_i hp
      injection h with e _
      subst e; simpa using hp
/-- An item put where it belongs. -/
def ins (y : It) (l : List It) : List It := l.takeWhile (fun x => x.lt y) ++ y :: l.dropWhile (fun x => x.lt y)
theorem ins_perm (y : It) (l : List It) : (ins y l).Perm (l ++ [y]) := by
  have e : l.takeWhile (fun x => x.lt y) ++ l.dropWhile (fun x => x.lt y) = l := List.takeWhile_append_dropWhile
  unfold ins
  refine (List.perm_middle).trans ?_
  rw [e]
  exact (List.perm_append_singleton y l).symm
theorem ins_rises {y : It} {l : List It} (h : Rises l) (hy : ∀ x ∈ l, x.i ≠ y.i) : Rises (ins y l) := by
  have e : l.takeWhile (fun x => x.lt y) ++ l.dropWhile (fun x => x.lt y) = l := List.takeWhile_append_dropWhile
  have h' := h
  rw [← e] at h'
  obtain ⟨p1, p2, p3⟩ := List.pairwise_append.1 h'
  have ha : ∀ x ∈ l.takeWhile (fun x => x.lt y), x.lt y = true := fun x hx => by
    exact takeWhile_all _ l x hx
  have hb : ∀ x ∈ l.dropWhile (fun x => x.lt y), y.lt x = true := fun x hx => by
    have hne : l.dropWhile (fun x => x.lt y) ≠ [] := List.ne_nil_of_mem hx
    obtain ⟨z, r, hz⟩ := List.exists_cons_of_ne_nil hne
    have hz0 : z.lt y = false := dropWhile_head (fun x : It => x.lt y) l z r hz
    have hzy : y.lt z = true := by
      refine It.lt_of_le_ne hz0 (fun e2 => hy z ?_ (by rw [e2]))
      exact (List.dropWhile_suffix _).subset (by rw [hz]; simp)
    rw [hz] at hx p2
    rcases List.mem_cons.1 hx with e3 | hx
    · subst e3; exact hzy
    · exact It.trans hzy ((List.pairwise_cons.1 p2).1 x hx)
  refine List.pairwise_append.2 ⟨p1, List.pairwise_cons.2 ⟨hb, p2⟩, fun a ha' b hb' => ?_⟩
  rcases List.mem_cons.1 hb' with e4 | hb'
  · subst e4; exact ha a ha'
  · exact p3 a ha' b hb'

/-- No ID twice. -/
def Ids (l : List It) : Prop := (l.map It.i).Nodup
theorem Ids.perm {l m : List It} (h : Ids l) (hp : l.Perm m) : Ids m := (hp.map It.i).nodup_iff.1 h
theorem Ids.eq {l : List It} (h : Ids l) {x y : It} (hx : x ∈ l) (hy : y ∈ l) (e : x.i = y.i) : x = y := by
  induction l with
  | nil => cases hx
  | cons z l ih =>
    have hn := List.nodup_cons.1 (show ((z :: l).map It.i).Nodup from h)
    rcases List.mem_cons.1 hx with e1 | hx'
    · rcases List.mem_cons.1 hy with e2 | hy'
      · rw [e1, e2]
      · exact absurd (List.mem_map.2 ⟨y, hy', by rw [← e, e1]⟩) hn.1
    · rcases List.mem_cons.1 hy with e2 | hy'
      · exact absurd (List.mem_map.2 ⟨x, hx', by rw [e, e2]⟩) hn.1
      · exact ih hn.2 hx' hy'
theorem Ids.place {l : List It} (h : Ids l) {a b : Nat} (ha : a < l.length) (hb : b < l.length) (e : (gOf l a).i = (gOf l b).i) : a = b := by
  rw [gOf_get ha, gOf_get hb] at e
  have hp := List.pairwise_iff_getElem.1 (show (l.map It.i).Nodup from h)
  rcases Nat.lt_trichotomy a b with h1 | h1 | h1
  · exact (hp a b (by simpa using ha) (by simpa using hb) h1 (by simpa using e)).elim
  · exact h1
  · exact (hp b a (by simpa using hb) (by simpa using ha) h1 (by simpa using e.symm)).elim
end Go.Proofs.Ytklolepmmabijaa

namespace Go.Proofs.Ytklolepmmabijaa
set_option maxRecDepth 100000
open Go.RowKit Go.ChangeMaps Go.MapKept
open Go.Maps (Keyed)
set_option linter.unusedVariables false
set_option linter.unusedSimpArgs false

/-! ### what may have turned -/
/-- Of the blocks of w at most those of S have turned; there may be new ones. -/
structure Only (S : List Nat) (w w' : World) : Prop where
  os : w'.os = w.os
  tape : w'.tape = w.tape
  output : w'.output = w.output
  size : w.heap.size ≤ w'.heap.size
  block : ∀ k, k < w.heap.size → k ∉ S → w'.heap[k]? = w.heap[k]?

theorem Only.refl (S : List Nat) (w : World) : Only S w w := ⟨rfl, rfl, rfl, Nat.le_refl _, fun _ _ _ => rfl⟩
theorem Only.trans {S T : List Nat} {a b c : World} (h : Only S a b) (h2 : Only T b c) (hT : ∀ k ∈ T, k ∈ S ∨ a.heap.size ≤ k) : Only S a c :=
  ⟨h2.os.trans h.os, h2.tape.trans h.tape, h2.output.trans h.output, Nat.le_trans h.size h2.size, fun k hk hS =>
    (h2.block k (Nat.lt_of_lt_of_le hk h.size) (fun hk2 => (hT k hk2).elim hS (fun h3 => by omega))).trans (h.block k hk hS)⟩
theorem Only.trans' {S : List Nat} {a b c : World} (h : Only S a b) (h2 : Only S b c) : Only S a c := h.trans h2 fun _ hk => .inl hk
theorem Only.mono {S T : List Nat} {w w' : World} (h : Only S w w') (hT : ∀ k ∈ S, k ∈ T ∨ w.heap.size ≤ k) : Only T w w' :=
  (Only.refl T w).trans h hT
theorem Only.drew {S : List Nat} {a w : World} (h : Only S a w) : Only S a w.drew := ⟨h.os, h.tape, h.output, h.size, h.block⟩
theorem Only.drewN {S : List Nat} {a w : World} (h : Only S a w) (n : Nat) : Only S a (w.drewN n) := ⟨h.os, h.tape, h.output, h.size, h.block⟩
theorem Only.alloc {S : List Nat} {a w : World} (h : Only S a w) (o : Obj) : Only S a (w.alloc o) :=
  h.trans (T := []) ⟨rfl, rfl, rfl, by simp, fun k hk _ => Below.heap_alloc _ _ _ hk⟩ (by simp)
theorem Only.setCell {S : List Nat} {a w : World} (h : Only S a w) {p : Addr} (hp : p.block ∈ S ∨ a.heap.size ≤ p.block) (u : Value) : Only S a (w.setCell p u) :=
  h.trans (T := [p.block]) ⟨rfl, rfl, rfl, by simp [World.setCell], fun k _ hk => Below.heap_setCell _ _ _ _ (by simpa using hk)⟩ (by simpa using hp)
theorem Only.grown {S : List Nat} {a w w' : World} {row : Option Nat} (h : Only S a w) (hg : w.grownBy w' row) (hr : ∀ k, row = some k → k ∈ S ∨ a.heap.size ≤ k) : Only S a w' :=
  h.trans (T := row.toList) ⟨hg.os, hg.tape, hg.output, hg.size, fun k hk hk2 => hg.block k hk (fun e => hk2 (by simp [← e]))⟩ (fun k hk => hr k (by simpa using hk))
theorem Only.of_below {w w' : World} (h : Below w.heap.size w w') : Only [] w w' := ⟨h.os, h.tape, h.output, h.size, fun k hk _ => h.block k hk⟩
theorem Only.below {S : List Nat} {w w' : World} (h : Only S w w') {B : Nat} (hB : B ≤ w.heap.size) (hS : ∀ k ∈ S, B ≤ k) : Below B w w' :=
  ⟨h.os, h.tape, h.output, h.size, fun k hk => h.block k (by omega) (fun h2 => by have := hS k h2; omega)⟩
theorem Only.cell {S : List Nat} {w w' : World} (h : Only S w w') {p : Addr} (hp : p.block < w.heap.size) (hS : p.block ∉ S) : w'.cell? p = w.cell? p := World.cell?_of_block (w := w) (h.block p.block hp hS)
theorem Only.get {S : List Nat} {w w' : World} (h : Only S w w') {b : Nat} {o : Obj} (hb : w.heap[b]? = some o) (hS : b ∉ S) : w'.heap[b]? = some o :=
  (h.block b (Array.getElem?_eq_some_iff.1 hb).1 hS).trans hb

/-! ### rows of items -/
def It.cs (x : It) : List Value := [.int .u64 x.k, .int .i64 x.i]
def It.val (x : It) : Value := .agg #[.int .u64 x.k, .int .i64 x.i]
def flat (xs : List It) : List Value := xs.flatMap It.cs
def i64ok (a : Int) : Prop := (Lit.int .i64 a).wf = true
def It.ok (x : It) : Prop := (Lit.int .u64 x.k).wf = true ∧ i64ok x.i
theorem flat_cons (x : It) (xs : List It) : flat (x :: xs) = .int .u64 x.k :: .int .i64 x.i :: flat xs := by simp [flat, It.cs]
theorem flat_append (xs ys : List It) : flat (xs ++ ys) = flat xs ++ flat ys := by simp [flat]
@[simp] theorem flat_length (xs : List It) : (flat xs).length = xs.length * 2 := by
  induction xs with
  | nil => rfl
  | cons x xs ih => rw [flat_cons]; simp [ih]; omega
theorem flat_set : ∀ (xs : List It) (k : Nat) (x : It), flat (xs.set k x) = ((flat xs).set (k * 2) (.int .u64 x.k)).set (k * 2 + 1) (.int .i64 x.i)
  | [], k, x => by simp [flat]
  | y :: xs, 0, x => by simp [flat_cons]
  | y :: xs, k + 1, x => by
    rw [List.set_cons_succ, flat_cons, flat_cons, flat_set xs k x]
    have e1 : (k + 1) * 2 = k * 2 + 2 := by omega
    rw [e1]
    simp
theorem flat_key : ∀ (xs : List It) (k : Nat), k < xs.length → (flat xs)[k * 2]? = some (.int .u64 (gOf xs k).k) ∧ (flat xs)[k * 2 + 1]? = some (.int .i64 (gOf xs k).i)
  | [], k, h => by simp at h
  | x :: xs, 0, _ => by simp [flat_cons, gOf]
  | x :: xs, k + 1, h => by
    have := flat_key xs k (by simpa using h)
    have e1 : (k + 1) * 2 = k * 2 + 2 := by omega
    rw [flat_cons, e1]
    simpa [gOf] using this
theorem flat_take : ∀ (xs : List It) (k : Nat), (flat xs).take (k * 2) = flat (xs.take k)
  | [], k => by simp [flat]
  | x :: xs, 0 => by simp [flat]
  | x :: xs, k + 1 => by
    have e1 : (k + 1) * 2 = k * 2 + 2 := by omega
    rw [e1, List.take_succ_cons, flat_cons, flat_cons, ← flat_take xs k]
    simp
theorem flat_drop : ∀ (xs : List It) (k : Nat), (flat xs).drop (k * 2) = flat (xs.drop k)
  | [], k => by simp [flat]
  | x :: xs, 0 => by simp
  | x :: xs, k + 1 => by
    have e1 : (k + 1) * 2 = k * 2 + 2 := by omega
    rw [e1, List.drop_succ_cons, flat_cons, ← flat_drop xs k]
    simp
theorem flat_one (xs : List It) : ∀ u ∈ flat xs, u.oneCell' = true := by
  intro u hu
  simp only [flat, List.mem_flatMap] at hu
  obtain ⟨x, _, hx⟩ := hu
  simp only [It.cs, List.mem_cons, List.not_mem_nil, or_false] at hx
  rcases hx with rfl | rfl <;> rfl

/-- A slice of items: nil, or at the head of a block that holds nothing else. -/
def RowIs (w : World) (v : Value) (xs : List It) : Prop := w.ownsRow 0 77 2 v xs.length (flat xs)

theorem RowIs.form {w : World} {v : Value} {xs : List It} (h : RowIs w v xs) : ∃ A cap, v = .slice A xs.length cap := by
  rcases h.2 with ⟨rfl, e⟩ | ⟨g, cap, cur, rfl, _⟩
  · exact ⟨none, 0, by rw [e]⟩
  · exact ⟨_, _, rfl⟩
theorem RowIs.nil (w : World) : RowIs w (.slice none 0 0) [] := ⟨by simp [flat], .inl ⟨rfl, rfl⟩⟩
/-- With an item: where it lies. -/
theorem RowIs.at_ {w : World} {v : Value} {xs : List It} (h : RowIs w v xs) (h0 : 0 < xs.length) : ∃ g cap, v = .slice (some ⟨g, 0, none⟩) xs.length cap ∧ xs.length ≤ cap ∧ cap ≤ maxLen ∧ g < w.heap.size ∧
    (∃ cur, w.heap[g]? = some (.cells cur 77 (0, 0)) ∧ cur.size = cap * 2 ∧ cur.toList.take (xs.length * 2) = flat xs) ∧
    ∀ k, k < xs.length → w.cell? ⟨g, k * 2, none⟩ = some (.int .u64 (gOf xs k).k) ∧ w.cell? ⟨g, k * 2 + 1, none⟩ = some (.int .i64 (gOf xs k).i) ∧ w.frozen? ⟨g, k * 2, none⟩ = false ∧ w.frozen? ⟨g, k * 2 + 1, none⟩ = false := by
  rcases h.2 with ⟨rfl, e⟩ | ⟨g, cap, cur, rfl, _, hg, hn, hcap, hsz, hcur⟩
  · omega
  · refine ⟨g, cap, rfl, hn, hcap, (Array.getElem?_eq_some_iff.1 hg).1, ⟨cur, hg, hsz, hcur⟩, fun k hk => ?_⟩
    have hk' := flat_key xs k hk
    have cellOf : ∀ j u, j < xs.length * 2 → (flat xs)[j]? = some u → w.cell? ⟨g, j, none⟩ = some u := fun j u hj hu => by
      rw [cell_of_row w g j cur _ (0, 0) hg]
      rw [← hcur, List.getElem?_take, if_pos hj] at hu
      simpa using hu
    exact ⟨cellOf _ _ (by omega) hk'.1, cellOf _ _ (by omega) hk'.2, by simp [World.frozen?, hg], by simp [World.frozen?, hg]⟩
theorem RowIs.keep {w w' : World} {v : Value} {xs : List It} (h : RowIs w v xs) (hk : ∀ g, v.ownBlock = some g → w'.heap[g]? = w.heap[g]?) : RowIs w' v xs := by
  refine ⟨h.1, ?_⟩
  rcases h.2 with h2 | ⟨g, cap, cur, rfl, h0, hg, r⟩
  · exact .inl h2
  · exact .inr ⟨g, cap, cur, rfl, h0, (hk g rfl).trans hg, r⟩
theorem RowIs.lt {w : World} {v : Value} {xs : List It} (h : RowIs w v xs) {g : Nat} (hg : v.ownBlock = some g) : g < w.heap.size := by
  rcases h.2 with ⟨rfl, _⟩ | ⟨g', cap, cur, rfl, h0, hb, r⟩
  · cases hg
  · have : g' = g := by simpa [Value.ownBlock] using hg
    subst this
    exact (Array.getElem?_eq_some_iff.1 hb).1
/-- An item stored into the row. -/
theorem RowIs.store {w : World} {g n cap : Nat} {xs : List It} (h : RowIs w (.slice (some ⟨g, 0, none⟩) n cap) xs) {k : Nat} (hk : k < xs.length) (x : It) :
    RowIs ((w.setCell ⟨g, k * 2, none⟩ (.int .u64 x.k)).setCell ⟨g, k * 2 + 1, none⟩ (.int .i64 x.i)) (.slice (some ⟨g, 0, none⟩) n cap) (xs.set k x) := by
  obtain ⟨h1, h2⟩ := h
  rcases h2 with ⟨e, _⟩ | ⟨g', cap', cur, e, h0, hg, hn, hc, hsz, hcur⟩
  · cases e
  · injection e with e1 e2 e3
    injection e1 with e1
    injection e1 with e1
    subst e1 e2 e3
    refine ⟨by simp, .inr ⟨g, cap, (cur.setIfInBounds (k * 2) (.int .u64 x.k)).setIfInBounds (k * 2 + 1) (.int .i64 x.i), by simp, h0, ?_, by simpa using hn, hc, by simpa using hsz, ?_⟩⟩
    · simp [World.setCell, Array.getElem?_modify, hg]
    · rw [flat_set, ← hcur]
      simp only [Array.toList_setIfInBounds, List.length_set]
      rw [List.take_set, List.take_set]
/-- The slice cut to its first m. -/
theorem RowIs.cut {w : World} {g n cap : Nat} {xs : List It} (h : RowIs w (.slice (some ⟨g, 0, none⟩) n cap) xs) {m : Nat} (hm : m ≤ xs.length) : RowIs w (.slice (some ⟨g, 0, none⟩) m cap) (xs.take m) := by
  obtain ⟨h1, h2⟩ := h
  rcases h2 with ⟨e, _⟩ | ⟨g', cap', cur, e, h0, hg, hn, hc, hsz, hcur⟩
  · cases e
  · injection e with e1 e2 e3
    injection e1 with e1
    injection e1 with e1
    subst e1 e2 e3
    have el : (xs.take m).length = m := by simp [hm]
    refine ⟨by simp, .inr ⟨g, cap, cur, by rw [el], h0, hg, by omega, hc, hsz, ?_⟩⟩
    rw [el, ← flat_take, ← hcur, List.take_take]
    congr 1
    omega

/-! ### a map from ints to ints -/
theorem key_law : Keyed Try.prog 3 := Maps.int_keyed Try.underlying3
theorem key_int {a : Int} (h : i64ok a) : Go.keyOf Try.prog 3 (.int .i64 a) = some (.int .i64 a) := Maps.keyOf_int_mk Try.underlying3 h
theorem check_int (w : World) {a : Int} (h : i64ok a) (em : Bool) : (Instr.checkKey em 10000 3 (.int .i64 a)).run Try.prog w = .ok () w := key_law.check w em (key_int h)
theorem zero_int (w : World) : (zeroValue 3).run Try.prog w = .ok (.int .i64 0) w := by kernel_rfl

/-- Block b is a map that tells f. -/
def MapAt (w : World) (b : Nat) (f : Int → Option Int) : Prop :=
  ∃ es clock, w.heap[b]? = some (.map es clock) ∧ Stamped es clock ∧ (∀ e ∈ es.toList, ∃ k v, e.key = .int .i64 k ∧ i64ok k ∧ e.val = .int .i64 v ∧ f k = some v) ∧
    ∀ k v, f k = some v → ∃ e ∈ es.toList, e.key = .int .i64 k ∧ e.val = .int .i64 v

def upd (f : Int → Option Int) (k v : Int) : Int → Option Int := fun q => if q = k then some v else f q
def off (f : Int → Option Int) (k : Int) : Int → Option Int := fun q => if q = k then none else f q

section
variable {w : World} {b : Nat} {f : Int → Option Int}
theorem MapAt.keep {w' : World} (h : MapAt w b f) (hk : w'.heap[b]? = w.heap[b]?) : MapAt w' b f := by
  obtain ⟨es, clock, hb, r⟩ := h
  exact ⟨es, clock, hk.trans hb, r⟩
theorem MapAt.lt (h : MapAt w b f) : b < w.heap.size := by
  obtain ⟨es, clock, hb, r⟩ := h
  exact (Array.getElem?_eq_some_iff.1 hb).1
theorem MapAt.made (w : World) : MapAt (w.alloc (.map #[] 0)) w.heap.size (fun _ => none) :=
  ⟨#[], 0, (MapKept.heap_alloc w _).1, stamped_empty 0, by simp, by simp⟩
theorem keys_of {es : Array MapEntry} (h : ∀ e ∈ es.toList, ∃ k v, e.key = .int .i64 k ∧ i64ok k ∧ e.val = .int .i64 v ∧ f k = some v) : ∀ e ∈ es.toList, ∃ l, Go.keyOf Try.prog 3 e.key = some l := fun e he => by
  obtain ⟨k, v, h1, h2, _⟩ := h e he
  exact ⟨_, by rw [h1]; exact key_int h2⟩
theorem MapAt.look (h : MapAt w b f) {k : Int} (hk : i64ok k) (T : TypeId) (hT : Try.prog.underlying T = some (.map 3 3)) :
    (Instr.lookup T (.map (some b)) (.int .i64 k) true).run Try.prog w = .ok (.tuple #[.int .i64 ((f k).getD 0), .bool (f k).isSome]) w := by
  obtain ⟨es, clock, hb, hs, h1, h2⟩ := h
  rcases key_law.find w (key_int hk) es.toList (keys_of h1) with ⟨e1, e2⟩ | ⟨j, e0, e1, e2, e3⟩
  · have hf : f k = none := by
      rcases hf : f k with _ | v
      · rfl
      · obtain ⟨e, he, hek, _⟩ := h2 k v hf
        exact absurd hek (e2 e he)
    simp [Instr.lookup, run_underlying hT, MapKept.run_getObj_map hb, check_int w hk, e1, zero_int, Result.andThen, hf]
  · obtain ⟨k', v, h3, h4, h5, h6⟩ := h1 e0 (List.mem_of_getElem? e2)
    have : k' = k := by rw [e3] at h3; injection h3 with _ h3; exact h3.symm
    subst this
    simp [Instr.lookup, run_underlying hT, MapKept.run_getObj_map hb, check_int w hk, e1, h5, Result.andThen, h6]
theorem Stamped.entry {es : Array MapEntry} {clock : Nat} (h : Stamped es clock) {x y : MapEntry} (hx : x ∈ es.toList) (hy : y ∈ es.toList) (e : x.key = y.key) : x = y := by
  obtain ⟨i, hi, rfl⟩ := List.getElem_of_mem hx
  obtain ⟨j, hj, rfl⟩ := List.getElem_of_mem hy
  have hp := List.pairwise_iff_getElem.1 h.2.2
  rcases Nat.lt_trichotomy i j with h1 | h1 | h1
  · exact (hp i j (by simpa using hi) (by simpa using hj) h1 (by simpa using e)).elim
  · subst h1; rfl
  · exact (hp j i (by simpa using hj) (by simpa using hi) h1 (by simpa using e.symm)).elim
theorem mem_modify {es : Array MapEntry} {j : Nat} {e0 : MapEntry} (hj : es.toList[j]? = some e0) (g : MapEntry → MapEntry) (x : MapEntry) (hx : x ∈ (es.modify j g).toList) : x = g e0 ∨ ∃ i, i ≠ j ∧ es.toList[i]? = some x := by
  obtain ⟨i, hi⟩ := List.getElem?_of_mem hx
  rw [Array.toList_modify, modify_eq_set g _ _ _ hj, List.getElem?_set] at hi
  split at hi
  · split at hi
    · left; injection hi with hi; exact hi.symm
    · cases hi
  · exact .inr ⟨i, by omega, hi⟩
theorem mem_modify_mk {es : Array MapEntry} {j : Nat} {e0 : MapEntry} (hj : es.toList[j]? = some e0) (g : MapEntry → MapEntry) : g e0 ∈ (es.modify j g).toList ∧ ∀ i x, i ≠ j → es.toList[i]? = some x → x ∈ (es.modify j g).toList := by
  have hl : j < es.toList.length := (List.getElem?_eq_some_iff.1 hj).1
  rw [Array.toList_modify, modify_eq_set g _ _ _ hj]
  refine ⟨List.mem_of_getElem? (i := j) (by rw [List.getElem?_set, if_pos rfl, if_pos hl]), fun i x hne hi => List.mem_of_getElem? (i := i) (by rw [List.getElem?_set, if_neg (by omega)]; exact hi)⟩
/-- The entry at a key turned to v. -/
theorem told_modify {es : Array MapEntry} {clock : Nat} (hs : Stamped es clock) (h1 : ∀ e ∈ es.toList, ∃ k v, e.key = .int .i64 k ∧ i64ok k ∧ e.val = .int .i64 v ∧ f k = some v)
    (h2 : ∀ k v, f k = some v → ∃ e ∈ es.toList, e.key = .int .i64 k ∧ e.val = .int .i64 v) {j : Nat} {e0 : MapEntry} (hj : es.toList[j]? = some e0) {k : Int} (hk : i64ok k) (he : e0.key = .int .i64 k) (v : Int) (g : MapEntry → MapEntry)
    (hg : g e0 = ⟨.int .i64 k, .int .i64 v, e0.born⟩) :
    (∀ e ∈ (es.modify j g).toList, ∃ k' v', e.key = .int .i64 k' ∧ i64ok k' ∧ e.val = .int .i64 v' ∧ upd f k v k' = some v') ∧
    ∀ k' v', upd f k v k' = some v' → ∃ e ∈ (es.modify j g).toList, e.key = .int .i64 k' ∧ e.val = .int .i64 v' := by
  have m0 : e0 ∈ es.toList := List.mem_of_getElem? hj
  refine ⟨fun e he2 => ?_, fun k' v' hu => ?_⟩
  · rcases mem_modify hj g e he2 with rfl | ⟨i, hne, hi⟩
    · rw [hg]; exact ⟨k, v, rfl, hk, rfl, by simp [upd]⟩
    · have m1 : e ∈ es.toList := List.mem_of_getElem? hi
      obtain ⟨k', v', r1, r2, r3, r4⟩ := h1 e m1
      refine ⟨k', v', r1, r2, r3, ?_⟩
      unfold upd
      split
      · rename_i ek
        subst ek
        have ee := Stamped.entry hs m1 m0 (r1.trans he.symm)
        subst ee
        have hp := List.pairwise_iff_getElem.1 hs.2.2
        obtain ⟨hi1, hi2⟩ := List.getElem?_eq_some_iff.1 hi
        obtain ⟨hj1, hj2⟩ := List.getElem?_eq_some_iff.1 hj
        rcases Nat.lt_trichotomy i j with h3 | h3 | h3
        · exact (hp i j (by simpa using hi1) (by simpa using hj1) h3 (by simp only [List.getElem_map, hi2, hj2])).elim
        · exact absurd h3 hne
        · exact (hp j i (by simpa using hj1) (by simpa using hi1) h3 (by simp only [List.getElem_map, hi2, hj2])).elim
      · exact r4
  · obtain ⟨mk1, mk2⟩ := mem_modify_mk hj g
    unfold upd at hu
    split at hu
    · rename_i ek
      subst ek
      injection hu with hu
      subst hu
      exact ⟨_, mk1, by rw [hg], by rw [hg]⟩
    · rename_i ek
      obtain ⟨e, m1, r1, r2⟩ := h2 k' v' hu
      obtain ⟨i, hi⟩ := List.getElem?_of_mem m1
      refine ⟨e, mk2 i e (fun e5 => ?_) hi, r1, r2⟩
      subst e5
      rw [hj] at hi
      injection hi with hi
      subst hi
      rw [he] at r1
      injection r1 with _ r1
      exact ek r1.symm
theorem grown_setBlock (w : World) {es : Array MapEntry} {clock : Nat} (hb : w.heap[b]? = some (.map es clock)) (o : Obj) : w.grownBy (setBlock w b o) (some b) :=
  ⟨rfl, rfl, rfl, by simp [setBlock], fun i _ hi => heap_setBlock_other hb _ (fun e => hi (by rw [e]))⟩
/-- 'm[k] = v'. -/
theorem MapAt.put (h : MapAt w b f) {k : Int} (hk : i64ok k) (v : Int) (T : TypeId) (hT : Try.prog.underlying T = some (.map 3 3)) :
    ∃ w', (Instr.mapUpdate T (.map (some b)) (.int .i64 k) (.int .i64 v)).run Try.prog w = .ok () w' ∧ MapAt w' b (upd f k v) ∧ w.grownBy w' (some b) := by
  obtain ⟨es, clock, hb, hs, h1, h2⟩ := h
  rcases key_law.find w (key_int hk) es.toList (keys_of h1) with ⟨e1, e2⟩ | ⟨j, e0, e1, e2, e3⟩
  · refine ⟨setBlock w b (.map (es.push ⟨.int .i64 k, .int .i64 v, clock⟩) (clock + 1)), ?_, ⟨_, _, heap_setBlock_same hb _, stamped_push hs e2, ?_, ?_⟩, grown_setBlock w hb _⟩
    · simp [Instr.mapUpdate, run_underlying hT, MapKept.run_getObj_map hb, check_int w hk, e1, MapKept.run_setObj_map _ hb, Result.andThen, setBlock]
    · intro e he
      simp only [Array.toList_push, List.mem_append, List.mem_singleton] at he
      rcases he with he | rfl
      · obtain ⟨k', v', r1, r2, r3, r4⟩ := h1 e he
        refine ⟨k', v', r1, r2, r3, ?_⟩
        unfold upd
        rw [if_neg (fun e5 => e2 e he (by rw [r1, e5]))]
        exact r4
      · exact ⟨k, v, rfl, hk, rfl, by simp [upd]⟩
    · intro k' v' hu
      unfold upd at hu
      split at hu
      · rename_i ek
        subst ek
        injection hu with hu
        subst hu
        exact ⟨_, by simp; right; rfl, rfl, rfl⟩
      · obtain ⟨e, m1, r1, r2⟩ := h2 k' v' hu
        exact ⟨e, by simp [Array.toList_push]; left; simpa using m1, r1, r2⟩
  · have hj : es[j]? = some e0 := by simpa using e2
    obtain ⟨t1, t2⟩ := told_modify hs h1 h2 e2 hk e3 v (fun e' => { e' with key := .int .i64 k, val := .int .i64 v }) (by simp)
    refine ⟨setBlock w b (.map (es.modify j (fun e' => { e' with key := .int .i64 k, val := .int .i64 v })) clock), ?_, ⟨_, _, heap_setBlock_same hb _, stamped_modify hs j _ (fun _ _ => rfl) (fun e _ he => ?_), t1, t2⟩, grown_setBlock w hb _⟩
    · simp [Instr.mapUpdate, run_underlying hT, MapKept.run_getObj_map hb, check_int w hk, e1, hj, e3, key_law.stays w (key_int hk), MapKept.run_setObj_map _ hb, Result.andThen, setBlock]
    · rw [hj] at he; injection he with he; subst he; exact e3.symm
/-- 'm[k1], m[k2] = ..': the entry of a key that is there, then the store into it. -/
theorem MapAt.entry (h : MapAt w b f) {k v0 : Int} (hk : i64ok k) (hf : f k = some v0) (v : Int) (T : TypeId) (hT : Try.prog.underlying T = some (.map 3 3)) :
    ∃ st : Nat, (Instr.mapEntry T (.map (some b)) (.int .i64 k)).run Try.prog w = .ok (.tuple #[.int .i64 v0, .int .i64 (st : Int)]) w ∧
      ∃ w', (Instr.entryStore T (.map (some b)) (.int .i64 (st : Int)) (.int .i64 v)).run Try.prog w = .ok () w' ∧ MapAt w' b (upd f k v) ∧ w.grownBy w' (some b) := by
  obtain ⟨es, clock, hb, hs, h1, h2⟩ := h
  rcases key_law.find w (key_int hk) es.toList (keys_of h1) with ⟨e1, e2⟩ | ⟨j, e0, e1, e2, e3⟩
  · obtain ⟨e, he, hek, _⟩ := h2 k v0 hf
    exact absurd hek (e2 e he)
  · have hj : es[j]? = some e0 := by simpa using e2
    obtain ⟨k', v', r1, r2, r3, r4⟩ := h1 e0 (List.mem_of_getElem? e2)
    have ek : k' = k := by rw [e3] at r1; injection r1 with _ r1; exact r1.symm
    subst ek
    have ev : v' = v0 := by rw [hf] at r4; injection r4 with r4; exact r4.symm
    subst ev
    have hsame : es.modify j (fun e => { e with key := .int .i64 k' }) = es := by
      apply Array.ext'
      rw [Array.toList_modify, modify_eq_set _ _ _ _ e2]
      have : ({ e0 with key := .int .i64 k' } : MapEntry) = e0 := by rw [← e3]
      rw [this]
      exact WideElems.set_self _ _ _ e2
    have hset : ({ w with heap := w.heap.setIfInBounds b (.map es clock) } : World) = w := by
      have : w.heap.setIfInBounds b (.map es clock) = w.heap := by
        apply Array.ext_getElem?
        intro i
        rw [Array.getElem?_setIfInBounds]
        split
        · rename_i e
          subst e
          split
          · exact hb.symm
          · rename_i h9
            exact absurd (Array.getElem?_eq_some_iff.1 hb).1 h9
        · rfl
      rw [this]
    refine ⟨e0.born, ?_, ?_⟩
    · simp [Instr.mapEntry, run_underlying hT, MapKept.run_getObj_map hb, check_int w hk, e1, hj, e3, key_law.stays w (key_int hk), hsame, MapKept.run_setObj_map _ hb, Result.andThen, hset, r3, goInt]
    · have hidx : es.findIdx? (fun e => ((e.born : Nat) : Int) == ((e0.born : Nat) : Int)) = some j := by
        rw [WideElems.findIdx_arr]
        exact WideElems.findIdx_born hs.2.1 e2
      obtain ⟨t1, t2⟩ := told_modify hs h1 h2 e2 hk e3 v (fun e' => { e' with val := .int .i64 v }) (by simp [e3])
      refine ⟨setBlock w b (.map (es.modify j (fun e' => { e' with val := .int .i64 v })) clock), ?_, ⟨_, _, heap_setBlock_same hb _, stamped_modify hs j _ (fun _ _ => rfl) (fun _ _ _ => rfl), t1, t2⟩, grown_setBlock w hb _⟩
      simp [Instr.entryStore, MapKept.run_getObj_map hb, asInt, asIntOf, hidx, MapKept.run_setObj_map _ hb, Result.andThen, setBlock]
/-- 'delete(m, k)'. -/
theorem MapAt.del (h : MapAt w b f) {k : Int} (hk : i64ok k) (T ty : TypeId) (hT : Try.prog.underlying T = some (.map 3 3)) :
    ∃ w', (Builtin.delete_ #[T, 3] ty #[.map (some b), .int .i64 k]).run Try.prog w = .ok (.tuple #[]) w' ∧ MapAt w' b (off f k) ∧ w.grownBy w' (some b) := by
  obtain ⟨es, clock, hb, hs, h1, h2⟩ := h
  rcases key_law.find w (key_int hk) es.toList (keys_of h1) with ⟨e1, e2⟩ | ⟨j, e0, e1, e2, e3⟩
  · refine ⟨setBlock w b (.map es clock), ?_, ⟨es, clock, heap_setBlock_same hb _, hs, fun e he => ?_, fun k' v' hu => ?_⟩, grown_setBlock w hb _⟩
    · simp [Builtin.delete_, run_underlying hT, MapKept.run_getObj_map hb, check_int w hk, e1, MapKept.run_setObj_map _ hb, Result.andThen, setBlock]
    · obtain ⟨k', v', r1, r2, r3, r4⟩ := h1 e he
      refine ⟨k', v', r1, r2, r3, ?_⟩
      unfold off
      rw [if_neg (fun e5 => e2 e he (by rw [r1, e5]))]
      exact r4
    · unfold off at hu
      split at hu
      · cases hu
      · exact h2 k' v' hu
  · have hjl : j < es.toList.length := (List.getElem?_eq_some_iff.1 e2).1
    have hjs : j < es.size := by simpa using hjl
    have hsub : (es.eraseIdxIfInBounds j).toList = es.toList.eraseIdx j := by
      unfold Array.eraseIdxIfInBounds
      rw [dif_pos hjs]
      simp
    refine ⟨setBlock w b (.map (es.eraseIdxIfInBounds j) clock), ?_, ⟨_, _, heap_setBlock_same hb _, stamped_erase hs j, fun e he => ?_, fun k' v' hu => ?_⟩, grown_setBlock w hb _⟩
    · simp [Builtin.delete_, run_underlying hT, MapKept.run_getObj_map hb, check_int w hk, e1, MapKept.run_setObj_map _ hb, Result.andThen, setBlock]
    · rw [hsub] at he
      obtain ⟨i, hne, hi⟩ := List.mem_eraseIdx_iff_getElem?.1 he
      have m1 : e ∈ es.toList := List.mem_of_getElem? hi
      obtain ⟨k', v', r1, r2, r3, r4⟩ := h1 e m1
      refine ⟨k', v', r1, r2, r3, ?_⟩
      unfold off
      split
      · rename_i ek
        subst ek
        have hp := List.pairwise_iff_getElem.1 hs.2.2
        obtain ⟨hi1, hi2⟩ := List.getElem?_eq_some_iff.1 hi
        obtain ⟨hj1, hj2⟩ := List.getElem?_eq_some_iff.1 e2
        rcases Nat.lt_trichotomy i j with h3 | h3 | h3
        · exact (hp i j (by simpa using hi1) (by simpa using hj1) h3 (by simp only [List.getElem_map, hi2, hj2, r1, e3])).elim
        · exact absurd h3 hne
        · exact (hp j i (by simpa using hj1) (by simpa using hi1) h3 (by simp only [List.getElem_map, hi2, hj2, r1, e3])).elim
      · exact r4
    · unfold off at hu
      split at hu
      · cases hu
      · rename_i ek
        obtain ⟨e, m1, r1, r2⟩ := h2 k' v' hu
        obtain ⟨i, hi⟩ := List.getElem?_of_mem m1
        refine ⟨e, ?_, r1, r2⟩
        rw [hsub]
        refine List.mem_eraseIdx_iff_getElem?.2 ⟨i, fun e5 => ?_, hi⟩
        subst e5
        rw [e2] at hi
        injection hi with hi
        subst hi
        rw [e3] at r1
        injection r1 with _ r1
        exact ek r1.symm
end
end Go.Proofs.Ytklolepmmabijaa

namespace Go.Proofs.Ytklolepmmabijaa
set_option maxRecDepth 100000
open Go.RowKit
set_option linter.unusedVariables false
set_option linter.unusedSimpArgs false

theorem item_info : (Try.prog.info? 77).map (fun i => (i.zero, i.size, i.bytes)) = some (some (.agg #[.int .u64 0, .int .i64 0]), 2, 16) := by kernel_rfl

/-- Where there is something to be read, A leads to it. -/
def Src (w : World) (A : Option Addr) (ys : List It) : Prop := ys ≠ [] → ∃ ad, A = some ad ∧ ∀ j u, (flat ys)[j]? = some u → w.cell? (ad.add j) = some u
theorem Src.nil (w : World) (A : Option Addr) : Src w A [] := fun h => absurd rfl h
theorem Src.keep {w w' : World} {A : Option Addr} {ys : List It} (h : Src w A ys) (hk : ∀ ad j, A = some ad → (w.cell? (ad.add j)).isSome = true → w'.cell? (ad.add j) = w.cell? (ad.add j)) : Src w' A ys := fun hne => by
  obtain ⟨ad, e, hc⟩ := h hne
  exact ⟨ad, e, fun j u hu => (hk ad j e (by rw [hc j u hu]; rfl)).trans (hc j u hu)⟩
theorem Src.of_row {w : World} {A : Option Addr} {n cap : Nat} {xs : List It} (h : RowIs w (.slice A n cap) xs) : Src w A xs := fun hne => by
  obtain ⟨g, c, e, _, _, _, ⟨cur, hg, hsz, hcur⟩, _⟩ := h.at_ (List.length_pos_iff.2 hne)
  injection e with e1 e2 e3
  refine ⟨⟨g, 0, none⟩, e1, fun j u hu => ?_⟩
  have hj : j < xs.length * 2 := by
    have := (List.getElem?_eq_some_iff.1 hu).1
    simpa using this
  have e9 : (⟨g, 0, none⟩ : Addr).add j = ⟨g, j, none⟩ := by
    unfold Addr.add
    split
    · rename_i h0; subst h0; rfl
    · simp
  rw [e9, cell_of_row w g j cur _ (0, 0) hg]
  rw [← hcur, List.getElem?_take, if_pos hj] at hu
  simpa using hu

theorem run_append_row (w : World) (ty : TypeId) (v : Value) (xs : List It) (h : RowIs w v xs) (A : Option Addr) (m c : Nat) (ys : List It) (hm : ys.length = m) (hs : Src w A ys) (hb : xs.length + m ≤ 2000000) :
    ∃ v' w', (Builtin.append_ #[36, 36] ty #[v, .slice A m c]).run Try.prog w = .ok v' w' ∧ RowIs w' v' (xs ++ ys) ∧ w.grownBy w' v.ownBlock ∧ (v'.ownBlock = v.ownBlock ∨ v'.ownBlock = some w.heap.size) := by
  obtain ⟨i0, hi0, hz0, hz1, hz2⟩ := info_parts item_info
  cases A with
  | none =>
    have hy : ys = [] := by
      cases ys with
      | nil => rfl
      | cons y ys => obtain ⟨ad, e, _⟩ := hs (by simp); cases e
    subst hy
    have hm0 : m = 0 := by simpa using hm.symm
    subst hm0
    refine ⟨v, w, ?_, by simpa using h, World.grownBy.refl w _, .inl rfl⟩
    rcases h.2 with ⟨rfl, e⟩ | ⟨g, cap, cur, rfl, _, _, hnc, _⟩
    · simp [Builtin.append_, run_underlying Try.underlying36, sizeOf, typeInfo, hi0, Builtin.lenOf, Builtin.firstCells]
    · simp [Builtin.append_, run_underlying Try.underlying36, sizeOf, typeInfo, hi0, Builtin.lenOf, Builtin.firstCells, hnc, storeCells]
  | some ad =>
    have hcells : ∀ j u, (flat ys)[j]? = some u → w.cell? (ad.add j) = some u := fun j u hu => by
      obtain ⟨ad', e, hc⟩ := hs (by rintro rfl; simp [flat] at hu)
      injection e with e
      subst e
      exact hc j u hu
    obtain ⟨v', w', r1, r2, r3, _, r5⟩ := run_append_own_at (P := Try.prog) w 0 36 ty 77 i0 _ 2 16 Try.underlying36 hi0 hz0 hz1 hz2 rfl (by decide) v xs.length (flat xs) h ad m c (flat ys)
      (by rw [flat_length, hm]) hcells (flat_one ys) (by unfold maxLen; omega) (by omega) (Nat.zero_le _)
    refine ⟨v', w', r1, ?_, r3, r5⟩
    unfold RowIs
    rw [flat_append, List.length_append, hm]
    exact r2

section
variable {w : World} {ops : Array Oper} {o : Oper} {a : Act} {K : Act → World → Prop} {Q : Exit → Act → World → Prop}
theorem wp_append_row (s x : Operand) (ho : o.op = .call { callee := .builtin .append, args := #[s, x], argTypes := #[36, 36] })
    (v : Value) (xs : List It) (hs : a.eval s = v) (h : RowIs w v xs) (A : Option Addr) (m c : Nat) (ys : List It) (hx : a.eval x = .slice A m c) (hm : ys.length = m) (hr : Src w A ys) (N : Nat) (hN : xs.length + m = N) (hb : N ≤ 2000000)
    (hK : ∀ A' cap' w', RowIs w' (.slice A' N cap') (xs ++ ys) → w.grownBy w' v.ownBlock → ((Value.slice A' N cap').ownBlock = v.ownBlock ∨ (Value.slice A' N cap').ownBlock = some w.heap.size) → K (a.put o.dst (.slice A' N cap')) w') : o.wp Try.prog a w K Q := by
  subst hN
  obtain ⟨v', w', r1, r2, r3, r4⟩ := run_append_row w o.type v xs h A m c ys hm hr hb
  unfold Oper.wp execOp
  simp only [ho, resolve, invoke, builtin, Sem.run_bind, Sem.run_pure, Result.andThen_ok, List.map_toArray, List.map_cons, List.map_nil, hs, hx, r1]
  obtain ⟨A', cap', rfl⟩ := r2.form
  rw [List.length_append, hm] at r2 r4 ⊢
  exact hK A' cap' w' r2 r3 r4
theorem wpList_append_row {rest : List Oper} (hgd : o.guard = none) (s x : Operand) (ho : o.op = .call { callee := .builtin .append, args := #[s, x], argTypes := #[36, 36] })
    (v : Value) (xs : List It) (hs : a.eval s = v) (h : RowIs w v xs) (A : Option Addr) (m c : Nat) (ys : List It) (hx : a.eval x = .slice A m c) (hm : ys.length = m) (hr : Src w A ys) (N : Nat) (hN : xs.length + m = N) (hb : N ≤ 2000000)
    (hK : ∀ A' cap' w', RowIs w' (.slice A' N cap') (xs ++ ys) → w.grownBy w' v.ownBlock → ((Value.slice A' N cap').ownBlock = v.ownBlock ∨ (Value.slice A' N cap').ownBlock = some w.heap.size) → wpList Try.prog ops Q rest (a.put o.dst (.slice A' N cap')) w') :
    wpList Try.prog ops Q (o :: rest) a w :=
  wpList_plain hgd fun _ hK' => wp_append_row s x ho v xs hs h A m c ys hx hm hr N hN hb fun A' cap' w' h2 h3 h4 => hK' _ _ (hK A' cap' w' h2 h3 h4)
theorem step_append_row {E : Prop} (hgd : o.guard = none) (s x : Operand) (ho : o.op = .call { callee := .builtin .append, args := #[s, x], argTypes := #[36, 36] })
    (v : Value) (xs : List It) (hs : a.eval s = v) (h : RowIs w v xs) (A : Option Addr) (m c : Nat) (ys : List It) (hx : a.eval x = .slice A m c) (hm : ys.length = m) (hr : Src w A ys) (N : Nat) (hN : xs.length + m = N) (hb : N ≤ 2000000)
    (hK : ∀ A' cap' w', RowIs w' (.slice A' N cap') (xs ++ ys) → w.grownBy w' v.ownBlock → ((Value.slice A' N cap').ownBlock = v.ownBlock ∨ (Value.slice A' N cap').ownBlock = some w.heap.size) → K (a.put o.dst (.slice A' N cap')) w') :
    if Region.wanted o (yielded ops a.tmps) = true then Oper.wp Try.prog o a w K Q else E := by
  have hw : Region.wanted o (yielded ops a.tmps) = true := by simp [Region.wanted, hgd]
  rw [if_pos hw]
  exact wp_append_row s x ho v xs hs h A m c ys hx hm hr N hN hb hK
end

/-- A box of one item: where the translation lays what is appended. -/
theorem src_box (w : World) (x : It) : Src (w.alloc (.cells #[.int .u64 x.k, .int .i64 x.i] 77)) (some ⟨w.heap.size, 0, none⟩) [x] := by
  refine Src.of_row (n := 1) (cap := 1) ⟨rfl, .inr ⟨w.heap.size, 1, _, rfl, Nat.zero_le _, heap_alloc_new w _, Nat.le_refl _, by decide, rfl, by simp [flat, It.cs]⟩⟩
end Go.Proofs.Ytklolepmmabijaa

namespace Go.Proofs.Ytklolepmmabijaa
set_option maxRecDepth 100000
open Go.RowKit Go.ChangeMaps Go.MapKept
open Go.Maps (Keyed)
set_option linter.unusedVariables false
set_option linter.unusedSimpArgs false

theorem zero_u64 (w : World) : (zeroValue 22).run Try.prog w = .ok (.int .u64 0) w := by kernel_rfl
section
variable {w : World} {b : Nat} {f : Int → Option Int}
/-- Block b is a map that tells f. -/
def MapU (w : World) (b : Nat) (f : Int → Option Int) : Prop :=
  ∃ es clock, w.heap[b]? = some (.map es clock) ∧ Stamped es clock ∧ (∀ e ∈ es.toList, ∃ k v, e.key = .int .i64 k ∧ i64ok k ∧ e.val = .int .u64 v ∧ f k = some v) ∧
    ∀ k v, f k = some v → ∃ e ∈ es.toList, e.key = .int .i64 k ∧ e.val = .int .u64 v
theorem MapU.keep {w' : World} (h : MapU w b f) (hk : w'.heap[b]? = w.heap[b]?) : MapU w' b f := by
  obtain ⟨es, clock, hb, r⟩ := h
  exact ⟨es, clock, hk.trans hb, r⟩
theorem MapU.lt (h : MapU w b f) : b < w.heap.size := by
  obtain ⟨es, clock, hb, r⟩ := h
  exact (Array.getElem?_eq_some_iff.1 hb).1
theorem MapU.made (w : World) : MapU (w.alloc (.map #[] 0)) w.heap.size (fun _ => none) :=
  ⟨#[], 0, (MapKept.heap_alloc w _).1, stamped_empty 0, by simp, by simp⟩
theorem keys_ofU {es : Array MapEntry} (h : ∀ e ∈ es.toList, ∃ k v, e.key = .int .i64 k ∧ i64ok k ∧ e.val = .int .u64 v ∧ f k = some v) : ∀ e ∈ es.toList, ∃ l, Go.keyOf Try.prog 3 e.key = some l := fun e he => by
  obtain ⟨k, v, h1, h2, _⟩ := h e he
  exact ⟨_, by rw [h1]; exact key_int h2⟩
theorem MapU.look (h : MapU w b f) {k : Int} (hk : i64ok k) (T : TypeId) (hT : Try.prog.underlying T = some (.map 3 22)) :
    (Instr.lookup T (.map (some b)) (.int .i64 k) true).run Try.prog w = .ok (.tuple #[.int .u64 ((f k).getD 0), .bool (f k).isSome]) w := by
  obtain ⟨es, clock, hb, hs, h1, h2⟩ := h
  rcases key_law.find w (key_int hk) es.toList (keys_ofU h1) with ⟨e1, e2⟩ | ⟨j, e0, e1, e2, e3⟩
  · have hf : f k = none := by
      rcases hf : f k with _ | v
      · rfl
      · obtain ⟨e, he, hek, _⟩ := h2 k v hf
        exact absurd hek (e2 e he)
    simp [Instr.lookup, run_underlying hT, MapKept.run_getObj_map hb, check_int w hk, e1, zero_u64, Result.andThen, hf]
  · obtain ⟨k', v, h3, h4, h5, h6⟩ := h1 e0 (List.mem_of_getElem? e2)
    have : k' = k := by rw [e3] at h3; injection h3 with _ h3; exact h3.symm
    subst this
    simp [Instr.lookup, run_underlying hT, MapKept.run_getObj_map hb, check_int w hk, e1, h5, Result.andThen, h6]
/-- The entry at a key turned to v. -/
theorem told_modifyU {es : Array MapEntry} {clock : Nat} (hs : Stamped es clock) (h1 : ∀ e ∈ es.toList, ∃ k v, e.key = .int .i64 k ∧ i64ok k ∧ e.val = .int .u64 v ∧ f k = some v)
    (h2 : ∀ k v, f k = some v → ∃ e ∈ es.toList, e.key = .int .i64 k ∧ e.val = .int .u64 v) {j : Nat} {e0 : MapEntry} (hj : es.toList[j]? = some e0) {k : Int} (hk : i64ok k) (he : e0.key = .int .i64 k) (v : Int) (g : MapEntry → MapEntry)
    (hg : g e0 = ⟨.int .i64 k, .int .u64 v, e0.born⟩) :
    (∀ e ∈ (es.modify j g).toList, ∃ k' v', e.key = .int .i64 k' ∧ i64ok k' ∧ e.val = .int .u64 v' ∧ upd f k v k' = some v') ∧
    ∀ k' v', upd f k v k' = some v' → ∃ e ∈ (es.modify j g).toList, e.key = .int .i64 k' ∧ e.val = .int .u64 v' := by
  have m0 : e0 ∈ es.toList := List.mem_of_getElem? hj
  refine ⟨fun e he2 => ?_, fun k' v' hu => ?_⟩
  · rcases mem_modify hj g e he2 with rfl | ⟨i, hne, hi⟩
    · rw [hg]; exact ⟨k, v, rfl, hk, rfl, by simp [upd]⟩
    · have m1 : e ∈ es.toList := List.mem_of_getElem? hi
      obtain ⟨k', v', r1, r2, r3, r4⟩ := h1 e m1
      refine ⟨k', v', r1, r2, r3, ?_⟩
      unfold upd
      split
      · rename_i ek
        subst ek
        have ee := Stamped.entry hs m1 m0 (r1.trans he.symm)
        subst ee
        have hp := List.pairwise_iff_getElem.1 hs.2.2
        obtain ⟨hi1, hi2⟩ := List.getElem?_eq_some_iff.1 hi
        obtain ⟨hj1, hj2⟩ := List.getElem?_eq_some_iff.1 hj
        rcases Nat.lt_trichotomy i j with h3 | h3 | h3
        · exact (hp i j (by simpa using hi1) (by simpa using hj1) h3 (by simp only [List.getElem_map, hi2, hj2])).elim
        · exact absurd h3 hne
        · exact (hp j i (by simpa using hj1) (by simpa using hi1) h3 (by simp only [List.getElem_map, hi2, hj2])).elim
      · exact r4
  · obtain ⟨mk1, mk2⟩ := mem_modify_mk hj g
    unfold upd at hu
    split at hu
    · rename_i ek
      subst ek
      injection hu with hu
      subst hu
      exact ⟨_, mk1, by rw [hg], by rw [hg]⟩
    · rename_i ek
      obtain ⟨e, m1, r1, r2⟩ := h2 k' v' hu
      obtain ⟨i, hi⟩ := List.getElem?_of_mem m1
      refine ⟨e, mk2 i e (fun e5 => ?_) hi, r1, r2⟩
      subst e5
      rw [hj] at hi
      injection hi with hi
      subst hi
      rw [he] at r1
      injection r1 with _ r1
      exact ek r1.symm
/-- 'm[k] = v'. -/
theorem MapU.put (h : MapU w b f) {k : Int} (hk : i64ok k) (v : Int) (T : TypeId) (hT : Try.prog.underlying T = some (.map 3 22)) :
    ∃ w', (Instr.mapUpdate T (.map (some b)) (.int .i64 k) (.int .u64 v)).run Try.prog w = .ok () w' ∧ MapU w' b (upd f k v) ∧ w.grownBy w' (some b) := by
  obtain ⟨es, clock, hb, hs, h1, h2⟩ := h
  rcases key_law.find w (key_int hk) es.toList (keys_ofU h1) with ⟨e1, e2⟩ | ⟨j, e0, e1, e2, e3⟩
  · refine ⟨setBlock w b (.map (es.push ⟨.int .i64 k, .int .u64 v, clock⟩) (clock + 1)), ?_, ⟨_, _, heap_setBlock_same hb _, stamped_push hs e2, ?_, ?_⟩, grown_setBlock w hb _⟩
    · simp [Instr.mapUpdate, run_underlying hT, MapKept.run_getObj_map hb, check_int w hk, e1, MapKept.run_setObj_map _ hb, Result.andThen, setBlock]
    · intro e he
      simp only [Array.toList_push, List.mem_append, List.mem_singleton] at he
      rcases he with he | rfl
      · obtain ⟨k', v', r1, r2, r3, r4⟩ := h1 e he
        refine ⟨k', v', r1, r2, r3, ?_⟩
        unfold upd
        rw [if_neg (fun e5 => e2 e he (by rw [r1, e5]))]
        exact r4
      · exact ⟨k, v, rfl, hk, rfl, by simp [upd]⟩
    · intro k' v' hu
      unfold upd at hu
      split at hu
      · rename_i ek
        subst ek
        injection hu with hu
        subst hu
        exact ⟨_, by simp; right; rfl, rfl, rfl⟩
      · obtain ⟨e, m1, r1, r2⟩ := h2 k' v' hu
        exact ⟨e, by simp [Array.toList_push]; left; simpa using m1, r1, r2⟩
  · have hj : es[j]? = some e0 := by simpa using e2
    obtain ⟨t1, t2⟩ := told_modifyU hs h1 h2 e2 hk e3 v (fun e' => { e' with key := .int .i64 k, val := .int .u64 v }) (by simp)
    refine ⟨setBlock w b (.map (es.modify j (fun e' => { e' with key := .int .i64 k, val := .int .u64 v })) clock), ?_, ⟨_, _, heap_setBlock_same hb _, stamped_modify hs j _ (fun _ _ => rfl) (fun e _ he => ?_), t1, t2⟩, grown_setBlock w hb _⟩
    · simp [Instr.mapUpdate, run_underlying hT, MapKept.run_getObj_map hb, check_int w hk, e1, hj, e3, key_law.stays w (key_int hk), MapKept.run_setObj_map _ hb, Result.andThen, setBlock]
    · rw [hj] at he; injection he with he; subst he; exact e3.symm
/-- 'delete(m, k)'. -/
theorem MapU.del (h : MapU w b f) {k : Int} (hk : i64ok k) (T ty : TypeId) (hT : Try.prog.underlying T = some (.map 3 22)) :
    ∃ w', (Builtin.delete_ #[T, 3] ty #[.map (some b), .int .i64 k]).run Try.prog w = .ok (.tuple #[]) w' ∧ MapU w' b (off f k) ∧ w.grownBy w' (some b) := by
  obtain ⟨es, clock, hb, hs, h1, h2⟩ := h
  rcases key_law.find w (key_int hk) es.toList (keys_ofU h1) with ⟨e1, e2⟩ | ⟨j, e0, e1, e2, e3⟩
  · refine ⟨setBlock w b (.map es clock), ?_, ⟨es, clock, heap_setBlock_same hb _, hs, fun e he => ?_, fun k' v' hu => ?_⟩, grown_setBlock w hb _⟩
    · simp [Builtin.delete_, run_underlying hT, MapKept.run_getObj_map hb, check_int w hk, e1, MapKept.run_setObj_map _ hb, Result.andThen, setBlock]
    · obtain ⟨k', v', r1, r2, r3, r4⟩ := h1 e he
      refine ⟨k', v', r1, r2, r3, ?_⟩
      unfold off
      rw [if_neg (fun e5 => e2 e he (by rw [r1, e5]))]
      exact r4
    · unfold off at hu
      split at hu
      · cases hu
      · exact h2 k' v' hu
  · have hjl : j < es.toList.length := (List.getElem?_eq_some_iff.1 e2).1
    have hjs : j < es.size := by simpa using hjl
    have hsub : (es.eraseIdxIfInBounds j).toList = es.toList.eraseIdx j := by
      unfold Array.eraseIdxIfInBounds
      rw [dif_pos hjs]
      simp
    refine ⟨setBlock w b (.map (es.eraseIdxIfInBounds j) clock), ?_, ⟨_, _, heap_setBlock_same hb _, stamped_erase hs j, fun e he => ?_, fun k' v' hu => ?_⟩, grown_setBlock w hb _⟩
    · simp [Builtin.delete_, run_underlying hT, MapKept.run_getObj_map hb, check_int w hk, e1, MapKept.run_setObj_map _ hb, Result.andThen, setBlock]
    · rw [hsub] at he
      obtain ⟨i, hne, hi⟩ := List.mem_eraseIdx_iff_getElem?.1 he
      have m1 : e ∈ es.toList := List.mem_of_getElem? hi
      obtain ⟨k', v', r1, r2, r3, r4⟩ := h1 e m1
      refine ⟨k', v', r1, r2, r3, ?_⟩
      unfold off
      split
      · rename_i ek
        subst ek
        have hp := List.pairwise_iff_getElem.1 hs.2.2
        obtain ⟨hi1, hi2⟩ := List.getElem?_eq_some_iff.1 hi
        obtain ⟨hj1, hj2⟩ := List.getElem?_eq_some_iff.1 e2
        rcases Nat.lt_trichotomy i j with h3 | h3 | h3
        · exact (hp i j (by simpa using hi1) (by simpa using hj1) h3 (by simp only [List.getElem_map, hi2, hj2, r1, e3])).elim
        · exact absurd h3 hne
        · exact (hp j i (by simpa using hj1) (by simpa using hi1) h3 (by simp only [List.getElem_map, hi2, hj2, r1, e3])).elim
      · exact r4
    · unfold off at hu
      split at hu
      · cases hu
      · rename_i ek
        obtain ⟨e, m1, r1, r2⟩ := h2 k' v' hu
        obtain ⟨i, hi⟩ := List.getElem?_of_mem m1
        refine ⟨e, ?_, r1, r2⟩
        rw [hsub]
        refine List.mem_eraseIdx_iff_getElem?.2 ⟨i, fun e5 => ?_, hi⟩
        subst e5
        rw [e2] at hi
        injection hi with hi
        subst hi
        rw [e3] at r1
        injection r1 with _ r1
        exact ek r1.symm
end
end Go.Proofs.Ytklolepmmabijaa

namespace Go.Proofs.Ytklolepmmabijaa
set_option maxRecDepth 100000
open Go.RowKit Go.ChangeMaps Go.MapKept
set_option linter.unusedVariables false
set_option linter.unusedSimpArgs false

/-- A cell that was there stays. -/
theorem Only.stay {w w' : World} (h : Only [] w w') {p : Addr} {v : Value} (hc : w.cell? p = some v) : w'.cell? p = some v := by
  rw [h.cell (World.block_lt_of_cell? w p hc) (by simp)]; exact hc
set_option maxHeartbeats 400000 in
/-- tag.Ahead: only new blocks behind it. -/
theorem ahead_only (x y : It) (w : World) :
    Calls Try.prog 51 #[.agg #[.int .u64 x.k, .int .i64 x.i], .agg #[.int .u64 y.k, .int .i64 y.i]] w fun e w' => e = .returned (.bool (x.lt y)) ∧ Only [] w w' := by
  unfold It.lt
  by_cases h : x.k = y.k
  · rw [h, ahead_same]
    go_enter Try.func51, Try.ntmps51
    go_wp2
    go_ret
    exact ⟨rfl, ((Only.refl _ _).alloc _).alloc _⟩
  · rw [ahead_not _ _ h]
    have t : (x.k != y.k) = true := by simp; omega
    go_enter Try.func51, Try.ntmps51
    go_wp2
    go_ret
    exact ⟨rfl, ((Only.refl _ _).alloc _).alloc _⟩
/-- Where an ID stands. -/
def fOf (xs : List It) (id : Int) : Option Int := (xs.findIdx? (fun x => x.i == id)).map Int.ofNat
theorem fOf_iff {xs : List It} (h : Ids xs) (id v : Int) : fOf xs id = some v ↔ ∃ k : Nat, k < xs.length ∧ (gOf xs k).i = id ∧ v = k := by
  unfold fOf
  rw [Option.map_eq_some_iff]
  constructor
  · rintro ⟨k, hk, rfl⟩
    obtain ⟨hl, hp, _⟩ := List.findIdx?_eq_some_iff_getElem.1 hk
    exact ⟨k, hl, by rw [gOf_get hl]; simpa using hp, rfl⟩
  · rintro ⟨k, hl, he, rfl⟩
    refine ⟨k, List.findIdx?_eq_some_iff_getElem.2 ⟨hl, by rw [gOf_get hl] at he; simpa using he, fun j hj => ?_⟩, rfl⟩
    intro hc
    have := h.place (a := j) (b := k) (by omega) hl (by rw [gOf_get (by omega : j < xs.length)]; rw [he]; simpa using hc)
    omega
theorem fOf_none {xs : List It} (id : Int) : fOf xs id = none ↔ ∀ x ∈ xs, x.i ≠ id := by
  unfold fOf
  simp
theorem opt_ext {a b : Option Int} (h : ∀ v, a = some v ↔ b = some v) : a = b := by
  rcases a with _ | a
  · rcases b with _ | b
    · rfl
    · exact absurd ((h b).2 rfl) (by simp)
  · exact ((h a).1 rfl).symm
/-- From w to w': of what was there only S has turned; S' is S, or new. -/
def Moved (w : World) (S : List Nat) (w' : World) (S' : List Nat) : Prop := Only S w w' ∧ ∀ b ∈ S', b ∈ S ∨ w.heap.size ≤ b
theorem Moved.refl (w : World) (S : List Nat) : Moved w S w S := ⟨Only.refl _ _, fun _ h => .inl h⟩
theorem Moved.trans {w w1 w2 : World} {S S1 S2 : List Nat} (h : Moved w S w1 S1) (h2 : Moved w1 S1 w2 S2) : Moved w S w2 S2 :=
  ⟨h.1.trans h2.1 h.2, fun b hb => by
    rcases h2.2 b hb with h3 | h3
    · exact h.2 b h3
    · exact .inr (Nat.le_trans h.1.size h3)⟩
theorem Moved.still {w w1 w2 : World} {S S1 : List Nat} (h : Moved w S w1 S1) (h2 : Only [] w1 w2) : Moved w S w2 S1 := ⟨h.1.trans h2 (by simp), h.2⟩
theorem Moved.of_only {w w1 : World} {S : List Nat} (h : Only [] w w1) : Moved w S w1 S := (Moved.refl w S).still h
/-- Is there an item with that ID? -/
def hasId (id : Int) (l : List It) : Bool := l.any (fun x => x.i == id)
theorem hasId_iff (id : Int) (l : List It) : hasId id l = true ↔ ∃ x ∈ l, x.i = id := by simp [hasId]
theorem hasId_not (id : Int) (l : List It) : hasId id l = false ↔ ∀ x ∈ l, x.i ≠ id := by simp [hasId]
theorem hasId_perm {l m : List It} (id : Int) (h : l.Perm m) : hasId id l = hasId id m := by
  rw [Bool.eq_iff_iff, hasId_iff, hasId_iff]
  exact ⟨fun ⟨x, hx, e⟩ => ⟨x, h.subset hx, e⟩, fun ⟨x, hx, e⟩ => ⟨x, h.symm.subset hx, e⟩⟩
theorem fOf_has (xs : List It) (id : Int) : (fOf xs id).isSome = hasId id xs := by
  rcases h : hasId id xs with _ | _
  · rw [(fOf_none id).2 ((hasId_not _ _).1 h)]; rfl
  · rcases h2 : fOf xs id with _ | q
    · obtain ⟨x, hx, e⟩ := (hasId_iff _ _).1 h
      exact absurd e ((fOf_none id).1 h2 x hx)
    · rfl
/-- The first one; an item of noughts if there is none. -/
def first (l : List It) : It := l.headD ⟨0, 0⟩
theorem first_gOf {l : List It} (h : 0 < l.length) : first l = gOf l 0 := by
  cases l with
  | nil => simp at h
  | cons x l => rfl
theorem own_item_blk {W : World} {v : Value} {xs : List It} (h : RowIs W v xs) {g : Nat} (hg : v.ownBlock = some g) : ∃ cur, W.heap[g]? = some (.cells cur 77 (0, 0)) := by
  rcases h.2 with ⟨rfl, _⟩ | ⟨g', cap, cur, rfl, h0, hb, r⟩
  · cases hg
  · have : g' = g := by simpa [Value.ownBlock] using hg
    subst this
    exact ⟨cur, hb⟩
theorem results_cell1 {fn : Func} {p : Tmp} {ty : TypeId} (h : fn.results = #[.cell p ty]) (tmps : Array Value) (P : Program) (w : World) :
    (results fn tmps).run P w = ((asAddr (tmps.getD p undef)).run P w).andThen fun a w₁ => ((loadVar ty a).run P w₁).andThen fun v w₂ => .ok v w₂ := by
  simp only [results, h]
  simp [Sem.run_bind, Result.andThen]
  split
  · split <;> assumption
  · rfl
/-- A block that holds one item. -/
def Box (w : World) (b : Nat) (x : It) : Prop := w.heap[b]? = some (.cells #[.int .u64 x.k, .int .i64 x.i] 77 (0, 0))
theorem Box.c0 {w : World} {b : Nat} {x : It} (h : Box w b x) : w.cell? ⟨b, 0, none⟩ = some (.int .u64 x.k) := by rw [cell_of_row w b 0 _ _ _ h]; rfl
theorem Box.c1 {w : World} {b : Nat} {x : It} (h : Box w b x) : w.cell? ⟨b, 1, none⟩ = some (.int .i64 x.i) := by rw [cell_of_row w b 1 _ _ _ h]; rfl
theorem Box.fr {w : World} {b : Nat} {x : It} (h : Box w b x) (i : Nat) : w.frozen? ⟨b, i, none⟩ = false := by unfold Box at h; simp [World.frozen?, h]
theorem Box.lt {w : World} {b : Nat} {x : It} (h : Box w b x) : b < w.heap.size := (Array.getElem?_eq_some_iff.1 h).1
theorem Box.only {w w' : World} {b : Nat} {x : It} {S : List Nat} (h : Box w b x) (ho : Only S w w') (hS : b ∉ S) : Box w' b x := ho.get h hS
theorem Box.new (w : World) (x : It) : Box (w.alloc (.cells #[.int .u64 x.k, .int .i64 x.i] 77)) w.heap.size x := heap_alloc_new w _
theorem eraseIdx_perm {xs : List It} {i : Nat} (hi : i < xs.length) : xs.Perm (gOf xs i :: xs.eraseIdx i) := by
  rw [gOf_get hi]
  have e := List.take_append_drop i xs
  have e2 : xs.eraseIdx i = xs.take i ++ xs.drop (i + 1) := List.eraseIdx_eq_take_drop_succ xs i
  rw [e2]
  have e3 : xs.drop i = xs[i] :: xs.drop (i + 1) := List.drop_eq_getElem_cons hi
  conv => lhs; rw [← e, e3]
  exact List.perm_middle
/-- The item with that ID. -/
def findId (id : Int) (l : List It) : Option It := l.find? (fun x => x.i == id)
def dropId (id : Int) (l : List It) : List It := l.eraseP (fun x => x.i == id)
theorem dropId_perm {xs l : List It} (hp : xs.Perm l) (hi : Ids xs) {k : Nat} (hk : k < xs.length) {id : Int} (he : (gOf xs k).i = id) : (xs.eraseIdx k).Perm (dropId id l) ∧ findId id l = some (gOf xs k) := by
  have h1 := eraseIdx_perm hk
  have hm : gOf xs k ∈ l := hp.subset (by rw [gOf_get hk]; exact List.getElem_mem _)
  obtain ⟨a, l1, l2, h2, h3, h4, h5⟩ := List.exists_of_eraseP (p := fun x : It => x.i == id) hm (by simpa using he)
  have ea : a = gOf xs k := (hi.perm hp).eq (by rw [h4]; simp) hm (by rw [he]; simpa using h3)
  have h6 : l.Perm (a :: dropId id l) := by
    unfold dropId
    rw [h5]
    conv => lhs; rw [h4]
    exact List.perm_middle
  refine ⟨(h1.symm.trans (hp.trans (ea ▸ h6))).cons_inv, ?_⟩
  unfold findId
  rw [h4, List.find?_append]
  have : l1.find? (fun x : It => x.i == id) = none := List.find?_eq_none.2 (fun x hx => h2 x hx)
  rw [this]
  simp [h3, ← ea]
theorem dropId_rises {l : List It} (h : Rises l) (id : Int) : Rises (dropId id l) := List.Pairwise.sublist List.eraseP_sublist h
theorem dropId_none {l : List It} {id : Int} (h : hasId id l = false) : dropId id l = l ∧ findId id l = none := by
  have hn := (hasId_not _ _).1 h
  exact ⟨List.eraseP_of_forall_not (fun x hx => by simpa using hn x hx), List.find?_eq_none.2 (fun x hx => by simpa using hn x hx)⟩
section
variable {w : World} {ops : Array Oper} {o : Oper} {a : Act} {Q : Exit → Act → World → Prop}
end
end Go.Proofs.Ytklolepmmabijaa
