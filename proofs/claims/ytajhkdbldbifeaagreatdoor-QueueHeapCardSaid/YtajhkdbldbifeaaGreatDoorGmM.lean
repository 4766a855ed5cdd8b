/-
  Plain arithmetic on words, with nothing of the program in it: sums and products held at the greatest word, and the product by halves.
  Plain lists, for the heap: items and their order, heaps as lists, what moving an item up or down leaves, lists that rise. No program, no world.
  Plain lists, for the tournament: who wins among leaves, the better of two, the tree whose nodes tell that, and what putting a leaf anew leaves. No program, no world.
  Plain arithmetic of bitmaps of 64 bits (which bits are set, the next one, the last one, how many), with nothing of the program in it.
  Plain words for the wheel, nothing of the program in them: levels and buckets of keys over a base, a list parted by place, what an item pushed, taken out, and a base moved do to the parts.
-/
import Derived.WalkKit
import Derived.Laws.MathBits
import Derived.Laws.BitsAllLaws
import Derived.Lib.TrailingZeros
namespace Go.Proofs.YtajhkdbldbifeaaGreatDoor
set_option maxRecDepth 100000
set_option linter.unusedVariables false

/-- A word's sum and product, held at the greatest word. -/
def addM (a b : Int) : Int := if a + b ≤ 18446744073709551615 then a + b else 18446744073709551615
def mulM (a b : Int) : Int := if a * b ≤ 18446744073709551615 then a * b else 18446744073709551615

theorem mul_le {a b c d : Int} (h0 : 0 ≤ a) (h1 : a ≤ c) (h2 : 0 ≤ b) (h3 : b ≤ d) : a * b ≤ c * d :=
  Int.mul_le_mul h1 h3 h2 (by omega)

theorem half (a : Int) (ha : 0 ≤ a) (ha1 : a ≤ 18446744073709551615) :
    0 ≤ a / 4294967296 ∧ a / 4294967296 ≤ 4294967295 ∧ 0 ≤ a % 4294967296 ∧ a % 4294967296 ≤ 4294967295 ∧ a = a / 4294967296 * 4294967296 + a % 4294967296 := by
  omega

theorem prod_half {x y : Int} (h0 : 0 ≤ x) (h1 : x ≤ 4294967295) (h2 : 0 ≤ y) (h3 : y ≤ 4294967295) : 0 ≤ x * y ∧ x * y ≤ 18446744065119617025 :=
  ⟨Int.mul_nonneg h0 h2, mul_le h0 h1 h2 h3⟩

theorem mul_both {a b : Int} (ha : 4294967296 ≤ a) (hb : 4294967296 ≤ b) : mulM a b = 18446744073709551615 := by
  have h := mul_le (a := 4294967296) (b := 4294967296) (by omega) ha (by omega) hb
  unfold mulM; rw [if_neg]; omega

/-- one high half is 0, the cross product has a high half: over. -/
theorem mul_cross {a b : Int} (ha : 0 ≤ a) (hb : 0 ≤ b) (h : 4294967296 ≤ a * (b / 4294967296)) : mulM a b = 18446744073709551615 := by
  have h1 : a * (b / 4294967296 * 4294967296) ≤ a * b := mul_le ha (Int.le_refl _) (by omega) (by omega)
  rw [← Int.mul_assoc] at h1
  unfold mulM; rw [if_neg]; omega

theorem mul_parts (a b : Int) : a * b = a * (b / 4294967296) * 4294967296 + a * (b % 4294967296) := by
  have h : b = b / 4294967296 * 4294967296 + b % 4294967296 := by omega
  have : a * b = a * (b / 4294967296 * 4294967296 + b % 4294967296) := by rw [← h]
  rw [this, Int.mul_add, Int.mul_assoc]

theorem mul_comm (a b : Int) : mulM a b = mulM b a := by unfold mulM; rw [Int.mul_comm]

theorem mul_sum {a b : Int} : addM (a * (b / 4294967296) * 4294967296) (a * (b % 4294967296)) = mulM a b := by
  unfold addM mulM; rw [← mul_parts]

theorem add_word {a b : Int} (ha : 0 ≤ a) (hb : 0 ≤ b) : 0 ≤ addM a b ∧ addM a b ≤ 18446744073709551615 := by unfold addM; split <;> omega
theorem mul_word {a b : Int} (ha : 0 ≤ a) (hb : 0 ≤ b) : 0 ≤ mulM a b ∧ mulM a b ≤ 18446744073709551615 := by
  have := Int.mul_nonneg ha hb
  unfold mulM; split <;> omega

/-- What a unit costs where there is such a cost; a size that is never below 0; which item is ahead. -/
def invM (u k : Int) : Int := if u / k < 1 then 1 else u / k
def sizeM (s : Int) : Int := if s < 0 then 0 else s
def costM (s r : Int) : Int := mulM (sizeM s) r
def aheadB (k1 i1 k2 i2 : Int) : Bool := decide (k1 < k2 ∨ k1 = k2 ∧ i1 < i2)
theorem inv_ge (u k : Int) : 1 ≤ invM u k := by unfold invM; split <;> omega
theorem inv_one {u : Int} (hu : 1 ≤ u) : invM u 1 = u := by unfold invM; rw [Int.ediv_one, if_neg (by omega)]
theorem inv_le {u k : Int} (hu : 1 ≤ u) : invM u k ≤ u := by
  have := Int.ediv_le_self (a := u) k (by omega)
  unfold invM; split <;> omega
theorem inv_mono {u k l : Int} (hu : 0 ≤ u) (hk : 1 ≤ k) (h : k ≤ l) : invM u l ≤ invM u k := by
  have h2 : u / l ≤ u / k := by
    rw [Int.le_ediv_iff_mul_le (by omega)]
    have h3 := Int.ediv_mul_le u (b := l) (by omega)
    have h4 := mul_le (a := u / l) (b := k) (c := u / l) (d := l) (Int.ediv_nonneg hu (by omega)) (Int.le_refl _) (by omega) h
    omega
  unfold invM; split <;> split <;> omega
theorem size_mono {a b : Int} (h : a ≤ b) : sizeM a ≤ sizeM b := by unfold sizeM; split <;> split <;> omega
theorem size_nn (a : Int) : 0 ≤ sizeM a := by unfold sizeM; split <;> omega
theorem mul_mono {a b c : Int} (ha : 0 ≤ a) (h : a ≤ b) (hc : 0 ≤ c) : mulM a c ≤ mulM b c := by
  have h1 := mul_le (a := a) (b := c) (c := b) (d := c) ha h hc (Int.le_refl _)
  unfold mulM; split <;> split <;> omega
theorem cost_mono {a b r : Int} (h : a ≤ b) (hr : 0 ≤ r) : costM a r ≤ costM b r := mul_mono (size_nn a) (size_mono h) hr
theorem cost_nought {a : Int} (r : Int) (h : a ≤ 0) : costM a r = 0 := by
  unfold costM sizeM mulM
  split
  · simp
  · rw [show a = 0 by omega]; simp
/-- What the walk writes for 'uint(a) % k': a number below k. -/
theorem rem_is (a : Int) (k : Int) (hk : 1 ≤ k) : ∃ x : Int, 0 ≤ x ∧ x < k ∧ (IntKind.u64.wrap a).tmod k = x := by
  have h : 0 ≤ IntKind.u64.wrap a := by simp [IntKind.wrap, IntKind.bits, IntKind.signed]; omega
  rw [Int.tmod_eq_emod_of_nonneg h]
  exact ⟨_, Int.emod_nonneg _ (by omega), Int.emod_lt_of_pos _ (by omega), rfl⟩
theorem ahead_same (k i1 i2 : Int) : aheadB k i1 k i2 = decide (i1 < i2) := by unfold aheadB; simp
theorem ahead_not {k1 k2 : Int} (i1 i2 : Int) (h : ¬ k1 = k2) : aheadB k1 i1 k2 i2 = decide (k1 < k2) := by unfold aheadB; simp [h]

theorem add_comm (a b : Int) : addM a b = addM b a := by unfold addM; rw [Int.add_comm]
theorem add_assoc {a b c : Int} (ha : 0 ≤ a) (hb : 0 ≤ b) (hc : 0 ≤ c) : addM (addM a b) c = addM a (addM b c) := by
  unfold addM; repeat' split
  all_goals omega
theorem add_ge {a b : Int} (ha1 : a ≤ 18446744073709551615) (hb : 0 ≤ b) : a ≤ addM a b := by unfold addM; split <;> omega
theorem mul_top {c : Int} (hc : 1 ≤ c) : mulM 18446744073709551615 c = 18446744073709551615 := by
  unfold mulM
  split
  · omega
  · rfl
theorem mul_zero (a : Int) : mulM a 0 = 0 := by simp [mulM]
theorem zero_mul (a : Int) : mulM 0 a = 0 := by simp [mulM]
theorem mul_big {a b : Int} (h : 18446744073709551615 < a * b) : mulM a b = 18446744073709551615 := by unfold mulM; rw [if_neg (by omega)]
theorem mul_small {a b : Int} (h : a * b ≤ 18446744073709551615) : mulM a b = a * b := by unfold mulM; rw [if_pos h]
theorem mul_le_one {a b : Int} (ha : 0 ≤ a) (hb : 1 ≤ b) : a ≤ a * b := by
  have := mul_le (a := a) (b := 1) (c := a) (d := b) ha (Int.le_refl _) (by omega) hb
  omega
theorem mul_ge {a b : Int} (ha : 0 ≤ a) (ha1 : a ≤ 18446744073709551615) (hb : 1 ≤ b) : a ≤ mulM a b := by
  have := mul_le_one ha hb
  unfold mulM; split <;> omega
theorem mul_left {a b c : Int} (hb : 0 ≤ b) (hc : 1 ≤ c) (h : 18446744073709551615 < a * b) (ha : 1 ≤ a) : mulM (mulM a b) c = mulM a (mulM b c) := by
  rw [mul_big h, mul_top hc]
  by_cases h2 : b * c ≤ 18446744073709551615
  · rw [mul_small h2, mul_big]
    have h3 := mul_le_one hb hc
    have h4 := mul_le (a := a) (b := b) (c := a) (d := b * c) (by omega) (Int.le_refl _) hb h3
    omega
  · rw [mul_big (a := b) (b := c) (by omega), mul_comm, mul_top ha]
theorem mul_assoc {a b c : Int} (ha : 0 ≤ a) (hb : 0 ≤ b) (hc : 0 ≤ c) : mulM (mulM a b) c = mulM a (mulM b c) := by
  by_cases a0 : a = 0
  · subst a0; rw [zero_mul, zero_mul, zero_mul]
  by_cases c0 : c = 0
  · subst c0; rw [mul_zero, mul_zero, mul_zero]
  by_cases h1 : a * b ≤ 18446744073709551615
  · by_cases h2 : b * c ≤ 18446744073709551615
    · rw [mul_small h1, mul_small h2]; unfold mulM; rw [Int.mul_assoc]
    · have h := mul_left (a := c) (b := b) (c := a) hb (by omega) (by rw [Int.mul_comm]; omega) (by omega)
      rw [mul_comm (mulM a b) c, mul_comm a b, ← h, mul_comm c b, mul_comm (mulM b c) a]
  · exact mul_left hb (by omega) (by omega) (by omega)
/-- The greatest factor whose product with b is a word, and the next one. -/
theorem quo_fits {b : Int} (hb : 1 ≤ b) : 0 ≤ 18446744073709551615 / b ∧ 0 ≤ 18446744073709551615 / b * b ∧ 18446744073709551615 / b * b ≤ 18446744073709551615 ∧ 18446744073709551615 < (18446744073709551615 / b + 1) * b := by
  have h0 : 0 ≤ 18446744073709551615 / b := Int.ediv_nonneg (by omega) (by omega)
  have h1 := Int.ediv_mul_le 18446744073709551615 (b := b) (by omega)
  have h2 := Int.lt_ediv_add_one_mul_self 18446744073709551615 (b := b) (by omega)
  exact ⟨h0, Int.mul_nonneg h0 (by omega), h1, h2⟩
theorem quo_half {b : Int} (hb : 2 ≤ b) : 18446744073709551615 / b ≤ 9223372036854775807 := by
  have h1 := quo_fits (b := b) (by omega)
  have h2 := mul_le (a := 18446744073709551615 / b) (b := 2) (c := 18446744073709551615 / b) (d := b) h1.1 (Int.le_refl _) (by omega) hb
  omega
end Go.Proofs.YtajhkdbldbifeaaGreatDoor

namespace Go.Proofs.YtajhkdbldbifeaaGreatDoor
set_option maxRecDepth 100000
set_option linter.unusedVariables false

/-- An item: its key, its ID. -/
structure It where
  k : Int
  i : Int
deriving DecidableEq, Inhabited

def It.lt (x y : It) : Bool := aheadB x.k x.i y.k y.i
theorem It.lt_iff (x y : It) : x.lt y = true ↔ (x.k < y.k ∨ x.k = y.k ∧ x.i < y.i) := by simp [It.lt, aheadB]
theorem It.irrefl (x : It) : x.lt x = false := by
  rcases h : x.lt x with _ | _
  · rfl
  · rw [It.lt_iff] at h; omega
theorem It.trans {x y z : It} (h : x.lt y = true) (h2 : y.lt z = true) : x.lt z = true := by
  rw [It.lt_iff] at *; omega
theorem It.eq_of {x y : It} (h : x.lt y = false) (h2 : y.lt x = false) : x = y := by
  have a : ¬ (x.lt y = true) := by simp [h]
  have b : ¬ (y.lt x = true) := by simp [h2]
  rw [It.lt_iff] at a b
  obtain ⟨k, i⟩ := x
  obtain ⟨k', i'⟩ := y
  simp only [It.mk.injEq]
  simp only at a b
  omega
/-- No item ahead: x may stand ahead of y. -/
def It.le (x y : It) : Prop := y.lt x = false
theorem It.le_refl (x : It) : x.le x := It.irrefl x
theorem It.le_of_lt {x y : It} (h : x.lt y = true) : x.le y := by
  rcases h2 : y.lt x with _ | _
  · exact h2
  · have := It.trans h h2; rw [It.irrefl] at this; cases this
theorem It.le_trans {x y z : It} (h : x.le y) (h2 : y.le z) : x.le z := by
  have a : ¬ (y.lt x = true) := by simp [show y.lt x = false from h]
  have b : ¬ (z.lt y = true) := by simp [show z.lt y = false from h2]
  rcases h3 : z.lt x with _ | _
  · exact h3
  · rw [It.lt_iff] at *; omega
theorem It.lt_of_le_ne {x y : It} (h : x.le y) (hne : x ≠ y) : x.lt y = true := by
  rcases h2 : x.lt y with _ | _
  · exact absurd (It.eq_of h2 h) hne
  · rfl
theorem It.le_of_not {x y : It} (h : ¬ (y.lt x = true)) : x.le y := by simpa [It.le] using h

/-! ### heaps, as functions from places -/
/-- All is in order but what touches place i; what hangs below i may stand below what is above i. -/
def HInv (g : Nat → It) (n i : Nat) : Prop :=
  (∀ k, 0 < k → k < n → k ≠ i → (k - 1) / 2 ≠ i → (g ((k - 1) / 2)).le (g k)) ∧ ∀ c, 0 < c → c < n → (c - 1) / 2 = i → 0 < i → (g ((i - 1) / 2)).le (g c)
/-- What hangs below i stands rightly below it. -/
def HKids (g : Nat → It) (n i : Nat) : Prop := ∀ c, 0 < c → c < n → (c - 1) / 2 = i → (g i).le (g c)
/-- i stands rightly below what is above it. -/
def HUp (g : Nat → It) (i : Nat) : Prop := 0 < i → (g ((i - 1) / 2)).le (g i)
def IsHeap (g : Nat → It) (n : Nat) : Prop := ∀ k, 0 < k → k < n → (g ((k - 1) / 2)).le (g k)

theorem IsHeap.of {g : Nat → It} {n i : Nat} (h : HInv g n i) (hk : HKids g n i) (hu : HUp g i) : IsHeap g n := by
  intro k hk0 hkn
  by_cases e : k = i
  · subst e; exact hu hk0
  · by_cases e2 : (k - 1) / 2 = i
    · subst e2; exact hk k hk0 hkn rfl
    · exact h.1 k hk0 hkn e e2
/-- A heap, one place of which holds something else now. -/
theorem HInv.of_heap {g g' : Nat → It} {n i : Nat} (h : IsHeap g n) (hg : ∀ k, k < n → k ≠ i → g' k = g k) : HInv g' n i := by
  refine ⟨fun k hk0 hkn hki hpi => ?_, fun c hc0 hcn hci hi0 => ?_⟩
  · rw [hg k hkn hki, hg _ (by omega) hpi]; exact h k hk0 hkn
  · rw [hg c hcn (by omega), hg _ (by omega) (by omega)]
    have h1 := h c hc0 hcn
    rw [hci] at h1
    exact It.le_trans (h i hi0 (by omega)) h1
theorem IsHeap.mono {g : Nat → It} {n m : Nat} (h : IsHeap g n) (hm : m ≤ n) : IsHeap g m := fun k h0 hk => h k h0 (by omega)

def swf (g : Nat → It) (i j : Nat) : Nat → It := fun k => if k = j then g i else if k = i then g j else g k

theorem HInv.up {g : Nat → It} {n i : Nat} (h : HInv g n i) (hi : 0 < i) (hin : i < n) (hlt : (g i).lt (g ((i - 1) / 2)) = true) : HInv (swf g i ((i - 1) / 2)) n ((i - 1) / 2) := by
  have hp : (i - 1) / 2 < i := by omega
  refine ⟨fun k hk0 hkn hkp hpp => ?_, fun c hc0 hcn hcp hp0 => ?_⟩
  · have hki : k ≠ i := fun e => hpp (by rw [e])
    unfold swf
    rw [if_neg hkp, if_neg hki, if_neg hpp]
    by_cases e : (k - 1) / 2 = i
    · rw [if_pos e]; exact h.2 k hk0 hkn e hi
    · rw [if_neg e]; exact h.1 k hk0 hkn hki e
  · unfold swf
    rw [if_neg (by omega : ((i - 1) / 2 - 1) / 2 ≠ (i - 1) / 2), if_neg (by omega : ((i - 1) / 2 - 1) / 2 ≠ i), if_neg (by omega : c ≠ (i - 1) / 2)]
    have h1 := h.1 ((i - 1) / 2) hp0 (by omega) (by omega) (by omega)
    by_cases e : c = i
    · rw [if_pos e]; exact h1
    · rw [if_neg e]
      have h2 := h.1 c hc0 hcn e (by omega)
      rw [hcp] at h2
      exact It.le_trans h1 h2
theorem HKids.up {g : Nat → It} {n i : Nat} (h : HInv g n i) (hi : 0 < i) (hin : i < n) (hlt : (g i).lt (g ((i - 1) / 2)) = true) : HKids (swf g i ((i - 1) / 2)) n ((i - 1) / 2) := by
  intro c hc0 hcn hcp
  unfold swf
  rw [if_pos rfl, if_neg (by omega : c ≠ (i - 1) / 2)]
  by_cases e : c = i
  · rw [if_pos e]; exact It.le_of_lt hlt
  · rw [if_neg e]
    have h2 := h.1 c hc0 hcn e (by omega)
    rw [hcp] at h2
    exact It.le_trans (It.le_of_lt hlt) h2
/-- Down: c is the first of i's children, and ahead of i. -/
theorem HInv.down {g : Nat → It} {n i c : Nat} (h : HInv g n i) (hu : HUp g i) (hc0 : 0 < c) (hcn : c < n) (hci : (c - 1) / 2 = i) (hleast : ∀ d, 0 < d → d < n → (d - 1) / 2 = i → (g c).le (g d)) (hlt : (g c).lt (g i) = true) :
    HInv (swf g i c) n c ∧ HUp (swf g i c) c := by
  have hic : i < c := by omega
  refine ⟨⟨fun k hk0 hkn hkc hpc => ?_, fun d hd0 hdn hdc hcp => ?_⟩, fun _ => ?_⟩
  · unfold swf
    rw [if_neg hkc, if_neg hpc]
    by_cases e : k = i
    · subst e
      rw [if_pos rfl, if_neg (by omega)]
      exact h.2 c hc0 hcn hci hk0
    · rw [if_neg e]
      by_cases e2 : (k - 1) / 2 = i
      · rw [if_pos e2]; exact hleast k hk0 hkn e2
      · rw [if_neg e2]; exact h.1 k hk0 hkn e e2
  · unfold swf
    rw [hci, if_neg (by omega), if_pos rfl, if_neg (by omega), if_neg (by omega)]
    have := h.1 d hd0 hdn (by omega) (by omega)
    rw [hdc] at this
    exact this
  · unfold swf
    rw [hci, if_neg (by omega), if_pos rfl, if_pos rfl]
    exact It.le_of_lt hlt
theorem IsHeap.least {g : Nat → It} {n : Nat} (h : IsHeap g n) : ∀ k, k < n → (g 0).le (g k) := by
  intro k
  induction k using Nat.strongRecOn with
  | _ k ih =>
    intro hk
    by_cases e : k = 0
    · subst e; exact It.le_refl _
    · exact It.le_trans (ih ((k - 1) / 2) (by omega) (by omega)) (h k (by omega) hk)

/-! ### lists -/
def gOf (xs : List It) : Nat → It := fun k => xs.getD k default
theorem gOf_get {xs : List It} {k : Nat} (h : k < xs.length) : gOf xs k = xs[k] := by simp [gOf, h]
def swl (xs : List It) (i j : Nat) : List It := (xs.set i (gOf xs j)).set j (gOf xs i)
@[simp] theorem swl_length (xs : List It) (i j : Nat) : (swl xs i j).length = xs.length := by simp [swl]
theorem gOf_set (xs : List It) (i : Nat) (x : It) (hi : i < xs.length) (k : Nat) : gOf (xs.set i x) k = if k = i then x else gOf xs k := by
  unfold gOf
  by_cases e : k = i
  · subst e; simp [hi]
  · rw [if_neg e]
    simp only [List.getD_eq_getElem?_getD]
    rw [List.getElem?_set_ne (by omega)]
theorem gOf_swl (xs : List It) {i j : Nat} (hi : i < xs.length) (hj : j < xs.length) : gOf (swl xs i j) = swf (gOf xs) i j := by
  funext k
  unfold swl swf
  rw [gOf_set _ _ _ (by simpa using hj), gOf_set _ _ _ hi]
theorem swl_perm (xs : List It) {i j : Nat} (hi : i < xs.length) (hj : j < xs.length) : (swl xs i j).Perm xs := by
  have h := Array.swap_perm (xs := xs.toArray) (i := i) (j := j) (by simpa using hi) (by simpa using hj)
  have h2 := Array.perm_iff_toList_perm.1 h
  have e : (xs.toArray.swap i j (by simpa using hi) (by simpa using hj)).toList = swl xs i j := by
    rw [Array.toList_swap]
    simp [swl, gOf_get hi, gOf_get hj]
  rw [e] at h2
  simpa using h2

/-- Lists that rise: each is ahead of all behind it. -/
def Rises (l : List It) : Prop := l.Pairwise fun x y => x.lt y = true
theorem Rises.eq_of_perm : ∀ {l m : List It}, Rises l → Rises m → l.Perm m → l = m
  | [], m, _, _, h => (List.Perm.nil_eq h)
  | x :: l, [], _, _, h => absurd h.length_eq (by simp)
  | x :: l, y :: m, h1, h2, h => by
    have hx := List.pairwise_cons.1 h1
    have hy := List.pairwise_cons.1 h2
    have e : x = y := by
      have mx : x ∈ y :: m := h.subset (by simp)
      have my : y ∈ x :: l := h.symm.subset (by simp)
      rcases List.mem_cons.1 mx with e | mx
      · exact e
      · rcases List.mem_cons.1 my with e | my
        · exact e.symm
        · have := It.trans (hx.1 y my) (hy.1 x mx)
          rw [It.irrefl] at this; cases this
    subst e
    rw [Rises.eq_of_perm hx.2 hy.2 (List.Perm.cons_inv h)]
theorem Rises.head_least {l : List It} (h : Rises l) (x : It) (hx : x ∈ l) : (gOf l 0).le x := by
  cases l with
  | nil => cases hx
  | cons y l =>
    rcases List.mem_cons.1 hx with e | hx
    · subst e; exact It.le_refl _
    · exact It.le_of_lt ((List.pairwise_cons.1 h).1 x hx)
/-- A heap's first one is the first one of the list that rises. -/
theorem heap_first {xs l : List It} (h : IsHeap (gOf xs) xs.length) (hp : xs.Perm l) (hr : Rises l) (h0 : 0 < xs.length) : gOf xs 0 = gOf l 0 := by
  have hl : 0 < l.length := by rw [← hp.length_eq]; exact h0
  apply It.eq_of
  · have m : gOf xs 0 ∈ l := hp.subset (by rw [gOf_get h0]; exact List.getElem_mem h0)
    rcases h2 : (gOf xs 0).lt (gOf l 0) with _ | _
    · rfl
    · have := hr.head_least _ m
      rw [It.le, h2] at this; cases this
  · have m : gOf l 0 ∈ xs := hp.symm.subset (by rw [gOf_get hl]; exact List.getElem_mem hl)
    obtain ⟨k, hk, e⟩ := List.getElem_of_mem m
    have := h.least k hk
    rw [gOf_get hk, e] at this
    exact this

theorem takeWhile_all (p : It → Bool) : ∀ (l : List It) (x : It), x ∈ l.takeWhile p → p x = true
  | [], _, h => by simp at h
  | y :: l, x, h => by
    rw [List.takeWhile_cons] at h
    split at h
    · rename_i hp
      rcases List.mem_cons.1 h with e | h
      · subst e; exact hp
      · exact takeWhile_all p l x h
    · cases h
theorem dropWhile_head (p : It → Bool) : ∀ (l : List It) (z : It) (r : List It), l.dropWhile p = z :: r → p z = false
  | [], _, _, h => by simp at h
  | y :: l, z, r, h => by
    rw [List.dropWhile_cons] at h
    split at h
    · exact dropWhile_head p l z r h
    · rename_i hp
      injection h with e _
      subst e; simpa using hp
/-- An item put where it belongs. -/
def ins (y : It) (l : List It) : List It := l.takeWhile (fun x => x.lt y) ++ y :: l.dropWhile (fun x => x.lt y)
theorem ins_perm (y : It) (l : List It) : (ins y l).Perm (l ++ [y]) := by
  have e : l.takeWhile (fun x => x.lt y) ++ l.dropWhile (fun x => x.lt y) = l := List.takeWhile_append_dropWhile
  unfold ins
  refine (List.perm_middle).trans ?_
  rw [e]
  exact (List.perm_append_singleton y l).symm
theorem ins_rises {y : It} {l : List It} (h : Rises l) (hy : ∀ x ∈ l, x.i ≠ y.i) : Rises (ins y l) := by
  have e : l.takeWhile (fun x => x.lt y) ++ l.dropWhile (fun x => x.lt y) = l := List.takeWhile_append_dropWhile
  have h' := h
  rw [← e] at h'
  obtain ⟨p1, p2, p3⟩ := List.pairwise_append.1 h'
  have ha : ∀ x ∈ l.takeWhile (fun x => x.lt y), x.lt y = true := fun x hx => by
    exact takeWhile_all _ l x hx
  have hb : ∀ x ∈ l.dropWhile (fun x => x.lt y), y.lt x = true := fun x hx => by
    have hne : l.dropWhile (fun x => x.lt y) ≠ [] := List.ne_nil_of_mem hx
    obtain ⟨z, r, hz⟩ := List.exists_cons_of_ne_nil hne
    have hz0 : z.lt y = false := dropWhile_head (fun x : It => x.lt y) l z r hz
    have hzy : y.lt z = true := by
      refine It.lt_of_le_ne hz0 (fun e2 => hy z ?_ (by rw [e2]))
      exact (List.dropWhile_suffix _).subset (by rw [hz]; simp)
    rw [hz] at hx p2
    rcases List.mem_cons.1 hx with e3 | hx
    · subst e3; exact hzy
    · exact It.trans hzy ((List.pairwise_cons.1 p2).1 x hx)
  refine List.pairwise_append.2 ⟨p1, List.pairwise_cons.2 ⟨hb, p2⟩, fun a ha' b hb' => ?_⟩
  rcases List.mem_cons.1 hb' with e4 | hb'
  · subst e4; exact ha a ha'
  · exact p3 a ha' b hb'

/-- No ID twice. -/
def Ids (l : List It) : Prop := (l.map It.i).Nodup
theorem Ids.perm {l m : List It} (h : Ids l) (hp : l.Perm m) : Ids m := (hp.map It.i).nodup_iff.1 h
theorem Ids.eq {l : List It} (h : Ids l) {x y : It} (hx : x ∈ l) (hy : y ∈ l) (e : x.i = y.i) : x = y := by
  induction l with
  | nil => cases hx
  | cons z l ih =>
    have hn := List.nodup_cons.1 (show ((z :: l).map It.i).Nodup from h)
    rcases List.mem_cons.1 hx with e1 | hx'
    · rcases List.mem_cons.1 hy with e2 | hy'
      · rw [e1, e2]
      · exact absurd (List.mem_map.2 ⟨y, hy', by rw [← e, e1]⟩) hn.1
    · rcases List.mem_cons.1 hy with e2 | hy'
      · exact absurd (List.mem_map.2 ⟨x, hx', by rw [e, e2]⟩) hn.1
      · exact ih hn.2 hx' hy'
theorem Ids.place {l : List It} (h : Ids l) {a b : Nat} (ha : a < l.length) (hb : b < l.length) (e : (gOf l a).i = (gOf l b).i) : a = b := by
  rw [gOf_get ha, gOf_get hb] at e
  have hp := List.pairwise_iff_getElem.1 (show (l.map It.i).Nodup from h)
  rcases Nat.lt_trichotomy a b with h1 | h1 | h1
  · exact (hp a b (by simpa using ha) (by simpa using hb) h1 (by simpa using e)).elim
  · exact h1
  · exact (hp b a (by simpa using hb) (by simpa using ha) h1 (by simpa using e.symm)).elim
end Go.Proofs.YtajhkdbldbifeaaGreatDoor

namespace Go.Proofs.YtajhkdbldbifeaaGreatDoor
set_option maxRecDepth 100000
set_option linter.unusedVariables false

theorem It.lt_le {x y z : It} (h : x.lt y = true) (h2 : y.le z) : x.lt z = true := by
  have b : ¬ (z.lt y = true) := by simp [show z.lt y = false from h2]
  rw [It.lt_iff] at *; omega
theorem It.not_both {x y : It} (h : x.lt y = true) (h2 : y.lt x = true) : False := by
  rw [It.lt_iff] at *; omega

/-- A function turned at one place. -/
def fup {α : Type} (f : Nat → α) (i : Nat) (v : α) : Nat → α := fun k => if k = i then v else f k
theorem fup_same {α : Type} (f : Nat → α) (i : Nat) (v : α) : fup f i v i = v := if_pos rfl
theorem fup_other {α : Type} (f : Nat → α) {i k : Nat} (v : α) (h : k ≠ i) : fup f i v k = f k := if_neg h

/-- The better of two leaves; -1 is none. -/
def bet (g : Nat → It) (a b : Int) : Int := if a = -1 ∨ (b ≠ -1 ∧ (g b.toNat).lt (g a.toNat) = true) then b else a

/-- v wins among the leaves of P: none is ahead of its item, and those of lesser numbers stand behind it. -/
def Wins (P : Nat → Prop) (g : Nat → It) (v : Int) : Prop :=
  (v = -1 ∧ ∀ i, ¬ P i) ∨ ∃ i : Nat, v = i ∧ P i ∧ ∀ j, P j → (g j).lt (g i) = false ∧ (j < i → (g i).lt (g j) = true)

theorem Wins.unique {P : Nat → Prop} {g : Nat → It} {v u : Int} (h : Wins P g v) (h2 : Wins P g u) : v = u := by
  rcases h with ⟨rfl, h⟩ | ⟨i, rfl, hi, h⟩
  · rcases h2 with ⟨rfl, _⟩ | ⟨j, rfl, hj, _⟩
    · rfl
    · exact absurd hj (h j)
  · rcases h2 with ⟨rfl, h2⟩ | ⟨j, rfl, hj, h2⟩
    · exact absurd hi (h2 i)
    · rcases Nat.lt_trichotomy i j with h3 | h3 | h3
      · have a := (h2 i hi).2 h3
        have b := (h j hj).1
        rw [a] at b; cases b
      · rw [h3]
      · have a := (h j hj).2 h3
        have b := (h2 i hi).1
        rw [a] at b; cases b
theorem Wins.congr {P Q : Nat → Prop} {g g' : Nat → It} {v : Int} (h : Wins P g v) (hP : ∀ i, P i ↔ Q i) (hg : ∀ i, P i → g i = g' i) : Wins Q g' v := by
  rcases h with ⟨rfl, h⟩ | ⟨i, rfl, hi, h⟩
  · exact .inl ⟨rfl, fun i hq => h i ((hP i).2 hq)⟩
  · refine .inr ⟨i, rfl, (hP i).1 hi, fun j hj => ?_⟩
    have hj' := (hP j).2 hj
    rw [← hg j hj', ← hg i hi]
    exact h j hj'
theorem Wins.join {P Q : Nat → Prop} {g : Nat → It} {a b : Int} (h : Wins P g a) (h2 : Wins Q g b) (hpq : ∀ i j, P i → Q j → i < j) : Wins (fun i => P i ∨ Q i) g (bet g a b) := by
  rcases h with ⟨rfl, h⟩ | ⟨i, rfl, hi, h⟩
  · have e : bet g (-1) b = b := by simp [bet]
    rw [e]
    exact h2.congr (fun i => ⟨.inr, fun h3 => h3.elim (fun h4 => absurd h4 (h i)) id⟩) (fun _ _ => rfl)
  · rcases h2 with ⟨rfl, h2⟩ | ⟨j, rfl, hj, h2⟩
    · have e : bet g (i : Int) (-1) = i := by simp [bet]
      rw [e]
      refine .inr ⟨i, rfl, .inl hi, fun k hk => ?_⟩
      rcases hk with hk | hk
      · exact h k hk
      · exact absurd hk (h2 k)
    · have hij := hpq i j hi hj
      rcases hl : (g j).lt (g i) with _ | _
      · have e : bet g (i : Int) (j : Int) = i := by
          unfold bet
          rw [if_neg]
          rintro (h3 | h3)
          · omega
          · have h4 := h3.2
            rw [Int.toNat_natCast, Int.toNat_natCast, hl] at h4
            cases h4
        rw [e]
        refine .inr ⟨i, rfl, .inl hi, fun k hk => ?_⟩
        rcases hk with hk | hk
        · exact h k hk
        · refine ⟨?_, fun h3 => absurd (hpq i k hi hk) (by omega)⟩
          exact It.le_trans (show (g i).le (g j) from hl) (show (g j).le (g k) from (h2 k hk).1)
      · have e : bet g (i : Int) (j : Int) = j := by
          unfold bet
          rw [if_pos]
          right
          refine ⟨by omega, ?_⟩
          rw [Int.toNat_natCast, Int.toNat_natCast]
          exact hl
        rw [e]
        refine .inr ⟨j, rfl, .inr hj, fun k hk => ?_⟩
        rcases hk with hk | hk
        · have h3 := It.lt_le hl (show (g i).le (g k) from (h k hk).1)
          exact ⟨It.le_of_lt h3, fun _ => h3⟩
        · exact h2 k hk

/-- The document's way: leaf by leaf. -/
def refBest (P : Nat → Bool) (g : Nat → It) : Nat → Int
  | 0 => -1
  | m + 1 => if P m = true ∧ (refBest P g m < 0 ∨ (g m).lt (g (refBest P g m).toNat) = true) then (m : Int) else refBest P g m
theorem refBest_wins (P : Nat → Bool) (g : Nat → It) : ∀ m, Wins (fun i => i < m ∧ P i = true) g (refBest P g m)
  | 0 => .inl ⟨rfl, fun i h => by omega⟩
  | m + 1 => by
    have ih := refBest_wins P g m
    unfold refBest
    by_cases hp : P m = true
    · have w1 : Wins (fun i => i = m) g (m : Int) := .inr ⟨m, rfl, rfl, fun j hj => by subst hj; exact ⟨It.irrefl _, fun h => by omega⟩⟩
      have hb := Wins.join ih w1 (fun i j h1 h2 => by omega)
      have e : bet g (refBest P g m) (m : Int) = if P m = true ∧ (refBest P g m < 0 ∨ (g m).lt (g (refBest P g m).toNat) = true) then (m : Int) else refBest P g m := by
        unfold bet
        have hr : refBest P g m = -1 ∨ 0 ≤ refBest P g m := by
          rcases ih with ⟨e, _⟩ | ⟨i, e, _⟩ <;> omega
        have e1 : (refBest P g m = -1 ∨ ((m : Int) ≠ -1 ∧ (g (m : Int).toNat).lt (g (refBest P g m).toNat) = true)) ↔ (P m = true ∧ (refBest P g m < 0 ∨ (g m).lt (g (refBest P g m).toNat) = true)) := by
          simp only [Int.toNat_natCast, hp, true_and]
          constructor
          · rintro (h | h)
            · left; omega
            · right; exact h.2
          · rintro (h | h)
            · left; omega
            · right; exact ⟨by omega, h⟩
        by_cases h3 : (P m = true ∧ (refBest P g m < 0 ∨ (g m).lt (g (refBest P g m).toNat) = true))
        · rw [if_pos h3, if_pos (e1.2 h3)]
        · rw [if_neg h3, if_neg (fun h4 => h3 (e1.1 h4))]
      rw [← e]
      refine hb.congr (fun i => ?_) (fun _ _ => rfl)
      constructor
      · rintro (⟨h1, h2⟩ | rfl)
        · exact ⟨by omega, h2⟩
        · exact ⟨by omega, hp⟩
      · rintro ⟨h1, h2⟩
        by_cases h3 : i = m
        · exact .inr h3
        · exact .inl ⟨by omega, h2⟩
    · rw [if_neg (fun h => hp h.1)]
      refine ih.congr (fun i => ⟨fun h => ⟨by omega, h.2⟩, fun h => ⟨?_, h.2⟩⟩) (fun _ _ => rfl)
      have : i ≠ m := fun e => hp (by rw [← e]; exact h.2)
      omega
theorem refBest_range (P : Nat → Bool) (g : Nat → It) (m : Nat) : refBest P g m = -1 ∨ ∃ i : Nat, i < m ∧ P i = true ∧ refBest P g m = i := by
  rcases refBest_wins P g m with ⟨e, _⟩ | ⟨i, e, h, _⟩
  · exact .inl e
  · exact .inr ⟨i, h.1, h.2, e⟩
theorem refBest_congr {P : Nat → Bool} {g g' : Nat → It} {m : Nat} (h : ∀ i, i < m → P i = true → g i = g' i) : refBest P g m = refBest P g' m :=
  Wins.unique ((refBest_wins P g m).congr (fun _ => Iff.rfl) (fun i hi => h i hi.1 hi.2)) (refBest_wins P g' m)

/-! ### the tree -/
/-- Halved till it is no more than k. -/
def upF : Nat → Nat → Nat → Nat
  | 0, n, _ => n
  | f + 1, n, k => if k < n then upF f (n / 2) k else n
def up (n k : Nat) : Nat := upF 6 n k
theorem upF_more : ∀ (f n k : Nat), n < 2 ^ f → upF (f + 1) n k = upF f n k
  | 0, n, k, h => by
    have : n = 0 := by simpa using h
    subst this
    simp [upF]
  | f + 1, n, k, h => by
    have e1 : upF (f + 1 + 1) n k = if k < n then upF (f + 1) (n / 2) k else n := rfl
    have e2 : upF (f + 1) n k = if k < n then upF f (n / 2) k else n := rfl
    rw [e1, e2, upF_more f (n / 2) k (by rw [Nat.pow_succ] at h; omega)]
theorem up_step {n k : Nat} (h : k < n) (hn : n < 64) : up n k = up (n / 2) k := by
  have e1 : up n k = if k < n then upF 5 (n / 2) k else n := rfl
  rw [e1, if_pos h]
  exact (upF_more 5 (n / 2) k (by omega)).symm
theorem up_stop {n k : Nat} (h : ¬ k < n) : up n k = n := by
  have e1 : up n k = if k < n then upF 5 (n / 2) k else n := rfl
  rw [e1, if_neg h]

/-- The size of a tree of n leaves. -/
def sz (n : Nat) : Nat := if n ≤ 1 then 1 else if n ≤ 2 then 2 else if n ≤ 4 then 4 else if n ≤ 8 then 8 else 16
def Sz (s : Nat) : Prop := s = 1 ∨ s = 2 ∨ s = 4 ∨ s = 8 ∨ s = 16
theorem sz_Sz (n : Nat) : Sz (sz n) := by unfold sz Sz; (repeat' split) <;> simp_all
theorem sz_ge {n : Nat} (h : n ≤ 16) : n ≤ sz n := by unfold sz; (repeat' split) <;> omega
theorem Sz.le {s : Nat} (h : Sz s) : 1 ≤ s ∧ s ≤ 16 := by unfold Sz at h; omega
theorem sz_more {n p : Nat} (hn : n ≤ 16) (hp : Sz p) (hl : p ≤ sz n) (h : p < n) : Sz (2 * p) ∧ 2 * p ≤ sz n := by
  have hs : sz n = 1 ∧ n ≤ 1 ∨ sz n = 2 ∧ n ≤ 2 ∨ sz n = 4 ∧ n ≤ 4 ∨ sz n = 8 ∧ n ≤ 8 ∨ sz n = 16 := by unfold sz; (repeat' split) <;> omega
  unfold Sz at *
  omega
theorem sz_done {n p : Nat} (hn : n ≤ 16) (hp : Sz p) (hl : p ≤ sz n) (h : ¬ p < n) : p = sz n := by
  have hs : sz n = 1 ∨ sz n = 2 ∧ 1 < n ∨ sz n = 4 ∧ 2 < n ∨ sz n = 8 ∧ 4 < n ∨ sz n = 16 ∧ 8 < n := by unfold sz; (repeat' split) <;> omega
  unfold Sz at *
  omega

/-- Is leaf i below node k? -/
def under (s k i : Nat) : Bool := up (s + i) k == k

theorem tab_all : ∀ s ∈ [1, 2, 4, 8, 16], ∀ k, k < 16 → ∀ i, i < 16 → 1 ≤ k → k < s → i < s → under s k i = (under s (2 * k) i || under s (2 * k + 1) i) := by decide +kernel
theorem tab_lt : ∀ s ∈ [1, 2, 4, 8, 16], ∀ k, k < 16 → ∀ i, i < 16 → ∀ j, j < 16 → (!(decide (1 ≤ k) && decide (k < s) && under s (2 * k) i && under s (2 * k + 1) j && decide (i < s) && decide (j < s)) || decide (i < j)) = true := by decide +kernel
theorem tab_leaf : ∀ s ∈ [1, 2, 4, 8, 16], ∀ j, j < 16 → ∀ i, i < 16 → j < s → i < s → under s (s + j) i = decide (i = j) := by decide +kernel
theorem tab_root : ∀ s ∈ [1, 2, 4, 8, 16], ∀ i, i < 16 → i < s → under s 1 i = true := by decide +kernel
theorem Sz.mem {s : Nat} (h : Sz s) : s ∈ [1, 2, 4, 8, 16] := by unfold Sz at h; simp; omega
theorem under_kids {s k i : Nat} (h : Sz s) (h1 : 1 ≤ k) (hk : k < s) (hi : i < s) : under s k i = true ↔ under s (2 * k) i = true ∨ under s (2 * k + 1) i = true := by
  have := h.le
  rw [tab_all s h.mem k (by omega) i (by omega) h1 hk hi]
  simp
theorem under_lt {s k i j : Nat} (h : Sz s) (h1 : 1 ≤ k) (hk : k < s) (hi : i < s) (hj : j < s) (a : under s (2 * k) i = true) (b : under s (2 * k + 1) j = true) : i < j := by
  have := h.le
  have t := tab_lt s h.mem k (by omega) i (by omega) j (by omega)
  simpa [h1, hk, hi, hj, a, b] using t
theorem under_leaf {s i j : Nat} (h : Sz s) (hi : i < s) (hj : j < s) : under s (s + j) i = true ↔ i = j := by
  have := h.le
  rw [tab_leaf s h.mem j (by omega) i (by omega) hj hi]
  simp
theorem under_root {s i : Nat} (h : Sz s) (hi : i < s) : under s 1 i = true := by
  have := h.le
  exact tab_root s h.mem i (by omega) hi

/-- The nodes tell who wins: a leaf's node itself, each other one the better of its two; but on the way from k up. -/
structure TreeBut (s n : Nat) (hs : Nat → Bool) (g : Nat → It) (nd : Nat → Int) (k : Nat) : Prop where
  fit : ∀ j, j < 2 * s → nd j = -1 ∨ ∃ i : Nat, i < n ∧ nd j = i
  leaf : ∀ i, i < s → nd (s + i) = if i < n ∧ hs i = true then (i : Int) else -1
  node : ∀ j, 1 ≤ j → j < s → up k j ≠ j → nd j = bet g (nd (2 * j)) (nd (2 * j + 1))
def Tree (s n : Nat) (hs : Nat → Bool) (g : Nat → It) (nd : Nat → Int) : Prop := TreeBut s n hs g nd 0
theorem up_zero (j : Nat) : up 0 j = 0 := up_stop (by omega)

section
variable {s n : Nat} {hs hs' : Nat → Bool} {g g' : Nat → It} {nd : Nat → Int}
theorem Tree.inner (h : Tree s n hs g nd) {j : Nat} (h1 : 1 ≤ j) (hj : j < s) : nd j = bet g (nd (2 * j)) (nd (2 * j + 1)) := h.node j h1 hj (by rw [up_zero]; omega)
theorem Tree.wins (h : Tree s n hs g nd) (hs0 : Sz s) (hn : n ≤ s) : ∀ d k, 2 * s ≤ k + d → 1 ≤ k → k < 2 * s → Wins (fun i => i < n ∧ hs i = true ∧ under s k i = true) g (nd k)
  | 0, k, h0, _, h2 => by omega
  | d + 1, k, h0, h1, h2 => by
    by_cases hk : k < s
    · have a := Tree.wins h hs0 hn d (2 * k) (by omega) (by omega) (by omega)
      have b := Tree.wins h hs0 hn d (2 * k + 1) (by omega) (by omega) (by omega)
      rw [h.inner h1 hk]
      refine (Wins.join a b (fun i j hi hj => under_lt hs0 h1 hk (by omega) (by omega) hi.2.2 hj.2.2)).congr (fun i => ?_) (fun _ _ => rfl)
      constructor
      · rintro (⟨h3, h4, h5⟩ | ⟨h3, h4, h5⟩)
        · exact ⟨h3, h4, (under_kids hs0 h1 hk (by omega)).2 (.inl h5)⟩
        · exact ⟨h3, h4, (under_kids hs0 h1 hk (by omega)).2 (.inr h5)⟩
      · rintro ⟨h3, h4, h5⟩
        rcases (under_kids hs0 h1 hk (by omega)).1 h5 with h6 | h6
        · exact .inl ⟨h3, h4, h6⟩
        · exact .inr ⟨h3, h4, h6⟩
    · obtain ⟨j, rfl⟩ : ∃ j, k = s + j := ⟨k - s, by omega⟩
      rw [h.leaf j (by omega)]
      split
      · rename_i hj
        refine .inr ⟨j, rfl, ⟨hj.1, hj.2, (under_leaf hs0 (by omega) (by omega)).2 rfl⟩, fun i hi => ?_⟩
        have : i = j := (under_leaf hs0 (by omega) (by omega)).1 hi.2.2
        subst this
        exact ⟨It.irrefl _, fun h => by omega⟩
      · rename_i hj
        refine .inl ⟨rfl, fun i hi => hj ?_⟩
        have : i = j := (under_leaf hs0 (by omega) (by omega)).1 hi.2.2
        subst this
        exact ⟨hi.1, hi.2.1⟩
/-- A node tells what the document's search tells. -/
theorem Tree.told (h : Tree s n hs g nd) (hs0 : Sz s) (hn : n ≤ s) {k : Nat} (h1 : 1 ≤ k) (h2 : k < 2 * s) : nd k = refBest (fun i => hs i && under s k i) g n :=
  Wins.unique (h.wins hs0 hn (2 * s) k (by omega) h1 h2) ((refBest_wins _ g n).congr (fun i => by simp) (fun _ _ => rfl))
/-- One leaf put anew: the way up from it is still to be told. -/
theorem Tree.put (h : Tree s n hs g nd) (hs0 : Sz s) (hn : n ≤ s) {i : Nat} (hi : i < n) (b : Bool) (x : It) (v : Int) (hv : v = if b = true then (i : Int) else -1) :
    TreeBut s n (fup hs i b) (fup g i x) (fup nd (s + i) v) ((s + i) / 2) := by
  have hle := hs0.le
  refine ⟨fun j hj => ?_, fun j hj => ?_, fun j h1 hj hup => ?_⟩
  · by_cases e : j = s + i
    · rw [e, fup_same, hv]
      split
      · exact .inr ⟨i, hi, rfl⟩
      · exact .inl rfl
    · rw [fup_other _ _ e]; exact h.fit j hj
  · by_cases e : j = i
    · subst e
      rw [fup_same, fup_same, hv]
      cases b
      · simp
      · simp [hi]
    · rw [fup_other _ _ (by omega : s + j ≠ s + i), fup_other _ _ e]; exact h.leaf j hj
  · have hnu : under s j i = false := by
      unfold under
      rw [up_step (by omega) (by omega)]
      simpa using hup
    have hno : ∀ k, 1 ≤ k → k < 2 * s → (k = 2 * j ∨ k = 2 * j + 1) → nd k ≠ (i : Int) := by
      intro k hk1 hk2 hkj e
      rcases h.wins hs0 hn (2 * s) k (by omega) hk1 hk2 with ⟨e2, _⟩ | ⟨q, e2, hq, _⟩
      · omega
      · have : q = i := by omega
        subst this
        have : under s j q = true := (under_kids hs0 h1 hj (by omega)).2 (by rcases hkj with rfl | rfl; exact .inl hq.2.2; exact .inr hq.2.2)
        rw [this] at hnu; cases hnu
    have n1 := hno (2 * j) (by omega) (by omega) (.inl rfl)
    have n2 := hno (2 * j + 1) (by omega) (by omega) (.inr rfl)
    have hkid : ∀ k, (k = 2 * j ∨ k = 2 * j + 1) → k ≠ s + i := by
      intro k hk e
      have : (s + i) / 2 = j := by omega
      rw [this] at hup
      exact hup (up_stop (by omega))
    rw [fup_other _ _ (by omega : j ≠ s + i), fup_other _ _ (hkid _ (.inl rfl)), fup_other _ _ (hkid _ (.inr rfl)), h.inner h1 hj]
    have f1 : nd (2 * j) = -1 ∨ 0 ≤ nd (2 * j) := by rcases h.fit (2 * j) (by omega) with e | ⟨q, _, e⟩ <;> omega
    have f2 : nd (2 * j + 1) = -1 ∨ 0 ≤ nd (2 * j + 1) := by rcases h.fit (2 * j + 1) (by omega) with e | ⟨q, _, e⟩ <;> omega
    unfold bet
    generalize nd (2 * j) = a at *
    generalize nd (2 * j + 1) = c at *
    have ga : a ≠ -1 → fup g i x a.toNat = g a.toNat := fun h3 => fup_other _ _ (by omega)
    have gc : c ≠ -1 → fup g i x c.toNat = g c.toNat := fun h3 => fup_other _ _ (by omega)
    by_cases ea : a = -1
    · rw [if_pos (.inl ea), if_pos (.inl ea)]
    · by_cases ec : c = -1
      · rw [if_neg (by rintro (h3 | h3); exact ea h3; exact h3.1 ec), if_neg (by rintro (h3 | h3); exact ea h3; exact h3.1 ec)]
      · rw [ga ea, gc ec]
/-- One node on the way told anew. -/
theorem TreeBut.up1 {k : Nat} (h : TreeBut s n hs g nd k) (hs0 : Sz s) (hk : 1 ≤ k) (hks : k < s) : TreeBut s n hs g (fup nd k (bet g (nd (2 * k)) (nd (2 * k + 1)))) (k / 2) := by
  have hle := hs0.le
  refine ⟨fun j hj => ?_, fun j hj => ?_, fun j h1 hj hup => ?_⟩
  · by_cases e : j = k
    · rw [e, fup_same]
      unfold bet
      split
      · exact h.fit _ (by omega)
      · exact h.fit _ (by omega)
    · rw [fup_other _ _ e]; exact h.fit j hj
  · rw [fup_other _ _ (by omega)]; exact h.leaf j hj
  · have hkid : ∀ q, (q = 2 * j ∨ q = 2 * j + 1) → q ≠ k := by
      intro q hq e
      have : k / 2 = j := by omega
      rw [this] at hup
      exact hup (up_stop (by omega))
    rw [fup_other _ _ (hkid _ (.inl rfl)), fup_other _ _ (hkid _ (.inr rfl))]
    by_cases e : j = k
    · rw [e, fup_same]
    · rw [fup_other _ _ e]
      refine h.node j h1 hj ?_
      by_cases hjk : j < k
      · rw [up_step hjk (by omega)]; exact hup
      · rw [up_stop hjk]; omega
/-- No leaf has an item. -/
theorem Tree.empty (hn : ∀ j, nd j = -1) : Tree s n (fun _ => false) g nd :=
  ⟨fun j _ => .inl (hn j), fun i _ => by rw [hn]; simp, fun j _ _ _ => by rw [hn, hn, hn]; simp [bet]⟩
end

/-! ### lists -/
def ndOf (ns : List Int) : Nat → Int := fun k => ns.getD k (-1)
theorem ndOf_set (ns : List Int) (i : Nat) (v : Int) (hi : i < ns.length) : ndOf (ns.set i v) = fup (ndOf ns) i v := by
  funext k
  unfold ndOf fup
  by_cases e : k = i
  · subst e; simp [hi]
  · rw [if_neg e]
    simp only [List.getD_eq_getElem?_getD]
    rw [List.getElem?_set_ne (by omega)]
theorem gOf_fup (xs : List It) (i : Nat) (x : It) (hi : i < xs.length) : gOf (xs.set i x) = fup (gOf xs) i x := by
  funext k
  rw [gOf_set xs i x hi]
  rfl
theorem ndOf_rep (m : Nat) : ∀ j, ndOf (List.replicate m (-1)) j = -1 := fun j => by
  unfold ndOf
  by_cases h : j < m
  · simp [h]
  · simp [h]
def bOf (bs : List Bool) : Nat → Bool := fun k => bs.getD k false
theorem bOf_set (bs : List Bool) (i : Nat) (v : Bool) (hi : i < bs.length) : bOf (bs.set i v) = fup (bOf bs) i v := by
  funext k
  unfold bOf fup
  by_cases e : k = i
  · subst e; simp [hi]
  · rw [if_neg e]
    simp only [List.getD_eq_getElem?_getD]
    rw [List.getElem?_set_ne (by omega)]
end Go.Proofs.YtajhkdbldbifeaaGreatDoor

namespace Go.Proofs.YtajhkdbldbifeaaGreatDoor
set_option maxRecDepth 100000
set_option linter.unusedVariables false

/-- The set bits of b below n, rising. -/
def upTo (b n : Nat) : List Nat := (List.range n).filter fun i => b.testBit i
theorem upTo_zero (b : Nat) : upTo b 0 = [] := rfl
theorem upTo_succ (b n : Nat) : upTo b (n + 1) = if b.testBit n = true then upTo b n ++ [n] else upTo b n := by
  unfold upTo
  rw [List.range_succ, List.filter_append]
  by_cases h : b.testBit n = true
  · simp [h]
  · simp [h]
theorem upTo_len (b : Nat) : ∀ n, (upTo b n).length ≤ n
  | 0 => Nat.le_refl _
  | n + 1 => by have := upTo_len b n; rw [upTo_succ]; split <;> simp <;> omega
theorem upTo_skip (b k : Nat) : ∀ m, k ≤ m → (∀ j : Nat, k ≤ j → j < m → b.testBit j = false) → upTo b m = upTo b k := by
  intro m hm
  induction m with
  | zero => intro _; have : k = 0 := by omega
            rw [this]
  | succ m ih =>
    intro h
    by_cases e : k = m + 1
    · rw [e]
    · rw [upTo_succ, if_neg (by rw [h m (by omega) (by omega)]; simp), ih (by omega) (fun j h1 h2 => h j h1 (by omega))]
theorem upTo_next (b k m : Nat) (hk : k ≤ m) (hm : b.testBit m = true) (h : ∀ j : Nat, k ≤ j → j < m → b.testBit j = false) : upTo b (m + 1) = upTo b k ++ [m] := by
  rw [upTo_succ, if_pos hm, upTo_skip b k m hk h]

/-- The set bits of b from k on (below 64), rising. -/
def fromOn (b k : Nat) : List Nat := (List.range' k (64 - k)).filter fun i => b.testBit i
theorem fromOn_all (b : Nat) : fromOn b 0 = upTo b 64 := by
  unfold fromOn upTo
  rw [List.range_eq_range']
theorem fromOn_end (b : Nat) : fromOn b 64 = [] := rfl
theorem fromOn_step (b k : Nat) (hk : k < 64) : fromOn b k = if b.testBit k = true then k :: fromOn b (k + 1) else fromOn b (k + 1) := by
  unfold fromOn
  obtain ⟨n, hn⟩ : ∃ n, 64 - k = n + 1 := ⟨64 - k - 1, by omega⟩
  have e : 64 - (k + 1) = n := by omega
  rw [e, hn, List.range'_succ, List.filter_cons]
theorem fromOn_skip (b k : Nat) (hk : k ≤ 64) : ∀ d m, k = m + d → (∀ j : Nat, m ≤ j → j < k → b.testBit j = false) → fromOn b m = fromOn b k := by
  intro d
  induction d with
  | zero => intro m e _; rw [e]; rfl
  | succ d ih =>
    intro m e h
    rw [fromOn_step b m (by omega), if_neg (by rw [h m (by omega) (by omega)]; simp), ih (m + 1) (by omega) (fun j h1 h2 => h j (by omega) h2)]
theorem fromOn_last (b m k : Nat) (hk : k ≤ 64) (hm : m < k) (hb : b.testBit m = true) (h : ∀ j : Nat, m < j → j < k → b.testBit j = false) : fromOn b m = m :: fromOn b k := by
  rw [fromOn_step b m (by omega), if_pos hb, fromOn_skip b k hk (k - (m + 1)) (m + 1) (by omega) (fun j h1 h2 => h j (by omega) h2)]
theorem fromOn_len (b k : Nat) : (fromOn b k).length ≤ 64 - k := by
  unfold fromOn
  have := List.length_filter_le (fun i => b.testBit i) (List.range' k (64 - k))
  simpa using this

/-- The first one of a rising list that is at least f, and the last one that is at most f; -1. -/
def nextL (f : Int) : List Nat → Int
  | [] => -1
  | j :: l => if f ≤ (j : Int) then j else nextL f l
def lastL (f : Int) (l : List Nat) : Int := l.foldl (fun (r : Int) (j : Nat) => if (j : Int) ≤ f then (j : Int) else r) (-1)
theorem nextL_range (f : Int) : ∀ l, -1 ≤ nextL f l
  | [] => Int.le_refl _
  | j :: l => by have := nextL_range f l; unfold nextL; split <;> omega
theorem nextL_snoc (f : Int) (j : Nat) : ∀ l, nextL f (l ++ [j]) = if 0 ≤ nextL f l then nextL f l else if f ≤ (j : Int) then (j : Int) else -1
  | [] => by simp [nextL]
  | i :: l => by
    have ih := nextL_snoc f j l
    have e1 : nextL f (i :: l ++ [j]) = if f ≤ (i : Int) then (i : Int) else nextL f (l ++ [j]) := rfl
    have e2 : nextL f (i :: l) = if f ≤ (i : Int) then (i : Int) else nextL f l := rfl
    rw [e1, e2, ih]
    by_cases h : f ≤ (i : Int)
    · simp [h]
    · simp only [h, if_false]
theorem lastL_snoc (f : Int) (j : Nat) (l : List Nat) : lastL f (l ++ [j]) = if (j : Int) ≤ f then (j : Int) else lastL f l := by
  unfold lastL
  rw [List.foldl_append]
  rfl
theorem next_cases (b : Nat) (f : Int) : ∀ n, (nextL f (upTo b n) = -1 ∧ ∀ j : Nat, j < n → f ≤ (j : Int) → b.testBit j = false) ∨ ∃ k : Nat, k < n ∧ nextL f (upTo b n) = (k : Int) ∧ b.testBit k = true ∧ f ≤ (k : Int) ∧ ∀ j : Nat, j < k → f ≤ (j : Int) → b.testBit j = false
  | 0 => .inl ⟨rfl, fun j h => by omega⟩
  | n + 1 => by
    rcases next_cases b f n with ⟨e, h⟩ | ⟨k, hk, e, hb, hf, h⟩
    · by_cases hn : b.testBit n = true
      · rw [upTo_succ, if_pos hn, nextL_snoc, e, if_neg (by omega)]
        by_cases hf : f ≤ (n : Int)
        · rw [if_pos hf]
          exact .inr ⟨n, by omega, rfl, hn, hf, h⟩
        · rw [if_neg hf]
          refine .inl ⟨rfl, fun j hj hf' => ?_⟩
          by_cases ej : j = n
          · subst ej; exact absurd hf' hf
          · exact h j (by omega) hf'
      · rw [upTo_succ, if_neg hn]
        refine .inl ⟨e, fun j hj hf' => ?_⟩
        by_cases ej : j = n
        · subst ej; simpa using hn
        · exact h j (by omega) hf'
    · refine .inr ⟨k, by omega, ?_, hb, hf, h⟩
      by_cases hn : b.testBit n = true
      · rw [upTo_succ, if_pos hn, nextL_snoc, e, if_pos (by omega)]
      · rw [upTo_succ, if_neg hn, e]
theorem last_cases (b : Nat) (f : Int) : ∀ n, (lastL f (upTo b n) = -1 ∧ ∀ j : Nat, j < n → (j : Int) ≤ f → b.testBit j = false) ∨ ∃ k : Nat, k < n ∧ lastL f (upTo b n) = (k : Int) ∧ b.testBit k = true ∧ (k : Int) ≤ f ∧ ∀ j : Nat, k < j → j < n → (j : Int) ≤ f → b.testBit j = false
  | 0 => .inl ⟨rfl, fun j h => by omega⟩
  | n + 1 => by
    by_cases hn : b.testBit n = true ∧ (n : Int) ≤ f
    · refine .inr ⟨n, by omega, ?_, hn.1, hn.2, fun j h1 h2 => by omega⟩
      rw [upTo_succ, if_pos hn.1, lastL_snoc, if_pos hn.2]
    · have e0 : lastL f (upTo b (n + 1)) = lastL f (upTo b n) := by
        rw [upTo_succ]
        by_cases h1 : b.testBit n = true
        · rw [if_pos h1, lastL_snoc, if_neg (fun h2 => hn ⟨h1, h2⟩)]
        · rw [if_neg h1]
      have en : (n : Int) ≤ f → b.testBit n = false := fun h2 => by
        by_cases h1 : b.testBit n = true
        · exact absurd ⟨h1, h2⟩ hn
        · simpa using h1
      rcases last_cases b f n with ⟨e, h⟩ | ⟨k, hk, e, hb, hf, h⟩
      · refine .inl ⟨e0.trans e, fun j hj hf' => ?_⟩
        by_cases ej : j = n
        · subst ej; exact en hf'
        · exact h j (by omega) hf'
      · refine .inr ⟨k, by omega, e0.trans e, hb, hf, fun j h1 h2 h3 => ?_⟩
        by_cases ej : j = n
        · subst ej; exact en h3
        · exact h j h1 (by omega) h3

/-- The same, of a bitmap of 64 bits. -/
def nextM (b : Nat) (f : Int) : Int := nextL f (upTo b 64)
def lastM (b : Nat) (f : Int) : Int := lastL f (upTo b 64)
def manyM (b : Nat) : Nat := (upTo b 64).length
theorem nextM_is (b k : Nat) (f : Int) (hk : k < 64) (hb : b.testBit k = true) (hf : f ≤ (k : Int)) (h : ∀ j : Nat, j < k → f ≤ (j : Int) → b.testBit j = false) : nextM b f = k := by
  rcases next_cases b f 64 with ⟨_, h'⟩ | ⟨k', hk', e, hb', hf', h'⟩
  · rw [h' k hk hf] at hb; cases hb
  · have : k = k' := by
      rcases Nat.lt_trichotomy k k' with l | l | l
      · rw [h' k l hf] at hb; cases hb
      · exact l
      · rw [h k' l hf'] at hb'; cases hb'
    unfold nextM
    rw [e, this]
theorem nextM_none (b : Nat) (f : Int) (h : ∀ j : Nat, j < 64 → f ≤ (j : Int) → b.testBit j = false) : nextM b f = -1 := by
  rcases next_cases b f 64 with ⟨e, _⟩ | ⟨k', hk', e, hb', hf', h'⟩
  · exact e
  · rw [h k' hk' hf'] at hb'; cases hb'
theorem lastM_is (b k : Nat) (f : Int) (hk : k < 64) (hb : b.testBit k = true) (hf : (k : Int) ≤ f) (h : ∀ j : Nat, k < j → j < 64 → (j : Int) ≤ f → b.testBit j = false) : lastM b f = k := by
  rcases last_cases b f 64 with ⟨_, h'⟩ | ⟨k', hk', e, hb', hf', h'⟩
  · rw [h' k hk hf] at hb; cases hb
  · have : k = k' := by
      rcases Nat.lt_trichotomy k k' with l | l | l
      · rw [h k' l hk' hf'] at hb'; cases hb'
      · exact l
      · rw [h' k l hk hf] at hb; cases hb
    unfold lastM
    rw [e, this]
theorem lastM_none (b : Nat) (f : Int) (h : ∀ j : Nat, j < 64 → (j : Int) ≤ f → b.testBit j = false) : lastM b f = -1 := by
  rcases last_cases b f 64 with ⟨e, _⟩ | ⟨k', hk', e, hb', hf', h'⟩
  · exact e
  · rw [h k' hk' hf'] at hb'; cases hb'
theorem nextM_cases (b : Nat) (f : Int) : (nextM b f = -1 ∧ ∀ j : Nat, j < 64 → f ≤ (j : Int) → b.testBit j = false) ∨ ∃ k : Nat, k < 64 ∧ nextM b f = (k : Int) ∧ b.testBit k = true ∧ f ≤ (k : Int) ∧ ∀ j : Nat, j < k → f ≤ (j : Int) → b.testBit j = false := next_cases b f 64
theorem lastM_cases (b : Nat) (f : Int) : (lastM b f = -1 ∧ ∀ j : Nat, j < 64 → (j : Int) ≤ f → b.testBit j = false) ∨ ∃ k : Nat, k < 64 ∧ lastM b f = (k : Int) ∧ b.testBit k = true ∧ (k : Int) ≤ f ∧ ∀ j : Nat, k < j → j < 64 → (j : Int) ≤ f → b.testBit j = false := last_cases b f 64

/-! ### Masks -/
theorem low_bit (c j : Nat) : (2 ^ c - 1).testBit j = decide (j < c) := Nat.testBit_two_pow_sub_one c j
theorem high_bit (c j : Nat) (hc : c ≤ 64) : (18446744073709551615 - (2 ^ c - 1)).testBit j = (decide (j < 64) && decide (c ≤ j)) := by
  have hp : 2 ^ c ≤ 2 ^ 64 := Nat.pow_le_pow_right (by decide) hc
  have hq : 0 < 2 ^ c := Nat.two_pow_pos c
  have e : 18446744073709551615 - (2 ^ c - 1) = 2 ^ 64 - ((2 ^ c - 1) + 1) := by omega
  rw [e, Nat.testBit_two_pow_sub_succ (by omega), low_bit]
  by_cases h : j < c
  · simp [h] <;> omega
  · simp [h] <;> omega
theorem rest_bit (b c j : Nat) (hc : c ≤ 64) (hj : j < 64) : (b &&& (18446744073709551615 - (2 ^ c - 1))).testBit j = (b.testBit j && decide (c ≤ j)) := by
  rw [Nat.testBit_and, high_bit c j hc]; simp [hj]
theorem upper_bit (b j : Nat) (hb : b < 18446744073709551616) (hj : 64 ≤ j) : b.testBit j = false :=
  Nat.testBit_lt_two_pow (Nat.lt_of_lt_of_le (show b < 2 ^ 64 from hb) (Nat.pow_le_pow_right (by decide) hj))
theorem zero_of_bits (x : Nat) (hx : x < 18446744073709551616) (h : ∀ j : Nat, j < 64 → x.testBit j = false) : x = 0 := by
  apply Nat.eq_of_testBit_eq
  intro j
  rw [Nat.zero_testBit]
  by_cases hj : j < 64
  · exact h j hj
  · exact upper_bit x j hx (by omega)
theorem ctz_bits (x : Nat) (h0 : x ≠ 0) (hx : x < 18446744073709551616) : Lib.ctz 64 x < 64 ∧ x.testBit (Lib.ctz 64 x) = true ∧ ∀ j : Nat, j < Lib.ctz 64 x → x.testBit j = false := by
  have e : Lib.ctz 64 x = Lib.ctzFrom 64 x := by simp [Lib.ctz, h0]
  obtain ⟨m, hm, hk⟩ := Lib.ctzFrom_spec 64 x (by omega) hx
  rw [e]
  generalize Lib.ctzFrom 64 x = k at *
  subst hm
  refine ⟨hk, ?_, fun j hj => ?_⟩
  · rw [Nat.testBit_two_pow_mul]; simp
  · rw [Nat.testBit_two_pow_mul]; simp; intro h; omega
theorem bitLen_bits (x : Nat) (h0 : x ≠ 0) (hx : x < 18446744073709551616) : 1 ≤ bitLen x ∧ bitLen x ≤ 64 ∧ x.testBit (bitLen x - 1) = true ∧ ∀ j, bitLen x - 1 < j → x.testBit j = false := by
  have e : bitLen x = x.log2 + 1 := by simp [bitLen, h0]
  rw [e]
  refine ⟨by omega, ?_, ?_, fun j hj => ?_⟩
  · have := (Nat.log2_lt h0).2 (show x < 2 ^ 64 from hx); omega
  · simpa using Nat.testBit_log2 h0
  · exact Nat.testBit_lt_two_pow (Nat.lt_of_lt_of_le Nat.lt_log2_self (Nat.pow_le_pow_right (by decide) (by omega)))

/-- A number, held to 0 and 64. -/
def held (i : Int) : Nat := if i < 0 then 0 else if i ≤ 64 then i.toNat else 64
theorem held_le (i : Int) : held i ≤ 64 := by unfold held; split <;> (try split) <;> omega
theorem held_iff (i : Int) (j : Nat) (hj : j < 64) : held i ≤ j ↔ i ≤ (j : Int) := by unfold held; split <;> (try split) <;> omega

theorem next_rest (b : Nat) (f : Int) (hb : b < 18446744073709551616) :
    (b &&& (18446744073709551615 - (2 ^ held f - 1)) = 0 → nextM b f = -1) ∧ (b &&& (18446744073709551615 - (2 ^ held f - 1)) ≠ 0 → nextM b f = (Lib.ctz 64 (b &&& (18446744073709551615 - (2 ^ held f - 1))) : Int)) := by
  have hr : ∀ j : Nat, j < 64 → (b &&& (18446744073709551615 - (2 ^ held f - 1))).testBit j = (b.testBit j && decide (held f ≤ j)) := fun j hj => rest_bit b _ j (held_le f) hj
  have hl : b &&& (18446744073709551615 - (2 ^ held f - 1)) < 18446744073709551616 := Nat.lt_of_le_of_lt Nat.and_le_left hb
  generalize b &&& (18446744073709551615 - (2 ^ held f - 1)) = r at *
  refine ⟨fun h0 => nextM_none b f fun j hj hf => ?_, fun h0 => ?_⟩
  · have := hr j hj
    rw [h0, Nat.zero_testBit] at this
    simpa [(held_iff f j hj).2 hf] using this
  · obtain ⟨k1, k2, k3⟩ := ctz_bits r h0 hl
    have h2 := (hr _ k1).symm.trans k2
    simp at h2
    refine nextM_is b _ f k1 h2.1 ((held_iff f _ k1).1 h2.2) fun j hj hf => ?_
    have := (hr j (by omega)).symm.trans (k3 j hj)
    simpa [(held_iff f j (by omega)).2 hf] using this
theorem last_rest (b : Nat) (f : Int) (hb : b < 18446744073709551616) :
    (b &&& (2 ^ held (f + 1) - 1) = 0 → lastM b f = -1) ∧ (b &&& (2 ^ held (f + 1) - 1) ≠ 0 → lastM b f = (bitLen (b &&& (2 ^ held (f + 1) - 1)) : Int) - 1) := by
  have hr : ∀ j, (b &&& (2 ^ held (f + 1) - 1)).testBit j = (b.testBit j && decide (j < held (f + 1))) := fun j => by rw [Nat.testBit_and, low_bit]
  have hl : b &&& (2 ^ held (f + 1) - 1) < 18446744073709551616 := Nat.lt_of_le_of_lt Nat.and_le_left hb
  have hh : ∀ j : Nat, j < 64 → (j < held (f + 1) ↔ (j : Int) ≤ f) := fun j hj => by have := held_iff (f + 1) j hj; omega
  generalize b &&& (2 ^ held (f + 1) - 1) = r at *
  refine ⟨fun h0 => lastM_none b f fun j hj hf => ?_, fun h0 => ?_⟩
  · have := hr j
    rw [h0, Nat.zero_testBit] at this
    simpa [(hh j hj).2 hf] using this
  · obtain ⟨k0, k1, k2, k3⟩ := bitLen_bits r h0 hl
    have h2 := (hr _).symm.trans k2
    simp at h2
    have := lastM_is b (bitLen r - 1) f (by omega) h2.1 ((hh _ (by omega)).1 h2.2) fun j hj hj2 hf => by
      have := (hr j).symm.trans (k3 j hj)
      simpa [(hh j hj2).2 hf] using this
    rw [this]
    omega
end Go.Proofs.YtajhkdbldbifeaaGreatDoor

namespace Go.Proofs.YtajhkdbldbifeaaGreatDoor
set_option maxRecDepth 100000
set_option linter.unusedVariables false
set_option linter.unusedSimpArgs false

/-- A key without its lowest bits. -/
def uu (wd : Nat) (x : Int) : Int := x / 2 ^ wd
theorem uu_le (wd : Nat) {x y : Int} (h : x ≤ y) : uu wd x ≤ uu wd y := Int.ediv_le_ediv (by exact Int.pow_pos (by decide)) h
theorem uu_nn (wd : Nat) {x : Int} (h : 0 ≤ x) : 0 ≤ uu wd x := Int.ediv_nonneg h (Int.pow_nonneg (by decide))
theorem pow_split (wd k : Nat) (x : Int) : x / 2 ^ (wd + k) = uu wd x / 2 ^ k := by
  unfold uu
  have h : ¬ ((2 : Int) ^ wd < 0 ∧ ¬ (2 : Int) ^ k ∣ x / 2 ^ wd) := fun h => by
    have : (0 : Int) ≤ 2 ^ wd := Int.pow_nonneg (by decide)
    omega
  rw [Int.pow_add, Int.ediv_ediv, if_neg h]
  simp

/-- The level of a key over a base. -/
def levM (wd : Nat) (base key : Int) : Int :=
  if key < base then -1 else if uu wd base / 64 = uu wd key / 64 then 0 else if uu wd base / 4096 = uu wd key / 4096 then 1 else if uu wd base / 262144 = uu wd key / 262144 then 2 else 3
/-- The bucket of a key at a level. -/
def bkM (wd : Nat) (key : Int) (l : Nat) : Int := uu wd key / 64 ^ l % 64
theorem bkM_0 (wd : Nat) (key : Int) : bkM wd key 0 = uu wd key % 64 := by unfold bkM; simp
theorem bkM_1 (wd : Nat) (key : Int) : bkM wd key 1 = uu wd key / 64 % 64 := by unfold bkM; simp
theorem bkM_2 (wd : Nat) (key : Int) : bkM wd key 2 = uu wd key / 4096 % 64 := by unfold bkM; rfl
theorem bkM_rng (wd : Nat) (key : Int) (l : Nat) : 0 ≤ bkM wd key l ∧ bkM wd key l < 64 := by unfold bkM; omega
theorem levM_cases (wd : Nat) (base key : Int) : (levM wd base key = -1 ∧ key < base) ∨ (base ≤ key ∧ ((levM wd base key = 0 ∧ uu wd base / 64 = uu wd key / 64) ∨ (levM wd base key = 1 ∧ uu wd base / 64 ≠ uu wd key / 64 ∧ uu wd base / 4096 = uu wd key / 4096)
    ∨ (levM wd base key = 2 ∧ uu wd base / 4096 ≠ uu wd key / 4096 ∧ uu wd base / 262144 = uu wd key / 262144) ∨ (levM wd base key = 3 ∧ uu wd base / 262144 ≠ uu wd key / 262144))) := by
  unfold levM
  by_cases h : key < base
  · simp [h]
  · refine .inr ⟨by omega, ?_⟩
    simp only [h, if_false]
    by_cases h0 : uu wd base / 64 = uu wd key / 64
    · simp [h0]
    · by_cases h1 : uu wd base / 4096 = uu wd key / 4096
      · simp [h0, h1]
      · by_cases h2 : uu wd base / 262144 = uu wd key / 262144
        · simp [h0, h1, h2]
        · simp [h0, h1, h2]
theorem levM_is {wd : Nat} {base key : Int} (h : base ≤ key) : (uu wd base / 64 = uu wd key / 64 → levM wd base key = 0) ∧ (uu wd base / 64 ≠ uu wd key / 64 → uu wd base / 4096 = uu wd key / 4096 → levM wd base key = 1)
    ∧ (uu wd base / 4096 ≠ uu wd key / 4096 → uu wd base / 262144 = uu wd key / 262144 → levM wd base key = 2) ∧ (uu wd base / 262144 ≠ uu wd key / 262144 → levM wd base key = 3) := by
  rcases levM_cases wd base key with ⟨_, _⟩ | ⟨_, h | h | h | h⟩ <;> refine ⟨fun _ => ?_, fun _ _ => ?_, fun _ _ => ?_, fun _ => ?_⟩ <;> omega

/-- In reach. -/
def reach (wd : Nat) (base key : Int) : Prop := base ≤ key ∧ uu wd base / 262144 = uu wd key / 262144
theorem reach_iff {wd : Nat} {base key : Int} : reach wd base key ↔ 0 ≤ levM wd base key ∧ levM wd base key ≤ 2 := by
  unfold reach
  rcases levM_cases wd base key with ⟨_, _⟩ | ⟨_, h | h | h | h⟩ <;> omega
/-- The place of a key: level and bucket in one. -/
def pos (wd : Nat) (base key : Int) : Nat := (levM wd base key * 64 + bkM wd key (levM wd base key).toNat).toNat
theorem pos_is {wd : Nat} {base key : Int} (h : reach wd base key) : ∃ L : Nat, L < 3 ∧ levM wd base key = (L : Int) ∧ ∃ b : Nat, b < 64 ∧ bkM wd key L = (b : Int) ∧ pos wd base key = L * 64 + b := by
  obtain ⟨h0, h2⟩ := reach_iff.1 h
  obtain ⟨L, hL⟩ := Int.eq_ofNat_of_zero_le h0
  have hb := bkM_rng wd key L
  obtain ⟨b, hb'⟩ := Int.eq_ofNat_of_zero_le hb.1
  refine ⟨L, by omega, hL, b, by omega, hb', ?_⟩
  unfold pos
  rw [hL]
  simp only [Int.ofNat_eq_natCast, Int.toNat_natCast] at *
  rw [hb']
  omega
theorem pos_lt {wd : Nat} {base key : Int} (h : reach wd base key) : pos wd base key < 192 := by
  obtain ⟨L, hL, _, b, hb, _, e⟩ := pos_is h
  omega
theorem pos_num {wd : Nat} {base key : Int} (h : reach wd base key) : (uu wd base / 64 = uu wd key / 64 → (pos wd base key : Int) = uu wd key % 64) ∧ (uu wd base / 64 ≠ uu wd key / 64 → uu wd base / 4096 = uu wd key / 4096 → (pos wd base key : Int) = 64 + uu wd key / 64 % 64)
    ∧ (uu wd base / 4096 ≠ uu wd key / 4096 → (pos wd base key : Int) = 128 + uu wd key / 4096 % 64) := by
  obtain ⟨L, hL, e1, b, hb, e2, e⟩ := pos_is h
  obtain ⟨i0, i1, i2, _⟩ := levM_is (wd := wd) h.1
  have hr := h.2
  have h3 : L = 0 ∨ L = 1 ∨ L = 2 := by omega
  refine ⟨fun q => ?_, fun q q' => ?_, fun q => ?_⟩
  · have := i0 q
    obtain rfl : L = 0 := by omega
    rw [bkM_0] at e2; omega
  · have := i1 q q'
    obtain rfl : L = 1 := by omega
    rw [bkM_1] at e2; omega
  · have := i2 q hr
    obtain rfl : L = 2 := by omega
    rw [bkM_2] at e2; omega
/-- A greater key lies no lower. -/
theorem pos_mono {wd : Nat} {base x y : Int} (hb : 0 ≤ base) (hx : reach wd base x) (hy : reach wd base y) (h : x ≤ y) : pos wd base x ≤ pos wd base y := by
  obtain ⟨x0, x1, x2⟩ := pos_num hx
  obtain ⟨y0, y1, y2⟩ := pos_num hy
  have u0 := uu_nn wd hb
  have u1 := uu_le wd hx.1
  have u2 := uu_le wd h
  have hx2 := hx.2
  have hy2 := hy.2
  generalize uu wd base = B at *
  generalize uu wd x = X at *
  generalize uu wd y = Y at *
  by_cases a0 : B / 64 = X / 64
  · have := x0 a0
    by_cases b0 : B / 64 = Y / 64
    · have := y0 b0; omega
    · by_cases b1 : B / 4096 = Y / 4096
      · have := y1 b0 b1; omega
      · have := y2 b1; omega
  · by_cases a1 : B / 4096 = X / 4096
    · have := x1 a0 a1
      by_cases b1 : B / 4096 = Y / 4096
      · have := y1 (by omega) b1; omega
      · have := y2 b1; omega
    · have := x2 a1
      have := y2 (by omega)
      omega
/-- What a base moved forward does to a key's place: the moved base's own bucket, at its own level of 1 or 2, comes down; all else stays. -/
theorem pos_turn {wd : Nat} {base to key : Int} (hb : 0 ≤ base) (h1 : base ≤ to) (h2 : to ≤ key) (hr : reach wd base key) : reach wd to key ∧
    (levM wd base to = 0 → pos wd to key = pos wd base key) ∧ levM wd base to ≠ 3 ∧ levM wd base to ≠ -1 ∧
    (∀ L : Nat, levM wd base to = (L : Int) → 1 ≤ L → L ≤ 2 → (pos wd base key ≠ pos wd base to → pos wd to key = pos wd base key ∧ pos wd to key ≠ pos wd base to) ∧ (pos wd base key = pos wd base to → pos wd to key < L * 64)) := by
  have u0 := uu_nn wd hb
  have u1 := uu_le wd h1
  have u2 := uu_le wd h2
  have hr2 := hr.2
  have hrt : reach wd base to := ⟨h1, by omega⟩
  have hrk : reach wd to key := ⟨h2, by have := hrt.2; omega⟩
  obtain ⟨x0, x1, x2⟩ := pos_num hr
  obtain ⟨y0, y1, y2⟩ := pos_num hrt
  obtain ⟨z0, z1, z2⟩ := pos_num hrk
  have ht2 := hrt.2
  have lc := levM_cases wd base to
  refine ⟨hrk, ?_⟩
  generalize levM wd base to = V at *
  generalize pos wd base key = p at *
  generalize pos wd to key = q at *
  generalize pos wd base to = r at *
  generalize uu wd base = B at *
  generalize uu wd to = X at *
  generalize uu wd key = Y at *
  clear hr hrt hrk
  rcases lc with ⟨hV, hc⟩ | ⟨_, hc | hc | hc | hc⟩
  · omega
  · refine ⟨fun _ => ?_, by omega, by omega, fun L hL h1 h2 => by omega⟩
    by_cases a0 : B / 64 = Y / 64
    · have := x0 a0; have := z0 (by omega); omega
    · by_cases a1 : B / 4096 = Y / 4096
      · have := x1 a0 a1; have := z1 (by omega) (by omega); omega
      · have := x2 a1; have := z2 (by omega); omega
  · refine ⟨fun _ => by omega, by omega, by omega, fun L hL h1 h2 => ?_⟩
    obtain rfl : L = 1 := by omega
    have hr := y1 hc.2.1 hc.2.2
    by_cases a0 : B / 64 = Y / 64
    · omega
    · by_cases a1 : B / 4096 = Y / 4096
      · have hp := x1 a0 a1
        by_cases c0 : X / 64 = Y / 64
        · have := z0 c0; omega
        · have := z1 c0 (by omega); omega
      · have hp := x2 a1
        have := z2 (by omega); omega
  · refine ⟨fun _ => by omega, by omega, by omega, fun L hL h1 h2 => ?_⟩
    obtain rfl : L = 2 := by omega
    have hr := y2 hc.2.1
    by_cases a1 : B / 4096 = Y / 4096
    · omega
    · have hp := x2 a1
      by_cases c0 : X / 64 = Y / 64
      · have := z0 c0; omega
      · by_cases c1 : X / 4096 = Y / 4096
        · have := z1 c0 c1; omega
        · have := z2 c1; omega
  · omega

/-! ### a list parted by place -/
section
variable {p : It → Nat}
def part (p : It → Nat) (i : Nat) (l : List It) : List It := l.filter fun x => p x == i
def below (p : It → Nat) (m : Nat) (l : List It) : List It := l.filter fun x => decide (p x < m)
theorem mem_part {i : Nat} {l : List It} {x : It} : x ∈ part p i l ↔ x ∈ l ∧ p x = i := by simp [part]
theorem part_sub (i : Nat) (l : List It) : (part p i l).Sublist l := List.filter_sublist
theorem part_rises {l : List It} (h : Rises l) (i : Nat) : Rises (part p i l) := List.Pairwise.sublist (part_sub i l) h
theorem part_len (i : Nat) (l : List It) : (part p i l).length ≤ l.length := (part_sub i l).length_le
theorem part_nil_iff {i : Nat} {l : List It} : part p i l = [] ↔ ∀ x ∈ l, p x ≠ i := by simp [part, List.filter_eq_nil_iff]
theorem below_succ : ∀ {l : List It} (m : Nat), l.Pairwise (fun x y => p x ≤ p y) → below p (m + 1) l = below p m l ++ part p m l
  | [], m, _ => rfl
  | x :: l, m, h => by
    obtain ⟨h1, h2⟩ := List.pairwise_cons.1 h
    have ih := below_succ m h2
    unfold below part at *
    by_cases c1 : p x < m
    · have c2 : p x < m + 1 := by omega
      have c3 : ¬ p x = m := by omega
      simp only [List.filter_cons, decide_eq_true c1, decide_eq_true c2, beq_eq_false_iff_ne.2 c3]
      simp [ih]
    · have e : l.filter (fun x => decide (p x < m)) = [] := List.filter_eq_nil_iff.2 fun y hy => by have := h1 y hy; simp; omega
      rw [e] at ih
      by_cases c2 : p x = m
      · have c3 : p x < m + 1 := by omega
        simp only [List.filter_cons, decide_eq_false c1, decide_eq_true c3, beq_iff_eq.2 c2, e]
        simpa using ih
      · have c3 : ¬ p x < m + 1 := by omega
        simp only [List.filter_cons, decide_eq_false c1, decide_eq_false c3, beq_eq_false_iff_ne.2 c2, e]
        simpa using ih
theorem below_zero (l : List It) : below p 0 l = [] := by simp [below]
theorem below_full {l : List It} {n : Nat} (h : ∀ x ∈ l, p x < n) : below p n l = l := List.filter_eq_self.2 fun x hx => by simpa using h x hx
theorem below_same {l : List It} {m : Nat} (h : l.Pairwise (fun x y => p x ≤ p y)) (he : part p m l = []) : below p (m + 1) l = below p m l := by rw [below_succ m h, he, List.append_nil]
theorem below_skip {l : List It} (h : l.Pairwise (fun x y => p x ≤ p y)) (m : Nat) : ∀ n, m ≤ n → (∀ j, m ≤ j → j < n → part p j l = []) → below p n l = below p m l := by
  intro n hn
  induction n with
  | zero => intro _; have : m = 0 := by omega
            rw [this]
  | succ n ih =>
    intro he
    by_cases e : m = n + 1
    · rw [e]
    · rw [below_same h (he n (by omega) (by omega)), ih (by omega) fun j h1 h2 => he j h1 (by omega)]
/-- The first place that has something has the first one. -/
theorem part_first {l : List It} {i : Nat} (h : l.Pairwise (fun x y => p x ≤ p y)) (he : ∀ j, j < i → part p j l = []) (hi : part p i l ≠ []) : ∃ x r, part p i l = x :: r ∧ ∃ t, l = x :: t := by
  cases l with
  | nil => exact absurd rfl hi
  | cons y l =>
    have hy : ¬ p y < i := fun hlt => by
      have := part_nil_iff.1 (he _ hlt) y (by simp)
      exact this rfl
    obtain ⟨x, hx⟩ := List.exists_mem_of_ne_nil _ hi
    obtain ⟨hx1, hx2⟩ := mem_part.1 hx
    have hle : p y ≤ i := by
      rcases List.mem_cons.1 hx1 with rfl | hx1
      · omega
      · have := (List.pairwise_cons.1 h).1 x hx1; omega
    have e : p y = i := by omega
    exact ⟨y, part p i l, by unfold part; rw [List.filter_cons]; simp [e], l, rfl⟩
/-- One more. -/
theorem part_ins {l : List It} {y : It} (h : Rises l) (hy : ∀ x ∈ l, x.i ≠ y.i) (i : Nat) : part p i (ins y l) = if p y = i then ins y (part p i l) else part p i l := by
  have hr := ins_rises h hy
  have hp : (part p i (ins y l)).Perm (part p i (l ++ [y])) := (ins_perm y l).filter _
  have e : part p i (l ++ [y]) = part p i l ++ (if p y = i then [y] else []) := by
    unfold part
    rw [List.filter_append]
    by_cases c : p y = i <;> simp [c]
  rw [e] at hp
  have hr1 : Rises (part p i (ins y l)) := part_rises hr i
  split at hp <;> rename_i c
  · rw [if_pos c]
    exact Rises.eq_of_perm hr1 (ins_rises (part_rises h i) fun x hx => hy x (mem_part.1 hx).1) (hp.trans (ins_perm y _).symm)
  · rw [if_neg c]
    rw [List.append_nil] at hp
    exact Rises.eq_of_perm hr1 (part_rises h i) hp
/-- One less. -/
theorem part_erase {l : List It} (q : It → Bool) (i : Nat) (x : It) (hx : l.find? q = some x) : part p i (l.eraseP q) = if p x = i then (part p i l).eraseP q else part p i l := by
  obtain ⟨hq, as, bs, rfl, ha⟩ := List.find?_eq_some_iff_append.1 hx
  have hn : ∀ a ∈ as, ¬ q a = true := fun a h => by simpa using ha a h
  have e1 : (as ++ x :: bs).eraseP q = as ++ bs := by rw [List.eraseP_append_right _ hn, List.eraseP_cons_of_pos hq]
  rw [e1]
  unfold part
  rw [List.filter_append, List.filter_append, List.filter_cons]
  by_cases c : p x = i
  · have c' : (p x == i) = true := by simpa using c
    rw [if_pos c, if_pos c', List.eraseP_append_right _ (fun a h => hn a (List.mem_filter.1 h).1), List.eraseP_cons_of_pos hq]
  · have c' : (p x == i) = false := by simpa using c
    rw [if_neg c, c']
    simp
theorem part_congr {p' : It → Nat} {l : List It} {i : Nat} (h : ∀ x ∈ l, p x = i ↔ p' x = i) : part p i l = part p' i l := by
  unfold part
  apply List.filter_congr
  intro x hx
  have := h x hx
  by_cases c : p x = i
  · simp [c, this.1 c]
  · have c2 : ¬ p' x = i := fun e => c (this.2 e)
    rw [beq_eq_false_iff_ne.2 c, beq_eq_false_iff_ne.2 c2]
end
/-- The place of an item. -/
def pl (wd : Nat) (base : Int) (x : It) : Nat := pos wd base x.k
/-- Whatever lies in the wheel: in order, each item's ID once, all in reach of the base. -/
structure Lies (wd : Nat) (base : Int) (l : List It) : Prop where
  b0 : 0 ≤ base
  rises : Rises l
  ids : Ids l
  near : ∀ x ∈ l, reach wd base x.k
theorem Lies.sorted {wd : Nat} {base : Int} {l : List It} (h : Lies wd base l) : l.Pairwise (fun x y => pl wd base x ≤ pl wd base y) := by
  refine List.Pairwise.imp_of_mem (R := fun x y : It => x.lt y = true) (fun {x y} hx hy hlt => ?_) (show List.Pairwise _ l from h.rises)
  refine pos_mono h.b0 (h.near x hx) (h.near y hy) ?_
  rcases (It.lt_iff x y).1 hlt with h | ⟨h, _⟩ <;> omega
theorem Lies.lt {wd : Nat} {base : Int} {l : List It} (h : Lies wd base l) : ∀ x ∈ l, pl wd base x < 192 := fun x hx => pos_lt (h.near x hx)
theorem Lies.nil (wd : Nat) {base : Int} (h : 0 ≤ base) : Lies wd base [] := ⟨h, List.Pairwise.nil, by simp [Ids], by simp⟩
end Go.Proofs.YtajhkdbldbifeaaGreatDoor
