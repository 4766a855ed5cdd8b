/-
  Clocks as lists of integers: the number of a worker, one more, joined, below, and how two stand. Plain lists, no memory.
-/
import Derived.Test.YtaaolacfhdfagaaChecked
import Derived.WalkKit
namespace Go.Proofs.Ytaaolacfhdfagaa
set_option maxRecDepth 100000
open Go.RowKit
set_option linter.unusedVariables false
set_option linter.unusedSimpArgs false

/-- The number of worker k. -/
def gC (xs : List Int) (k : Nat) : Int := xs[k]?.getD 0
theorem gC_at {xs : List Int} {k : Nat} {x : Int} (h : xs[k]? = some x) : gC xs k = x := by simp [gC, h]
theorem gC_get {xs : List Int} {k : Nat} (h : k < xs.length) : xs[k]? = some (gC xs k) := by simp [gC, h]
theorem gC_out {xs : List Int} {k : Nat} (h : xs.length ≤ k) : gC xs k = 0 := by simp [gC, List.getElem?_eq_none h]
theorem gC_ext {xs ys : List Int} (hl : xs.length = ys.length) (h : ∀ k, gC xs k = gC ys k) : xs = ys := by
  apply List.ext_getElem hl
  intro k h1 h2
  have := h k
  simpa [gC, h1, h2] using this
/-- The number of worker i, any i. -/
def atM (xs : List Int) (i : Int) : Int := if i < 0 ∨ (xs.length : Int) ≤ i then 0 else gC xs i.toNat
theorem atM_nat (xs : List Int) (k : Nat) : atM xs (k : Int) = gC xs k := by
  unfold atM
  split
  · rw [gC_out (by omega)]
  · simp
/-- One clock made of numbers. -/
def tabC (n : Nat) (f : Nat → Int) : List Int := (List.range n).map f
theorem tabC_len (n : Nat) (f : Nat → Int) : (tabC n f).length = n := by simp [tabC]
theorem tabC_at (n : Nat) (f : Nat → Int) {k : Nat} (h : k < n) : (tabC n f)[k]? = some (f k) := by simp [tabC, h]
theorem gC_tab (n : Nat) (f : Nat → Int) {k : Nat} (h : k < n) : gC (tabC n f) k = f k := gC_at (tabC_at n f h)
theorem tabC_succ (n : Nat) (f : Nat → Int) : tabC (n + 1) f = tabC n f ++ [f n] := by simp [tabC, List.range_succ]
theorem tabC_all (xs : List Int) : tabC xs.length (gC xs) = xs :=
  gC_ext (tabC_len _ _) fun k => by
    by_cases h : k < xs.length
    · exact gC_tab _ _ h
    · rw [gC_out (by rw [tabC_len]; omega), gC_out (by omega)]

/-! ### joined -/
def joinM (xs ys : List Int) : List Int := tabC (max xs.length ys.length) fun k => max (gC xs k) (gC ys k)
theorem joinM_len (xs ys : List Int) : (joinM xs ys).length = max xs.length ys.length := tabC_len _ _
theorem gC_join (xs ys : List Int) (k : Nat) : gC (joinM xs ys) k = max (gC xs k) (gC ys k) := by
  by_cases h : k < max xs.length ys.length
  · exact gC_tab _ _ h
  · rw [gC_out (by rw [joinM_len]; omega), gC_out (by omega), gC_out (by omega)]; rfl

/-! ### below -/
def leqB (xs ys : List Int) : Bool := decide (∀ k, k < max xs.length ys.length → gC xs k ≤ gC ys k)
theorem leqB_iff {xs ys : List Int} : leqB xs ys = true ↔ ∀ k, gC xs k ≤ gC ys k := by
  unfold leqB
  rw [decide_eq_true_iff]
  refine ⟨fun h k => ?_, fun h k _ => h k⟩
  by_cases hk : k < max xs.length ys.length
  · exact h k hk
  · rw [gC_out (by omega), gC_out (by omega)]; exact Int.le_refl _
theorem leqB_false {xs ys : List Int} {k : Nat} (h : gC ys k < gC xs k) : leqB xs ys = false := by
  rcases hb : leqB xs ys
  · rfl
  · have := leqB_iff.1 hb k; omega
theorem leqB_congr {xs ys us vs : List Int} (hx : ∀ k, gC xs k = gC us k) (hy : ∀ k, gC ys k = gC vs k) : leqB xs ys = leqB us vs := by
  rw [Bool.eq_iff_iff, leqB_iff, leqB_iff]
  constructor
  · intro h k; have := h k; rw [hx, hy] at this; exact this
  · intro h k; have := h k; rw [hx, hy]; exact this
theorem leqB_refl (xs : List Int) : leqB xs xs = true := leqB_iff.2 fun _ => Int.le_refl _
def cmpM (xs ys : List Int) : Int := if leqB xs ys = true then (if leqB ys xs = true then 0 else -1) else if leqB ys xs = true then 1 else 2
theorem cmpM_congr {xs ys us vs : List Int} (hx : ∀ k, gC xs k = gC us k) (hy : ∀ k, gC ys k = gC vs k) : cmpM xs ys = cmpM us vs := by
  unfold cmpM
  rw [leqB_congr hx hy, leqB_congr hy hx]
theorem cmpM_same {xs ys : List Int} (h : ∀ k, gC xs k = gC ys k) : cmpM xs ys = 0 := by
  have h1 : leqB xs ys = true := leqB_iff.2 fun k => by rw [h]; exact Int.le_refl _
  have h2 : leqB ys xs = true := leqB_iff.2 fun k => by rw [h]; exact Int.le_refl _
  simp [cmpM, h1, h2]

/-! ### one more -/
def tickM (xs : List Int) (i : Int) : List Int :=
  if i < 0 ∨ 63 < i then xs else tabC (max xs.length (i.toNat + 1)) fun k => if k = i.toNat then wrap64 (gC xs k + 1) else gC xs k
theorem tickM_out {xs : List Int} {i : Int} (h : i < 0 ∨ 63 < i) : tickM xs i = xs := by unfold tickM; rw [if_pos h]
theorem tickM_nat (xs : List Int) {n : Nat} (h : n ≤ 63) : tickM xs (n : Int) = tabC (max xs.length (n + 1)) fun k => if k = n then wrap64 (gC xs k + 1) else gC xs k := by
  unfold tickM
  rw [if_neg (by omega)]
  simp
theorem tickM_len (xs : List Int) {n : Nat} (h : n ≤ 63) : (tickM xs (n : Int)).length = max xs.length (n + 1) := by rw [tickM_nat xs h, tabC_len]
theorem gC_tick (xs : List Int) {n : Nat} (h : n ≤ 63) (k : Nat) : gC (tickM xs (n : Int)) k = if k = n then wrap64 (gC xs k + 1) else gC xs k := by
  rw [tickM_nat xs h]
  by_cases hk : k < max xs.length (n + 1)
  · exact gC_tab _ _ hk
  · rw [gC_out (by rw [tabC_len]; omega), if_neg (by omega), gC_out (by omega)]
theorem tickM_short (xs : List Int) (i : Int) : (tickM xs i).length ≤ xs.length + 64 := by
  unfold tickM
  split
  · omega
  · rw [tabC_len]; omega
theorem tick_above {xs : List Int} {n : Nat} (h : n ≤ 63) (hx : gC xs n < 9223372036854775807) (h0 : -9223372036854775808 ≤ gC xs n) : gC (tickM xs (n : Int)) n = gC xs n + 1 ∧ cmpM xs (tickM xs (n : Int)) = -1 := by
  have e : gC (tickM xs (n : Int)) n = gC xs n + 1 := by rw [gC_tick xs h, if_pos rfl]; unfold wrap64; omega
  refine ⟨e, ?_⟩
  have h1 : leqB xs (tickM xs (n : Int)) = true := leqB_iff.2 fun k => by
    by_cases hk : k = n
    · subst hk; omega
    · rw [gC_tick xs h, if_neg hk]; exact Int.le_refl _
  have h2 : leqB (tickM xs (n : Int)) xs = false := leqB_false (k := n) (by omega)
  simp [cmpM, h1, h2]

/-! ### what follows -/
theorem join_above (a b : List Int) : leqB a (joinM a b) = true ∧ leqB b (joinM a b) = true :=
  ⟨leqB_iff.2 fun k => by rw [gC_join]; omega, leqB_iff.2 fun k => by rw [gC_join]; omega⟩
theorem join_least (a b c : List Int) : leqB (joinM a b) (joinM (joinM c a) b) = true := leqB_iff.2 fun k => by simp only [gC_join]; omega
theorem join_turned (a b : List Int) : cmpM (joinM a b) (joinM b a) = 0 := cmpM_same fun k => by simp only [gC_join]; omega
theorem join_three (a b c : List Int) : cmpM (joinM (joinM a b) c) (joinM a (joinM b c)) = 0 := cmpM_same fun k => by simp only [gC_join]; omega
theorem join_under (a b c : List Int) : (!leqB a c || !leqB b c || leqB (joinM a b) c) = true := by
  rcases h1 : leqB a c <;> rcases h2 : leqB b c <;> simp
  exact leqB_iff.2 fun k => by have := leqB_iff.1 h1 k; have := leqB_iff.1 h2 k; rw [gC_join]; omega
theorem leq_chain (a b c : List Int) : (leqB a b && leqB b c && !leqB a c) = false := by
  rcases h1 : leqB a b <;> rcases h2 : leqB b c <;> simp
  exact leqB_iff.2 fun k => by have := leqB_iff.1 h1 k; have := leqB_iff.1 h2 k; omega
/-- Does any of the first n workers' numbers differ? -/
def difB (a b : List Int) : Nat → Bool
  | 0 => false
  | n + 1 => difB a b n || (gC a n != gC b n)
theorem difB_iff (a b : List Int) : ∀ n, difB a b n = false ↔ ∀ k, k < n → gC a k = gC b k
  | 0 => by simp [difB]
  | n + 1 => by
    simp only [difB, Bool.or_eq_false_iff, difB_iff a b n, bne_eq_false_iff_eq]
    constructor
    · rintro ⟨h1, h2⟩ k hk
      by_cases e : k = n
      · subst e; exact h2
      · exact h1 k (by omega)
    · intro h
      exact ⟨fun k hk => h k (by omega), h n (by omega)⟩
theorem leq_both (a b : List Int) : (leqB a b && leqB b a) = !difB a b (max a.length b.length) := by
  rcases hd : difB a b (max a.length b.length)
  · have h := (difB_iff a b _).1 hd
    have h' : ∀ k, gC a k = gC b k := fun k => by
      by_cases hk : k < max a.length b.length
      · exact h k hk
      · rw [gC_out (by omega), gC_out (by omega)]
    have h1 : leqB a b = true := leqB_iff.2 fun k => by rw [h']; exact Int.le_refl _
    have h2 : leqB b a = true := leqB_iff.2 fun k => by rw [h']; exact Int.le_refl _
    simp [h1, h2]
  · rcases h1 : leqB a b <;> rcases h2 : leqB b a <;> simp
    have : difB a b (max a.length b.length) = false := (difB_iff a b _).2 fun k _ => by
      have := leqB_iff.1 h1 k; have := leqB_iff.1 h2 k; omega
    rw [this] at hd; cases hd
theorem gC_zeros (a : List Int) (n k : Nat) : gC (a ++ List.replicate n 0) k = gC a k := by
  by_cases h : k < a.length
  · simp [gC, List.getElem?_append_left h]
  · rw [gC_out (xs := a) (by omega)]
    simp only [gC]
    rw [List.getElem?_append_right (by omega), List.getElem?_replicate]
    split <;> rfl
end Go.Proofs.Ytaaolacfhdfagaa
