/-
  Plain arithmetic for the statements: a bit more and a bit less; the first and the last set bit. Nothing of the program's text is walked.
-/
import Derived.Test.YtifglncofbkcpaaDoorBitsF
namespace Go.Proofs.YtifglncofbkcpaaDoor
open Go.ChangeShapes Go.WideShapes Go.ChangeAt Go.RowKit
set_option linter.unusedVariables false

theorem or_pow_add (x n : Nat) (h : x.testBit n = false) : x ||| 2 ^ n = x + 2 ^ n := by
  have e : x = 2 ^ n * (x / 2 ^ n) + x % 2 ^ n := (Nat.div_add_mod x (2 ^ n)).symm
  have hr : x % 2 ^ n < 2 ^ n := Nat.mod_lt _ (Nat.two_pow_pos n)
  rw [Nat.testBit_eq_decide_div_mod_eq] at h
  have hq : x / 2 ^ n % 2 = 0 := by have := of_decide_eq_false h; omega
  generalize x / 2 ^ n = q at *
  generalize x % 2 ^ n = r at *
  subst e
  have e2 : 2 ^ n * q + r + 2 ^ n = 2 ^ n * (q + 1) + r := by rw [Nat.mul_add, Nat.mul_one]; omega
  rw [e2]
  apply Nat.eq_of_testBit_eq
  intro j
  rw [Nat.testBit_or, Nat.testBit_two_pow_mul_add _ hr, Nat.testBit_two_pow_mul_add _ hr, Nat.testBit_two_pow]
  by_cases hj : j < n
  · have : ¬ n = j := by omega
    simp [hj, this]
  · rw [if_neg hj, if_neg hj]
    by_cases hn : n = j
    · subst hn
      rw [Nat.sub_self, Nat.testBit_zero, Nat.testBit_zero]
      have : (q + 1) % 2 = 1 := by omega
      simp [this]
    · obtain ⟨d, hd⟩ : ∃ d, j - n = d + 1 := ⟨j - n - 1, by omega⟩
      rw [hd, Nat.testBit_succ, Nat.testBit_succ]
      have : (q + 1) / 2 = q / 2 := by omega
      simp [this, hn]
theorem or_pow_same (x n : Nat) (h : x.testBit n = true) : x ||| 2 ^ n = x := by
  apply Nat.eq_of_testBit_eq
  intro j
  rw [Nat.testBit_or, Nat.testBit_two_pow]
  by_cases hn : n = j
  · subst hn; simp [h]
  · simp [hn]
theorem mask_bit (n j : Nat) (hn : n < 64) : (18446744073709551615 - 2 ^ n).testBit j = (decide (j < 64) && !decide (n = j)) := by
  have hp : 2 ^ n < 2 ^ 64 := Nat.pow_lt_pow_right (by decide) hn
  have e : 18446744073709551615 - 2 ^ n = 2 ^ 64 - (2 ^ n + 1) := by omega
  rw [e, Nat.testBit_two_pow_sub_succ hp, Nat.testBit_two_pow]
theorem without_bit (x n j : Nat) (hn : n < 64) (hx : x < 18446744073709551616) : (x &&& (18446744073709551615 - 2 ^ n)).testBit j = (x.testBit j && !decide (n = j)) := by
  rw [Nat.testBit_and, mask_bit n j hn]
  by_cases hj : j < 64
  · simp [hj]
  · rw [upper_bit x j hx (by omega)]; simp
theorem without_same (x n : Nat) (hn : n < 64) (hx : x < 18446744073709551616) (h : x.testBit n = false) : x &&& (18446744073709551615 - 2 ^ n) = x := by
  apply Nat.eq_of_testBit_eq
  intro j
  rw [without_bit x n j hn hx]
  by_cases e : n = j
  · subst e; simp [h]
  · simp [e]
theorem without_sub (x n : Nat) (hn : n < 64) (hx : x < 18446744073709551616) (h : x.testBit n = true) : x &&& (18446744073709551615 - 2 ^ n) = x - 2 ^ n ∧ 2 ^ n ≤ x := by
  have hb : (x &&& (18446744073709551615 - 2 ^ n)).testBit n = false := by rw [without_bit x n n hn hx]; simp
  have h1 := or_pow_add _ n hb
  have h2 : (x &&& (18446744073709551615 - 2 ^ n)) ||| 2 ^ n = x := by
    apply Nat.eq_of_testBit_eq
    intro j
    rw [Nat.testBit_or, without_bit x n j hn hx, Nat.testBit_two_pow]
    by_cases e : n = j
    · subst e; simp [h]
    · simp [e]
  rw [h2] at h1
  omega

/-- A bit, made 1 and 0: by the number alone. -/
theorem one_out (b : Nat) (i : Int) (hb : b < 18446744073709551616) (h : ¬ (0 ≤ i ∧ i < 64)) : hasB b i = false ∧ oneM i = 0 ∧ withM b i = b ∧ withoutM b i = b := by
  have e : oneM i = 0 := by unfold oneM; rw [if_neg h]
  refine ⟨by unfold hasB; rw [decide_eq_false h, Bool.false_and], e, by unfold withM; rw [e]; simp, ?_⟩
  unfold withoutM
  rw [e]
  have := Nat.and_two_pow_sub_one_of_lt_two_pow (n := 64) hb
  simpa using this
theorem one_set (b n : Nat) (hb : b < 18446744073709551616) (hn : n < 64) (h : b.testBit n = true) : hasB b n = true ∧ 0 < oneM n ∧ withM b n = b ∧ withoutM b n = b - oneM n ∧ oneM n ≤ b := by
  have hc : (0 : Int) ≤ (n : Int) ∧ (n : Int) < 64 := by omega
  have e : oneM n = 2 ^ n := by unfold oneM; rw [if_pos hc, Int.toNat_natCast]
  unfold hasB withM withoutM
  rw [e, decide_eq_true hc, Int.toNat_natCast, h]
  have := without_sub b n hn hb h
  exact ⟨rfl, Nat.two_pow_pos n, or_pow_same b n h, this.1, this.2⟩
theorem one_unset (b n : Nat) (hb : b < 18446744073709551616) (hn : n < 64) (h : b.testBit n = false) : hasB b n = false ∧ 0 < oneM n ∧ withM b n = b + oneM n ∧ withoutM b n = b := by
  have hc : (0 : Int) ≤ (n : Int) ∧ (n : Int) < 64 := by omega
  have e : oneM n = 2 ^ n := by unfold oneM; rw [if_pos hc, Int.toNat_natCast]
  unfold hasB withM withoutM
  rw [e, decide_eq_true hc, Int.toNat_natCast, h]
  exact ⟨rfl, Nat.two_pow_pos n, or_pow_add b n h, without_same b n hn hb h⟩

/-! ### The first and the last one -/
theorem upTo_lt (b n x : Nat) (h : x ∈ upTo b n) : x < n := by
  unfold upTo at h
  simpa using (List.mem_filter.1 h).1
theorem nextL_head (f : Int) (x : Nat) (l : List Nat) (h : f ≤ (x : Int)) : nextL f (x :: l) = x := by
  show (if f ≤ (x : Int) then (x : Int) else nextL f l) = x
  rw [if_pos h]
theorem lastL_end (f : Int) (l : List Nat) (x : Nat) (h : (x : Int) ≤ f) : lastL f (l ++ [x]) = x := by rw [lastL_snoc, if_pos h]
theorem far_next (b : Nat) (f : Int) (h : 64 ≤ f) : nextM b f = -1 := nextM_none b f fun j hj hf => by omega
theorem low_last (b : Nat) (f : Int) (h : f ≤ -1) : lastM b f = -1 := lastM_none b f fun j hj hf => by omega
theorem low_next (b : Nat) (f : Int) (h : f ≤ -1) (hn : upTo b 64 ≠ []) : nextM b f = ((upTo b 64).getD 0 0 : Nat) := by
  unfold nextM
  cases e : upTo b 64 with
  | nil => exact absurd e hn
  | cons x l => rw [nextL_head f x l (by omega)]; rfl
theorem far_last (b : Nat) (f : Int) (h : 64 ≤ f) (m : Nat) (hm : (upTo b 64).length = m + 1) : lastM b f = ((upTo b 64).getD m 0 : Nat) := by
  unfold lastM
  have hlt := fun x => upTo_lt b 64 x
  generalize upTo b 64 = l at *
  obtain ⟨l', x, rfl⟩ : ∃ l' x, l = l' ++ [x] := ⟨l.dropLast, l.getLast (by intro e; subst e; simp at hm), (List.dropLast_concat_getLast _).symm⟩
  have : x < 64 := hlt x (by simp)
  rw [lastL_end f l' x (by omega)]
  have : l'.length = m := by simpa using hm
  subst this
  simp
theorem none_next (b : Nat) (f : Int) (hn : upTo b 64 = []) : nextM b f = -1 := by unfold nextM; rw [hn]; rfl
theorem none_last (b : Nat) (f : Int) (hn : upTo b 64 = []) : lastM b f = -1 := by unfold lastM; rw [hn]; rfl
theorem nextL_take (f : Int) (l : List Nat) (k : Nat) (hk : k < l.length) : nextL f (l.take (k + 1)) = if 0 ≤ nextL f (l.take k) then nextL f (l.take k) else if f ≤ ((l.getD k 0 : Nat) : Int) then ((l.getD k 0 : Nat) : Int) else -1 := by
  rw [List.take_succ_eq_append_getElem hk, nextL_snoc]
  simp [List.getD_eq_getElem?_getD, List.getElem?_eq_getElem hk]
theorem lastL_take (f : Int) (l : List Nat) (k : Nat) (hk : k < l.length) : lastL f (l.take (k + 1)) = if ((l.getD k 0 : Nat) : Int) ≤ f then ((l.getD k 0 : Nat) : Int) else lastL f (l.take k) := by
  rw [List.take_succ_eq_append_getElem hk, lastL_snoc]
  simp [List.getD_eq_getElem?_getD, List.getElem?_eq_getElem hk]
end Go.Proofs.YtifglncofbkcpaaDoor
