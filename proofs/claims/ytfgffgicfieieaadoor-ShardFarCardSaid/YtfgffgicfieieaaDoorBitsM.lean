/-
  Plain arithmetic of bitmaps of 64 bits (which bits are set, the next one, the last one, how many), with nothing of the program in it.
-/
import Derived.WalkKit
import Derived.Laws.MathBits
import Derived.Laws.BitsAllLaws
import Derived.Lib.TrailingZeros
namespace Go.Proofs.YtfgffgicfieieaaDoor
set_option maxRecDepth 100000
set_option linter.unusedVariables false

/-- The set bits of b below n, rising. -/
def upTo (b n : Nat) : List Nat := (List.range n).filter fun i => b.testBit i
theorem upTo_zero (b : Nat) : upTo b 0 = [] := rfl
theorem upTo_succ (b n : Nat) : upTo b (n + 1) = if b.testBit n = true then upTo b n ++ [n] else upTo b n := by
  unfold upTo
  rw [List.range_succ, List.filter_append]
  by_cases h : b.testBit n = true
  · simp [h]
  · simp [h]
theorem upTo_len (b : Nat) : ∀ n, (upTo b n).length ≤ n
  | 0 => Nat.le_refl _
  | n + 1 => by have := upTo_len b n; rw [upTo_succ]; split <;> simp <;> omega
theorem upTo_skip (b k : Nat) : ∀ m, k ≤ m → (∀ j : Nat, k ≤ j → j < m → b.testBit j = false) → upTo b m = upTo b k := by
  intro m hm
  induction m with
  | zero => intro _; have : k = 0 := by omega
            rw [this]
  | succ m ih =>
    intro h
    by_cases e : k = m + 1
    · rw [e]
    · rw [upTo_succ, if_neg (by rw [h m (by omega) (by omega)]; simp), ih (by omega) (fun j h1 h2 => h j h1 (by omega))]
theorem upTo_next (b k m : Nat) (hk : k ≤ m) (hm : b.testBit m = true) (h : ∀ j : Nat, k ≤ j → j < m → b.testBit j = false) : upTo b (m + 1) = upTo b k ++ [m] := by
  rw [upTo_succ, if_pos hm, upTo_skip b k m hk h]

/-- The set bits of b from k on (below 64), rising. -/
def fromOn (b k : Nat) : List Nat := (List.range' k (64 - k)).filter fun i => b.testBit i
theorem fromOn_all (b : Nat) : fromOn b 0 = upTo b 64 := by
  unfold fromOn upTo
  rw [List.range_eq_range']
theorem fromOn_end (b : Nat) : fromOn b 64 = [] := rfl
theorem fromOn_step (b k : Nat) (hk : k < 64) : fromOn b k = if b.testBit k = true then k :: fromOn b (k + 1) else fromOn b (k + 1) := by
  unfold fromOn
  obtain ⟨n, hn⟩ : ∃ n, 64 - k = n + 1 := ⟨64 - k - 1, by omega⟩
  have e : 64 - (k + 1) = n := by omega
  rw [e, hn, List.range'_succ, List.filter_cons]
theorem fromOn_skip (b k : Nat) (hk : k ≤ 64) : ∀ d m, k = m + d → (∀ j : Nat, m ≤ j → j < k → b.testBit j = false) → fromOn b m = fromOn b k := by
  intro d
  induction d with
  | zero => intro m e _; rw [e]; rfl
  | succ d ih =>
    intro m e h
    rw [fromOn_step b m (by omega), if_neg (by rw [h m (by omega) (by omega)]; simp), ih (m + 1) (by omega) (fun j h1 h2 => h j (by omega) h2)]
theorem fromOn_last (b m k : Nat) (hk : k ≤ 64) (hm : m < k) (hb : b.testBit m = true) (h : ∀ j : Nat, m < j → j < k → b.testBit j = false) : fromOn b m = m :: fromOn b k := by
  rw [fromOn_step b m (by omega), if_pos hb, fromOn_skip b k hk (k - (m + 1)) (m + 1) (by omega) (fun j h1 h2 => h j (by omega) h2)]
theorem fromOn_len (b k : Nat) : (fromOn b k).length ≤ 64 - k := by
  unfold fromOn
  have := List.length_filter_le (fun i => b.testBit i) (List.range' k (64 - k))
  simpa using this

/-- The first one of a rising list that is at least f, and the last one that is at most f; -1. -/
def nextL (f : Int) : List Nat → Int
  | [] => -1
  | j :: l => if f ≤ (j : Int) then j else nextL f l
def lastL (f : Int) (l : List Nat) : Int := l.foldl (fun (r : Int) (j : Nat) => if (j : Int) ≤ f then (j : Int) else r) (-1)
theorem nextL_range (f : Int) : ∀ l, -1 ≤ nextL f l
  | [] => Int.le_refl _
  | j :: l => by have := nextL_range f l; unfold nextL; split <;> omega
theorem nextL_snoc (f : Int) (j : Nat) : ∀ l, nextL f (l ++ [j]) = if 0 ≤ nextL f l then nextL f l else if f ≤ (j : Int) then (j : Int) else -1
  | [] => by simp [nextL]
  | i :: l => by
    have ih := nextL_snoc f j l
    have e1 : nextL f (i :: l ++ [j]) = if f ≤ (i : Int) then (i : Int) else nextL f (l ++ [j]) := rfl
    have e2 : nextL f (i :: l) = if f ≤ (i : Int) then (i : Int) else nextL f l := rfl
    rw [e1, e2, ih]
    by_cases h : f ≤ (i : Int)
    · simp [h]
    · simp only [h, if_false]
theorem lastL_snoc (f : Int) (j : Nat) (l : List Nat) : lastL f (l ++ [j]) = if (j : Int) ≤ f then (j : Int) else lastL f l := by
  unfold lastL
  rw [List.foldl_append]
  rfl
theorem next_cases (b : Nat) (f : Int) : ∀ n, (nextL f (upTo b n) = -1 ∧ ∀ j : Nat, j < n → f ≤ (j : Int) → b.testBit j = false) ∨ ∃ k : Nat, k < n ∧ nextL f (upTo b n) = (k : Int) ∧ b.testBit k = true ∧ f ≤ (k : Int) ∧ ∀ j : Nat, j < k → f ≤ (j : Int) → b.testBit j = false
  | 0 => .inl ⟨rfl, fun j h => by omega⟩
  | n + 1 => by
    rcases next_cases b f n with ⟨e, h⟩ | ⟨k, hk, e, hb, hf, h⟩
    · by_cases hn : b.testBit n = true
      · rw [upTo_succ, if_pos hn, nextL_snoc, e, if_neg (by omega)]
        by_cases hf : f ≤ (n : Int)
        · rw [if_pos hf]
          exact .inr ⟨n, by omega, rfl, hn, hf, h⟩
        · rw [if_neg hf]
          refine .inl ⟨rfl, fun j hj hf' => ?_⟩
          by_cases ej : j = n
          · subst ej; exact absurd hf' hf
          · exact h j (by omega) hf'
      · rw [upTo_succ, if_neg hn]
        refine .inl ⟨e, fun j hj hf' => ?_⟩
        by_cases ej : j = n
        · subst ej; simpa using hn
        · exact h j (by omega) hf'
    · refine .inr ⟨k, by omega, ?_, hb, hf, h⟩
      by_cases hn : b.testBit n = true
      · rw [upTo_succ, if_pos hn, nextL_snoc, e, if_pos (by omega)]
      · rw [upTo_succ, if_neg hn, e]
theorem last_cases (b : Nat) (f : Int) : ∀ n, (lastL f (upTo b n) = -1 ∧ ∀ j : Nat, j < n → (j : Int) ≤ f → b.testBit j = false) ∨ ∃ k : Nat, k < n ∧ lastL f (upTo b n) = (k : Int) ∧ b.testBit k = true ∧ (k : Int) ≤ f ∧ ∀ j : Nat, k < j → j < n → (j : Int) ≤ f → b.testBit j = false
  | 0 => .inl ⟨rfl, fun j h => by omega⟩
  | n + 1 => by
    by_cases hn : b.testBit n = true ∧ (n : Int) ≤ f
    · refine .inr ⟨n, by omega, ?_, hn.1, hn.2, fun j h1 h2 => by omega⟩
      rw [upTo_succ, if_pos hn.1, lastL_snoc, if_pos hn.2]
    · have e0 : lastL f (upTo b (n + 1)) = lastL f (upTo b n) := by
        rw [upTo_succ]
        by_cases h1 : b.testBit n = true
        · rw [if_pos h1, lastL_snoc, if_neg (fun h2 => hn ⟨h1, h2⟩)]
        · rw [if_neg h1]
      have en : (n : Int) ≤ f → b.testBit n = false := fun h2 => by
        by_cases h1 : b.testBit n = true
        · exact absurd ⟨h1, h2⟩ hn
        · simpa using h1
      rcases last_cases b f n with ⟨e, h⟩ | ⟨k, hk, e, hb, hf, h⟩
      · refine .inl ⟨e0.trans e, fun j hj hf' => ?_⟩
        by_cases ej : j = n
        · subst ej; exact en hf'
        · exact h j (by omega) hf'
      · refine .inr ⟨k, by omega, e0.trans e, hb, hf, fun j h1 h2 h3 => ?_⟩
        by_cases ej : j = n
        · subst ej; exact en h3
        · exact h j h1 (by omega) h3

/-- The same, of a bitmap of 64 bits. -/
def nextM (b : Nat) (f : Int) : Int := nextL f (upTo b 64)
def lastM (b : Nat) (f : Int) : Int := lastL f (upTo b 64)
def manyM (b : Nat) : Nat := (upTo b 64).length
theorem nextM_is (b k : Nat) (f : Int) (hk : k < 64) (hb : b.testBit k = true) (hf : f ≤ (k : Int)) (h : ∀ j : Nat, j < k → f ≤ (j : Int) → b.testBit j = false) : nextM b f = k := by
  rcases next_cases b f 64 with ⟨_, h'⟩ | ⟨k', hk', e, hb', hf', h'⟩
  · rw [h' k hk hf] at hb; cases hb
  · have : k = k' := by
      rcases Nat.lt_trichotomy k k' with l | l | l
      · rw [h' k l hf] at hb; cases hb
      · exact l
      · rw [h k' l hf'] at hb'; cases hb'
    unfold nextM
    rw [e, this]
theorem nextM_none (b : Nat) (f : Int) (h : ∀ j : Nat, j < 64 → f ≤ (j : Int) → b.testBit j = false) : nextM b f = -1 := by
  rcases next_cases b f 64 with ⟨e, _⟩ | ⟨k', hk', e, hb', hf', h'⟩
  · exact e
  · rw [h k' hk' hf'] at hb'; cases hb'
theorem lastM_is (b k : Nat) (f : Int) (hk : k < 64) (hb : b.testBit k = true) (hf : (k : Int) ≤ f) (h : ∀ j : Nat, k < j → j < 64 → (j : Int) ≤ f → b.testBit j = false) : lastM b f = k := by
  rcases last_cases b f 64 with ⟨_, h'⟩ | ⟨k', hk', e, hb', hf', h'⟩
  · rw [h' k hk hf] at hb; cases hb
  · have : k = k' := by
      rcases Nat.lt_trichotomy k k' with l | l | l
      · rw [h k' l hk' hf'] at hb'; cases hb'
      · exact l
      · rw [h' k l hk hf] at hb; cases hb
    unfold lastM
    rw [e, this]
theorem lastM_none (b : Nat) (f : Int) (h : ∀ j : Nat, j < 64 → (j : Int) ≤ f → b.testBit j = false) : lastM b f = -1 := by
  rcases last_cases b f 64 with ⟨e, _⟩ | ⟨k', hk', e, hb', hf', h'⟩
  · exact e
  · rw [h k' hk' hf'] at hb'; cases hb'
theorem nextM_cases (b : Nat) (f : Int) : (nextM b f = -1 ∧ ∀ j : Nat, j < 64 → f ≤ (j : Int) → b.testBit j = false) ∨ ∃ k : Nat, k < 64 ∧ nextM b f = (k : Int) ∧ b.testBit k = true ∧ f ≤ (k : Int) ∧ ∀ j : Nat, j < k → f ≤ (j : Int) → b.testBit j = false := next_cases b f 64
theorem lastM_cases (b : Nat) (f : Int) : (lastM b f = -1 ∧ ∀ j : Nat, j < 64 → (j : Int) ≤ f → b.testBit j = false) ∨ ∃ k : Nat, k < 64 ∧ lastM b f = (k : Int) ∧ b.testBit k = true ∧ (k : Int) ≤ f ∧ ∀ j : Nat, k < j → j < 64 → (j : Int) ≤ f → b.testBit j = false := last_cases b f 64

/-! ### Masks -/
theorem low_bit (c j : Nat) : (2 ^ c - 1).testBit j = decide (j < c) := Nat.testBit_two_pow_sub_one c j
theorem high_bit (c j : Nat) (hc : c ≤ 64) : (18446744073709551615 - (2 ^ c - 1)).testBit j = (decide (j < 64) && decide (c ≤ j)) := by
  have hp : 2 ^ c ≤ 2 ^ 64 := Nat.pow_le_pow_right (by decide) hc
  have hq : 0 < 2 ^ c := Nat.two_pow_pos c
  have e : 18446744073709551615 - (2 ^ c - 1) = 2 ^ 64 - ((2 ^ c - 1) + 1) := by omega
  rw [e, Nat.testBit_two_pow_sub_succ (by omega), low_bit]
  by_cases h : j < c
  · simp [h] <;> omega
  · simp [h] <;> omega
theorem rest_bit (b c j : Nat) (hc : c ≤ 64) (hj : j < 64) : (b &&& (18446744073709551615 - (2 ^ c - 1))).testBit j = (b.testBit j && decide (c ≤ j)) := by
  rw [Nat.testBit_and, high_bit c j hc]; simp [hj]
theorem upper_bit (b j : Nat) (hb : b < 18446744073709551616) (hj : 64 ≤ j) : b.testBit j = false :=
  Nat.testBit_lt_two_pow (Nat.lt_of_lt_of_le (show b < 2 ^ 64 from hb) (Nat.pow_le_pow_right (by decide) hj))
theorem zero_of_bits (x : Nat) (hx : x < 18446744073709551616) (h : ∀ j : Nat, j < 64 → x.testBit j = false) : x = 0 := by
  apply Nat.eq_of_testBit_eq
  intro j
  rw [Nat.zero_testBit]
  by_cases hj : j < 64
  · exact h j hj
  · exact upper_bit x j hx (by omega)
theorem ctz_bits (x : Nat) (h0 : x ≠ 0) (hx : x < 18446744073709551616) : Lib.ctz 64 x < 64 ∧ x.testBit (Lib.ctz 64 x) = true ∧ ∀ j : Nat, j < Lib.ctz 64 x → x.testBit j = false := by
  have e : Lib.ctz 64 x = Lib.ctzFrom 64 x := by simp [Lib.ctz, h0]
  obtain ⟨m, hm, hk⟩ := Lib.ctzFrom_spec 64 x (by omega) hx
  rw [e]
  generalize Lib.ctzFrom 64 x = k at *
  subst hm
  refine ⟨hk, ?_, fun j hj => ?_⟩
  · rw [Nat.testBit_two_pow_mul]; simp
  · rw [Nat.testBit_two_pow_mul]; simp; intro h; omega
theorem bitLen_bits (x : Nat) (h0 : x ≠ 0) (hx : x < 18446744073709551616) : 1 ≤ bitLen x ∧ bitLen x ≤ 64 ∧ x.testBit (bitLen x - 1) = true ∧ ∀ j, bitLen x - 1 < j → x.testBit j = false := by
  have e : bitLen x = x.log2 + 1 := by simp [bitLen, h0]
  rw [e]
  refine ⟨by omega, ?_, ?_, fun j hj => ?_⟩
  · have := (Nat.log2_lt h0).2 (show x < 2 ^ 64 from hx); omega
  · simpa using Nat.testBit_log2 h0
  · exact Nat.testBit_lt_two_pow (Nat.lt_of_lt_of_le Nat.lt_log2_self (Nat.pow_le_pow_right (by decide) (by omega)))

/-- A number, held to 0 and 64. -/
def held (i : Int) : Nat := if i < 0 then 0 else if i ≤ 64 then i.toNat else 64
theorem held_le (i : Int) : held i ≤ 64 := by unfold held; split <;> (try split) <;> omega
theorem held_iff (i : Int) (j : Nat) (hj : j < 64) : held i ≤ j ↔ i ≤ (j : Int) := by unfold held; split <;> (try split) <;> omega

theorem next_rest (b : Nat) (f : Int) (hb : b < 18446744073709551616) :
    (b &&& (18446744073709551615 - (2 ^ held f - 1)) = 0 → nextM b f = -1) ∧ (b &&& (18446744073709551615 - (2 ^ held f - 1)) ≠ 0 → nextM b f = (Lib.ctz 64 (b &&& (18446744073709551615 - (2 ^ held f - 1))) : Int)) := by
  have hr : ∀ j : Nat, j < 64 → (b &&& (18446744073709551615 - (2 ^ held f - 1))).testBit j = (b.testBit j && decide (held f ≤ j)) := fun j hj => rest_bit b _ j (held_le f) hj
  have hl : b &&& (18446744073709551615 - (2 ^ held f - 1)) < 18446744073709551616 := Nat.lt_of_le_of_lt Nat.and_le_left hb
  generalize b &&& (18446744073709551615 - (2 ^ held f - 1)) = r at *
  refine ⟨fun h0 => nextM_none b f fun j hj hf => ?_, fun h0 => ?_⟩
  · have := hr j hj
    rw [h0, Nat.zero_testBit] at this
    simpa [(held_iff f j hj).2 hf] using this
  · obtain ⟨k1, k2, k3⟩ := ctz_bits r h0 hl
    have h2 := (hr _ k1).symm.trans k2
    simp at h2
    refine nextM_is b _ f k1 h2.1 ((held_iff f _ k1).1 h2.2) fun j hj hf => ?_
    have := (hr j (by omega)).symm.trans (k3 j hj)
    simpa [(held_iff f j (by omega)).2 hf] using this
theorem last_rest (b : Nat) (f : Int) (hb : b < 18446744073709551616) :
    (b &&& (2 ^ held (f + 1) - 1) = 0 → lastM b f = -1) ∧ (b &&& (2 ^ held (f + 1) - 1) ≠ 0 → lastM b f = (bitLen (b &&& (2 ^ held (f + 1) - 1)) : Int) - 1) := by
  have hr : ∀ j, (b &&& (2 ^ held (f + 1) - 1)).testBit j = (b.testBit j && decide (j < held (f + 1))) := fun j => by rw [Nat.testBit_and, low_bit]
  have hl : b &&& (2 ^ held (f + 1) - 1) < 18446744073709551616 := Nat.lt_of_le_of_lt Nat.and_le_left hb
  have hh : ∀ j : Nat, j < 64 → (j < held (f + 1) ↔ (j : Int) ≤ f) := fun j hj => by have := held_iff (f + 1) j hj; omega
  generalize b &&& (2 ^ held (f + 1) - 1) = r at *
  refine ⟨fun h0 => lastM_none b f fun j hj hf => ?_, fun h0 => ?_⟩
  · have := hr j
    rw [h0, Nat.zero_testBit] at this
    simpa [(hh j hj).2 hf] using this
  · obtain ⟨k0, k1, k2, k3⟩ := bitLen_bits r h0 hl
    have h2 := (hr _).symm.trans k2
    simp at h2
    have := lastM_is b (bitLen r - 1) f (by omega) h2.1 ((hh _ (by omega)).1 h2.2) fun j hj hj2 hf => by
      have := (hr j).symm.trans (k3 j hj)
      simpa [(hh j hj2).2 hf] using this
    rw [this]
    omega
end Go.Proofs.YtfgffgicfieieaaDoor
