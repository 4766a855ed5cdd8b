/-
  Plain arithmetic of words (a count below 2^61, a state above it), with nothing of the program in it.
-/
import Derived.WalkKit
import Derived.Laws.MathBits
import Derived.Laws.BitsAllLaws
namespace Go.Proofs.Ytbffoejdjpoibaa
set_option linter.unusedVariables false

theorem and_low61 (z : Int) (h0 : 0 ≤ z) (h1 : z ≤ 18446744073709551615) : bits .and .u64 z 2305843009213693951 = z % 2305843009213693952 := by
  obtain ⟨n, rfl⟩ := Int.eq_ofNat_of_zero_le h0
  rw [u64_and n 2305843009213693951 (by omega) (by omega) (by omega) (by omega)]
  have := Nat.and_two_pow_sub_one_eq_mod n 61
  simp at this ⊢
  omega

theorem andNot_low61 (z : Int) (h0 : 0 ≤ z) (h1 : z ≤ 18446744073709551615) : bits .andNot .u64 z 2305843009213693951 = z - z % 2305843009213693952 := by
  obtain ⟨n, rfl⟩ := Int.eq_ofNat_of_zero_le h0
  rw [u64_andNot n 2305843009213693951 (by omega) (by omega) (by omega) (by omega)]
  have h : n &&& 16140901064495857664 = n / 2305843009213693952 * 2305843009213693952 := by
    apply Nat.eq_of_testBit_eq
    intro j
    have e : (16140901064495857664 : Nat) = 7 * 2 ^ 61 := by decide
    have e2 : (2305843009213693952 : Nat) = 2 ^ 61 := by decide
    have e3 : (7 : Nat) = 2 ^ 3 - 1 := by decide
    rw [Nat.testBit_and, e, e2, Nat.testBit_mul_two_pow, Nat.testBit_mul_two_pow, Nat.testBit_div_two_pow, e3, Nat.testBit_two_pow_sub_one]
    by_cases hj : 61 ≤ j
    · have : j - 61 + 61 = j := by omega
      simp only [hj, this, decide_true, Bool.true_and]
      by_cases hj2 : j - 61 < 3
      · simp [hj2]
      · have : n.testBit j = false := Nat.testBit_lt_two_pow (Nat.lt_of_lt_of_le (by omega : n < 2 ^ 64) (Nat.pow_le_pow_right (by omega) (by omega)))
        simp [this]
    · simp [hj]
  simp at h ⊢
  omega

theorem or_state (s n : Int) (h0 : 0 ≤ s) (h1 : s ≤ 7) (h2 : 0 ≤ n) (h3 : n < 2305843009213693952) : bits .or .u64 (s * 2305843009213693952) n = s * 2305843009213693952 + n := by
  obtain ⟨S, rfl⟩ := Int.eq_ofNat_of_zero_le h0
  obtain ⟨N, rfl⟩ := Int.eq_ofNat_of_zero_le h2
  have h := nat_join 61 (S * 2305843009213693952) N (by omega) (by omega)
  have := u64_or_nat (S * 2305843009213693952) N (by omega) (by omega)
  have e : ((S * 2305843009213693952 : Nat) : Int) = (S : Int) * 2305843009213693952 := by omega
  rw [h, Int.natCast_add, e] at this
  exact this

theorem or_state' (s n : Int) (h0 : 0 ≤ s) (h1 : s ≤ 7) (h2 : 0 ≤ n) (h3 : n < 2305843009213693952) : bits .or .u64 n (s * 2305843009213693952) = s * 2305843009213693952 + n := by
  obtain ⟨S, rfl⟩ := Int.eq_ofNat_of_zero_le h0
  obtain ⟨N, rfl⟩ := Int.eq_ofNat_of_zero_le h2
  have h := nat_join 61 (S * 2305843009213693952) N (by omega) (by omega)
  have := u64_or_nat N (S * 2305843009213693952) (by omega) (by omega)
  have e : ((S * 2305843009213693952 : Nat) : Int) = (S : Int) * 2305843009213693952 := by omega
  rw [Nat.or_comm, h, Int.natCast_add, e] at this
  exact this

/-- Of a word: is it one, its count, its state. -/
def rightB (w : Int) : Bool := decide (w < 6917529027641081856)
def countM (w : Int) : Int := if w < 6917529027641081856 then w % 2305843009213693952 else 0
def stateM (w : Int) : Int := if w < 6917529027641081856 then w / 2305843009213693952 else -1
/-- Of a count and a state: is there such a word, and which. -/
def packB (n s : Int) : Bool := decide (n ≤ 2305843009213693951 ∧ 0 ≤ s ∧ s ≤ 2)
def packM (n s : Int) : Int := if n ≤ 2305843009213693951 ∧ 0 ≤ s ∧ s ≤ 2 then s * 2305843009213693952 + n else 0
/-- Of a word: may it be claimed, rested, shut, and as what. -/
def moreB (w : Int) : Bool := decide (w < 4611686018427387904 ∧ w % 2305843009213693952 < 2305843009213693951)
def moreM (w : Int) : Int := if w < 4611686018427387904 ∧ w % 2305843009213693952 < 2305843009213693951 then 2305843009213693952 + (w % 2305843009213693952 + 1) else 0
def restB (w : Int) : Bool := decide (2305843009213693952 ≤ w ∧ w < 4611686018427387904)
def restM (w : Int) : Int := if 2305843009213693952 ≤ w ∧ w < 4611686018427387904 then w - 2305843009213693952 else 0
def shutB (w : Int) : Bool := decide (w < 2305843009213693952)
def shutM (w : Int) : Int := if w < 2305843009213693952 then w + 4611686018427387904 else 0
end Go.Proofs.Ytbffoejdjpoibaa
