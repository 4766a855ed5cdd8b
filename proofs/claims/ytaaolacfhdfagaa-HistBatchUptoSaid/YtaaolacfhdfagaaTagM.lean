/-
  Plain arithmetic on words, with nothing of the program in it: sums and products held at the greatest word, and the product by halves.
-/
import Derived.WalkKit
namespace Go.Proofs.Ytaaolacfhdfagaa
set_option maxRecDepth 100000
set_option linter.unusedVariables false

/-- A word's sum and product, held at the greatest word. -/
def addM (a b : Int) : Int := if a + b ≤ 18446744073709551615 then a + b else 18446744073709551615
def mulM (a b : Int) : Int := if a * b ≤ 18446744073709551615 then a * b else 18446744073709551615

theorem mul_le {a b c d : Int} (h0 : 0 ≤ a) (h1 : a ≤ c) (h2 : 0 ≤ b) (h3 : b ≤ d) : a * b ≤ c * d :=
  Int.mul_le_mul h1 h3 h2 (by omega)

theorem half (a : Int) (ha : 0 ≤ a) (ha1 : a ≤ 18446744073709551615) :
    0 ≤ a / 4294967296 ∧ a / 4294967296 ≤ 4294967295 ∧ 0 ≤ a % 4294967296 ∧ a % 4294967296 ≤ 4294967295 ∧ a = a / 4294967296 * 4294967296 + a % 4294967296 := by
  omega

theorem prod_half {x y : Int} (h0 : 0 ≤ x) (h1 : x ≤ 4294967295) (h2 : 0 ≤ y) (h3 : y ≤ 4294967295) : 0 ≤ x * y ∧ x * y ≤ 18446744065119617025 :=
  ⟨Int.mul_nonneg h0 h2, mul_le h0 h1 h2 h3⟩

theorem mul_both {a b : Int} (ha : 4294967296 ≤ a) (hb : 4294967296 ≤ b) : mulM a b = 18446744073709551615 := by
  have h := mul_le (a := 4294967296) (b := 4294967296) (by omega) ha (by omega) hb
  unfold mulM; rw [if_neg]; omega

/-- one high half is 0, the cross product has a high half: over. -/
theorem mul_cross {a b : Int} (ha : 0 ≤ a) (hb : 0 ≤ b) (h : 4294967296 ≤ a * (b / 4294967296)) : mulM a b = 18446744073709551615 := by
  have h1 : a * (b / 4294967296 * 4294967296) ≤ a * b := mul_le ha (Int.le_refl _) (by omega) (by omega)
  rw [← Int.mul_assoc] at h1
  unfold mulM; rw [if_neg]; omega

theorem mul_parts (a b : Int) : a * b = a * (b / 4294967296) * 4294967296 + a * (b % 4294967296) := by
  have h : b = b / 4294967296 * 4294967296 + b % 4294967296 := by omega
  have : a * b = a * (b / 4294967296 * 4294967296 + b % 4294967296) := by rw [← h]
  rw [this, Int.mul_add, Int.mul_assoc]

theorem mul_comm (a b : Int) : mulM a b = mulM b a := by unfold mulM; rw [Int.mul_comm]

theorem mul_sum {a b : Int} : addM (a * (b / 4294967296) * 4294967296) (a * (b % 4294967296)) = mulM a b := by
  unfold addM mulM; rw [← mul_parts]

theorem add_word {a b : Int} (ha : 0 ≤ a) (hb : 0 ≤ b) : 0 ≤ addM a b ∧ addM a b ≤ 18446744073709551615 := by unfold addM; split <;> omega
theorem mul_word {a b : Int} (ha : 0 ≤ a) (hb : 0 ≤ b) : 0 ≤ mulM a b ∧ mulM a b ≤ 18446744073709551615 := by
  have := Int.mul_nonneg ha hb
  unfold mulM; split <;> omega

/-- What a unit costs where there is such a cost; a size that is never below 0; which item is ahead. -/
def invM (u k : Int) : Int := if u / k < 1 then 1 else u / k
def sizeM (s : Int) : Int := if s < 0 then 0 else s
def costM (s r : Int) : Int := mulM (sizeM s) r
def aheadB (k1 i1 k2 i2 : Int) : Bool := decide (k1 < k2 ∨ k1 = k2 ∧ i1 < i2)
theorem inv_ge (u k : Int) : 1 ≤ invM u k := by unfold invM; split <;> omega
theorem inv_one {u : Int} (hu : 1 ≤ u) : invM u 1 = u := by unfold invM; rw [Int.ediv_one, if_neg (by omega)]
theorem inv_le {u k : Int} (hu : 1 ≤ u) : invM u k ≤ u := by
  have := Int.ediv_le_self (a := u) k (by omega)
  unfold invM; split <;> omega
theorem inv_mono {u k l : Int} (hu : 0 ≤ u) (hk : 1 ≤ k) (h : k ≤ l) : invM u l ≤ invM u k := by
  have h2 : u / l ≤ u / k := by
    rw [Int.le_ediv_iff_mul_le (by omega)]
    have h3 := Int.ediv_mul_le u (b := l) (by omega)
    have h4 := mul_le (a := u / l) (b := k) (c := u / l) (d := l) (Int.ediv_nonneg hu (by omega)) (Int.le_refl _) (by omega) h
    omega
  unfold invM; split <;> split <;> omega
theorem size_mono {a b : Int} (h : a ≤ b) : sizeM a ≤ sizeM b := by unfold sizeM; split <;> split <;> omega
theorem size_nn (a : Int) : 0 ≤ sizeM a := by unfold sizeM; split <;> omega
theorem mul_mono {a b c : Int} (ha : 0 ≤ a) (h : a ≤ b) (hc : 0 ≤ c) : mulM a c ≤ mulM b c := by
  have h1 := mul_le (a := a) (b := c) (c := b) (d := c) ha h hc (Int.le_refl _)
  unfold mulM; split <;> split <;> omega
theorem cost_mono {a b r : Int} (h : a ≤ b) (hr : 0 ≤ r) : costM a r ≤ costM b r := mul_mono (size_nn a) (size_mono h) hr
theorem cost_nought {a : Int} (r : Int) (h : a ≤ 0) : costM a r = 0 := by
  unfold costM sizeM mulM
  split
  · simp
  · rw [show a = 0 by omega]; simp
/-- What the walk writes for 'uint(a) % k': a number below k. -/
theorem rem_is (a : Int) (k : Int) (hk : 1 ≤ k) : ∃ x : Int, 0 ≤ x ∧ x < k ∧ (IntKind.u64.wrap a).tmod k = x := by
  have h : 0 ≤ IntKind.u64.wrap a := by simp [IntKind.wrap, IntKind.bits, IntKind.signed]; omega
  rw [Int.tmod_eq_emod_of_nonneg h]
  exact ⟨_, Int.emod_nonneg _ (by omega), Int.emod_lt_of_pos _ (by omega), rfl⟩
theorem ahead_same (k i1 i2 : Int) : aheadB k i1 k i2 = decide (i1 < i2) := by unfold aheadB; simp
theorem ahead_not {k1 k2 : Int} (i1 i2 : Int) (h : ¬ k1 = k2) : aheadB k1 i1 k2 i2 = decide (k1 < k2) := by unfold aheadB; simp [h]

theorem add_comm (a b : Int) : addM a b = addM b a := by unfold addM; rw [Int.add_comm]
theorem add_assoc {a b c : Int} (ha : 0 ≤ a) (hb : 0 ≤ b) (hc : 0 ≤ c) : addM (addM a b) c = addM a (addM b c) := by
  unfold addM; repeat' split
  all_goals omega
theorem add_ge {a b : Int} (ha1 : a ≤ 18446744073709551615) (hb : 0 ≤ b) : a ≤ addM a b := by unfold addM; split <;> omega
theorem mul_top {c : Int} (hc : 1 ≤ c) : mulM 18446744073709551615 c = 18446744073709551615 := by
  unfold mulM
  split
  · omega
  · rfl
theorem mul_zero (a : Int) : mulM a 0 = 0 := by simp [mulM]
theorem zero_mul (a : Int) : mulM 0 a = 0 := by simp [mulM]
theorem mul_big {a b : Int} (h : 18446744073709551615 < a * b) : mulM a b = 18446744073709551615 := by unfold mulM; rw [if_neg (by omega)]
theorem mul_small {a b : Int} (h : a * b ≤ 18446744073709551615) : mulM a b = a * b := by unfold mulM; rw [if_pos h]
theorem mul_le_one {a b : Int} (ha : 0 ≤ a) (hb : 1 ≤ b) : a ≤ a * b := by
  have := mul_le (a := a) (b := 1) (c := a) (d := b) ha (Int.le_refl _) (by omega) hb
  omega
theorem mul_ge {a b : Int} (ha : 0 ≤ a) (ha1 : a ≤ 18446744073709551615) (hb : 1 ≤ b) : a ≤ mulM a b := by
  have := mul_le_one ha hb
  unfold mulM; split <;> omega
theorem mul_left {a b c : Int} (hb : 0 ≤ b) (hc : 1 ≤ c) (h : 18446744073709551615 < a * b) (ha : 1 ≤ a) : mulM (mulM a b) c = mulM a (mulM b c) := by
  rw [mul_big h, mul_top hc]
  by_cases h2 : b * c ≤ 18446744073709551615
  · rw [mul_small h2, mul_big]
    have h3 := mul_le_one hb hc
    have h4 := mul_le (a := a) (b := b) (c := a) (d := b * c) (by omega) (Int.le_refl _) hb h3
    omega
  · rw [mul_big (a := b) (b := c) (by omega), mul_comm, mul_top ha]
theorem mul_assoc {a b c : Int} (ha : 0 ≤ a) (hb : 0 ≤ b) (hc : 0 ≤ c) : mulM (mulM a b) c = mulM a (mulM b c) := by
  by_cases a0 : a = 0
  · subst a0; rw [zero_mul, zero_mul, zero_mul]
  by_cases c0 : c = 0
  · subst c0; rw [mul_zero, mul_zero, mul_zero]
  by_cases h1 : a * b ≤ 18446744073709551615
  · by_cases h2 : b * c ≤ 18446744073709551615
    · rw [mul_small h1, mul_small h2]; unfold mulM; rw [Int.mul_assoc]
    · have h := mul_left (a := c) (b := b) (c := a) hb (by omega) (by rw [Int.mul_comm]; omega) (by omega)
      rw [mul_comm (mulM a b) c, mul_comm a b, ← h, mul_comm c b, mul_comm (mulM b c) a]
  · exact mul_left hb (by omega) (by omega) (by omega)
/-- The greatest factor whose product with b is a word, and the next one. -/
theorem quo_fits {b : Int} (hb : 1 ≤ b) : 0 ≤ 18446744073709551615 / b ∧ 0 ≤ 18446744073709551615 / b * b ∧ 18446744073709551615 / b * b ≤ 18446744073709551615 ∧ 18446744073709551615 < (18446744073709551615 / b + 1) * b := by
  have h0 : 0 ≤ 18446744073709551615 / b := Int.ediv_nonneg (by omega) (by omega)
  have h1 := Int.ediv_mul_le 18446744073709551615 (b := b) (by omega)
  have h2 := Int.lt_ediv_add_one_mul_self 18446744073709551615 (b := b) (by omega)
  exact ⟨h0, Int.mul_nonneg h0 (by omega), h1, h2⟩
theorem quo_half {b : Int} (hb : 2 ≤ b) : 18446744073709551615 / b ≤ 9223372036854775807 := by
  have h1 := quo_fits (b := b) (by omega)
  have h2 := mul_le (a := 18446744073709551615 / b) (b := 2) (c := 18446744073709551615 / b) (d := b) h1.1 (Int.le_refl _) (by omega) hb
  omega
end Go.Proofs.Ytaaolacfhdfagaa
