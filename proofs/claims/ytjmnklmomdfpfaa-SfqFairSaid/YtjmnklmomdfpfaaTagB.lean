/-
  Contracts of tag.Mul and of the document's own Mul: each returns the product of two words, held at the greatest word. No condition but that both arguments are words.
-/
import Derived.Test.YtjmnklmomdfpfaaTagA
import Derived.Laws.MathBits
namespace Go.Proofs.Ytjmnklmomdfpfaa
set_option maxRecDepth 100000
open Go.ChangeShapes Go.WideShapes Go.ChangeAt Go.RowKit
set_option linter.unusedVariables false

set_option maxHeartbeats 400000 in
theorem mul_hi (a b : Int) (w : World) (ha : 0 ≤ a) (hb : 0 ≤ b) (ha1 : a ≤ 18446744073709551615) (hb1 : b ≤ 18446744073709551615)
    (h1 : 1 ≤ a / 4294967296) (h2 : 1 ≤ b / 4294967296) :
    Calls Try.prog 95 #[.int .u64 a, .int .u64 b] w fun e w' => e = .returned (.int .u64 18446744073709551615) ∧ w = w' := by
  have t1 : (a / 4294967296 != 0) = true := by simp; omega
  have t2 : (b / 4294967296 != 0) = true := by simp; omega
  go_enter Try.func95, Try.ntmps95
  go_wp2
  go_ret
  exact ⟨rfl, rfl⟩

set_option maxHeartbeats 400000 in
theorem mul_lo_over (a b : Int) (w : World) (ha : 0 ≤ a) (hb : 0 ≤ b) (ha1 : a ≤ 4294967295) (hb1 : b ≤ 18446744073709551615)
    (h : 4294967296 ≤ a * (b / 4294967296)) :
    Calls Try.prog 95 #[.int .u64 a, .int .u64 b] w fun e w' => e = .returned (.int .u64 18446744073709551615) ∧ w = w' := by
  have e1 := and_low32 a ha (by omega)
  have e2 := and_low32 b hb (by omega)
  have e3 : a % 4294967296 = a := by omega
  have e4 : a / 4294967296 = 0 := by omega
  have p := prod_half ha ha1 (half b hb hb1).1 (half b hb hb1).2.1
  obtain ⟨p1, p2⟩ := p
  have t : (a * (b / 4294967296) / 4294967296 != 0) = true := by simp; omega
  go_enter Try.func95, Try.ntmps95
  go_wp2
  go_ret
  exact ⟨rfl, rfl⟩

set_option maxHeartbeats 400000 in
theorem mul_lo_fit (a b : Int) (w : World) (ha : 0 ≤ a) (hb : 0 ≤ b) (ha1 : a ≤ 4294967295) (hb1 : b ≤ 18446744073709551615)
    (h : a * (b / 4294967296) ≤ 4294967295) :
    Calls Try.prog 95 #[.int .u64 a, .int .u64 b] w fun e w' => e = .returned (.int .u64 (mulM a b)) ∧ w = w' := by
  have e1 := and_low32 a ha (by omega)
  have e2 := and_low32 b hb (by omega)
  have e3 : a % 4294967296 = a := by omega
  have e4 : a / 4294967296 = 0 := by omega
  have p := prod_half ha ha1 (half b hb hb1).1 (half b hb hb1).2.1
  obtain ⟨p1, p2⟩ := p
  have q := prod_half ha ha1 (half b hb hb1).2.2.1 (half b hb hb1).2.2.2.1
  obtain ⟨q1, q2⟩ := q
  have t : (a * (b / 4294967296) / 4294967296 != 0) = false := by simp; omega
  rw [← mul_sum]
  go_enter Try.func95, Try.ntmps95
  go_wp2_with fail
  refine (add_any _ _ _ (by omega) (by omega) (by omega) (by omega)).mono ?_
  rintro e w' ⟨rfl, rfl⟩
  go_wp2
  go_ret
  exact ⟨rfl, rfl⟩

set_option maxHeartbeats 400000 in
theorem mul_ol_over (a b : Int) (w : World) (ha : 0 ≤ a) (hb : 0 ≤ b) (ha1 : a ≤ 18446744073709551615) (hb1 : b ≤ 4294967295)
    (h1 : 1 ≤ a / 4294967296) (h : 4294967296 ≤ a / 4294967296 * b) :
    Calls Try.prog 95 #[.int .u64 a, .int .u64 b] w fun e w' => e = .returned (.int .u64 18446744073709551615) ∧ w = w' := by
  have e1 := and_low32 a ha (by omega)
  have e2 := and_low32 b hb (by omega)
  have e3 : b % 4294967296 = b := by omega
  have e4 : b / 4294967296 = 0 := by omega
  have t1 : (a / 4294967296 != 0) = true := by simp; omega
  have p := prod_half (half a ha ha1).1 (half a ha ha1).2.1 hb hb1
  obtain ⟨p1, p2⟩ := p
  have t : (a / 4294967296 * b / 4294967296 != 0) = true := by simp; omega
  go_enter Try.func95, Try.ntmps95
  go_wp2
  go_ret
  exact ⟨rfl, rfl⟩

set_option maxHeartbeats 400000 in
theorem mul_ol_fit (a b : Int) (w : World) (ha : 0 ≤ a) (hb : 0 ≤ b) (ha1 : a ≤ 18446744073709551615) (hb1 : b ≤ 4294967295)
    (h1 : 1 ≤ a / 4294967296) (h : a / 4294967296 * b ≤ 4294967295) :
    Calls Try.prog 95 #[.int .u64 a, .int .u64 b] w fun e w' => e = .returned (.int .u64 (mulM a b)) ∧ w = w' := by
  have e1 := and_low32 a ha (by omega)
  have e2 := and_low32 b hb (by omega)
  have e3 : b % 4294967296 = b := by omega
  have e4 : b / 4294967296 = 0 := by omega
  have t1 : (a / 4294967296 != 0) = true := by simp; omega
  have p := prod_half (half a ha ha1).1 (half a ha ha1).2.1 hb hb1
  obtain ⟨p1, p2⟩ := p
  have q := prod_half (half a ha ha1).2.2.1 (half a ha ha1).2.2.2.1 hb hb1
  obtain ⟨q1, q2⟩ := q
  have t : (a / 4294967296 * b / 4294967296 != 0) = false := by simp; omega
  have s : addM (a / 4294967296 * b * 4294967296) (a % 4294967296 * b) = mulM a b := by
    rw [mul_comm, ← mul_sum, Int.mul_comm (a / 4294967296) b, Int.mul_comm (a % 4294967296) b]
  rw [← s]; clear s
  go_enter Try.func95, Try.ntmps95
  go_wp2_with fail
  refine (add_any _ _ _ (by omega) (by omega) (by omega) (by omega)).mono ?_
  rintro e w' ⟨rfl, rfl⟩
  go_wp2
  go_ret
  exact ⟨rfl, rfl⟩

theorem mul_any (a b : Int) (w : World) (ha : 0 ≤ a) (hb : 0 ≤ b) (ha1 : a ≤ 18446744073709551615) (hb1 : b ≤ 18446744073709551615) :
    Calls Try.prog 95 #[.int .u64 a, .int .u64 b] w fun e w' => e = .returned (.int .u64 (mulM a b)) ∧ w = w' := by
  by_cases h1 : a ≤ 4294967295
  · by_cases h : a * (b / 4294967296) ≤ 4294967295
    · exact mul_lo_fit a b w ha hb h1 hb1 h
    · rw [mul_cross ha hb (by omega)]
      exact mul_lo_over a b w ha hb h1 hb1 (by omega)
  · by_cases h2 : b ≤ 4294967295
    · by_cases h : a / 4294967296 * b ≤ 4294967295
      · exact mul_ol_fit a b w ha hb ha1 h2 (by omega) h
      · rw [mul_comm, mul_cross hb ha (by rw [Int.mul_comm]; omega)]
        exact mul_ol_over a b w ha hb ha1 h2 (by omega) (by omega)
    · rw [mul_both (by omega) (by omega)]
      exact mul_hi a b w ha hb ha1 hb1 (by omega) (by omega)

theorem over_iff {a b : Int} (ha : 1 ≤ a) : 18446744073709551615 / a < b ↔ 18446744073709551615 < a * b := by
  rw [Int.ediv_lt_iff_lt_mul (by omega), Int.mul_comm]

set_option maxHeartbeats 400000 in
theorem rmul_any (a b : Int) (w : World) (ha : 0 ≤ a) (hb : 0 ≤ b) (ha1 : a ≤ 18446744073709551615) (hb1 : b ≤ 18446744073709551615) :
    Calls Try.prog 51 #[.int .u64 a, .int .u64 b] w fun e w' => e = .returned (.int .u64 (mulM a b)) ∧ w = w' := by
  by_cases h0 : a = 0
  · subst h0
    rw [show mulM 0 b = 0 by simp [mulM]]
    go_enter Try.func51, Try.ntmps51
    go_wp2
    go_ret
    exact ⟨by simp, rfl⟩
  · have hp : 1 ≤ a := by omega
    have ho := over_iff (b := b) hp
    have hn := Int.mul_nonneg ha hb
    have t0 : (a != 0) = true := by simp; omega
    unfold mulM
    split
    · have h1 : ¬ (18446744073709551615 / a < b) := by rw [ho]; omega
      clear ho
      go_enter Try.func51, Try.ntmps51
      go_wp2
      go_ret
      exact ⟨rfl, rfl⟩
    · have h1 : 18446744073709551615 / a < b := by rw [ho]; omega
      clear ho
      go_enter Try.func51, Try.ntmps51
      go_wp2
      go_ret
      exact ⟨rfl, rfl⟩
end Go.Proofs.Ytjmnklmomdfpfaa
