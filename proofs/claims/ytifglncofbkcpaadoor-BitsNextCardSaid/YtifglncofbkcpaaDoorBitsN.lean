/-
  Plain arithmetic: how many bits of a number of 64 bits are set, as math/bits counts them (sums of neighbours, side by side); and the document's own ways to tell a bit. Nothing of the program is in it.
-/
import Derived.Test.YtifglncofbkcpaaDoorBitsM
namespace Go.Proofs.YtifglncofbkcpaaDoor
set_option linter.unusedVariables false

/-- How many of the n lowest bits of x are set. -/
def popc : Nat → Nat → Nat
  | 0, _ => 0
  | n + 1, x => x % 2 + popc n (x / 2)
theorem popc_upTo : ∀ n x, (upTo x n).length = popc n x
  | 0, x => rfl
  | n + 1, x => by
    have ih := popc_upTo n (x / 2)
    unfold upTo at ih ⊢
    have e : (fun i => x.testBit i) ∘ Nat.succ = fun i => (x / 2).testBit i := by
      funext i
      simp [Nat.testBit_succ]
    rw [List.range_succ_eq_map, List.filter_cons, List.filter_map, e]
    have hb : x.testBit 0 = decide (x % 2 = 1) := Nat.testBit_zero x
    rw [hb]
    unfold popc
    by_cases h : x % 2 = 1
    · simp [h, ih]; omega
    · have : x % 2 = 0 := by omega
      simp [this, ih]
theorem popc_more : ∀ n m x, popc (n + m) x = popc n x + popc m (x / 2 ^ n)
  | 0, m, x => by simp [popc]
  | n + 1, m, x => by
    have e : n + 1 + m = (n + m) + 1 := by omega
    rw [e]
    show x % 2 + popc (n + m) (x / 2) = x % 2 + popc n (x / 2) + popc m (x / 2 ^ (n + 1))
    rw [popc_more n m (x / 2), Nat.div_div_eq_div_mul, Nat.pow_succ, Nat.mul_comm 2]
    omega
theorem popc_mod : ∀ n x, popc n x = popc n (x % 2 ^ n)
  | 0, x => rfl
  | n + 1, x => by
    show x % 2 + popc n (x / 2) = x % 2 ^ (n + 1) % 2 + popc n (x % 2 ^ (n + 1) / 2)
    have e1 : x % 2 ^ (n + 1) % 2 = x % 2 := by rw [Nat.pow_succ, Nat.mul_comm]; exact Nat.mod_mul_right_mod x 2 _
    have e2 : x % 2 ^ (n + 1) / 2 = x / 2 % 2 ^ n := by rw [Nat.pow_succ, Nat.mul_comm]; exact Nat.mod_mul_right_div_self x 2 _
    rw [e1, e2, ← popc_mod n (x / 2)]
theorem popc_byte (n x : Nat) : popc (8 + n) x = popc 8 (x % 256) + popc n (x / 256) := by
  rw [popc_more 8 n x, popc_mod 8 x]
theorem popc_le : ∀ n x, popc n x ≤ n
  | 0, x => Nat.le_refl _
  | n + 1, x => by have := popc_le n (x / 2); show x % 2 + popc n (x / 2) ≤ n + 1; omega

/-! ### Sums side by side, byte by byte -/
theorem and_bytes (y a M e : Nat) (ha : a < 256) (he : e < 256) : (256 * y + a) &&& (256 * M + e) = 256 * (y &&& M) + (a &&& e) := by
  have h : a &&& e < 2 ^ 8 := Nat.lt_of_le_of_lt Nat.and_le_left ha
  apply Nat.eq_of_testBit_eq
  intro j
  have e1 : 256 * y + a = 2 ^ 8 * y + a := rfl
  have e2 : 256 * M + e = 2 ^ 8 * M + e := rfl
  have e3 : 256 * (y &&& M) + (a &&& e) = 2 ^ 8 * (y &&& M) + (a &&& e) := rfl
  rw [e1, e2, e3, Nat.testBit_and, Nat.testBit_two_pow_mul_add _ ha, Nat.testBit_two_pow_mul_add _ he, Nat.testBit_two_pow_mul_add _ h]
  split <;> rw [Nat.testBit_and]
def mk : Nat → Nat → Nat
  | 0, _ => 0
  | n + 1, e => 256 * mk n e + e
def s1 (M x : Nat) : Nat := (x / 2 &&& M) + (x &&& M)
def s2 (M x : Nat) : Nat := (x / 4 &&& M) + (x &&& M)
def s3 (M x : Nat) : Nat := (x / 16 + x) &&& M
theorem s1_cut : ∀ a, a < 256 → ∀ t, t < 2 → (128 * t + a / 2) &&& 85 = a / 2 &&& 85 := by decide +kernel
theorem s2_cut : ∀ a, a < 256 → ∀ t, t < 4 → (64 * t + a / 4) &&& 51 = a / 4 &&& 51 := by decide +kernel
theorem s3_cut : ∀ a, a < 256 → ∀ t, t < 5 → a % 16 ≤ 4 → a / 16 ≤ 4 → (16 * t + (a / 16 + a)) &&& 15 = (a / 16 + a) &&& 15 := by decide +kernel
theorem s1_byte (y a M : Nat) (ha : a < 256) : s1 (256 * M + 85) (256 * y + a) = 256 * s1 M y + s1 85 a := by
  unfold s1
  have e : (256 * y + a) / 2 = 256 * (y / 2) + (128 * (y % 2) + a / 2) := by omega
  rw [e, and_bytes _ _ _ _ (by omega) (by omega), and_bytes _ _ _ _ ha (by omega), s1_cut a ha _ (by omega)]
  omega
theorem s2_byte (y a M : Nat) (ha : a < 256) : s2 (256 * M + 51) (256 * y + a) = 256 * s2 M y + s2 51 a := by
  unfold s2
  have e : (256 * y + a) / 4 = 256 * (y / 4) + (64 * (y % 4) + a / 4) := by omega
  rw [e, and_bytes _ _ _ _ (by omega) (by omega), and_bytes _ _ _ _ ha (by omega), s2_cut a ha _ (by omega)]
  omega
theorem s3_byte (y a M : Nat) (h1 : a % 16 ≤ 4) (h2 : a / 16 ≤ 4) (hy : y % 16 ≤ 4) : s3 (256 * M + 15) (256 * y + a) = 256 * s3 M y + s3 15 a := by
  unfold s3
  have e : (256 * y + a) / 16 + (256 * y + a) = 256 * (y / 16 + y) + (16 * (y % 16) + (a / 16 + a)) := by omega
  rw [e, and_bytes _ _ _ _ (by omega) (by omega), s3_cut a (by omega) _ (by omega) h1 h2]
theorem byte_all : ∀ a, a < 256 → s1 85 a < 256 ∧ s2 51 (s1 85 a) % 16 ≤ 4 ∧ s2 51 (s1 85 a) / 16 ≤ 4 ∧ s3 15 (s2 51 (s1 85 a)) = popc 8 a := by decide +kernel
def sums : Nat → Nat → Nat
  | 0, _ => 0
  | n + 1, x => 256 * sums n (x / 256) + popc 8 (x % 256)
theorem low_nibble : ∀ n x, s2 (mk n 51) (s1 (mk n 85) x) % 16 ≤ 4
  | 0, x => by simp [mk, s1, s2]
  | n + 1, x => by
    have hb := byte_all (x % 256) (by omega)
    have e : x = 256 * (x / 256) + x % 256 := by omega
    show s2 (256 * mk n 51 + 51) (s1 (256 * mk n 85 + 85) x) % 16 ≤ 4
    rw [e, s1_byte _ _ _ (by omega), s2_byte _ _ _ hb.1]
    omega
theorem swar : ∀ n x, s3 (mk n 15) (s2 (mk n 51) (s1 (mk n 85) x)) = sums n x
  | 0, x => by simp [mk, s3, sums]
  | n + 1, x => by
    have hb := byte_all (x % 256) (by omega)
    have ih := swar n (x / 256)
    have hl := low_nibble n (x / 256)
    have e : x = 256 * (x / 256) + x % 256 := by omega
    show s3 (256 * mk n 15 + 15) (s2 (256 * mk n 51 + 51) (s1 (256 * mk n 85 + 85) x)) = 256 * sums n (x / 256) + popc 8 (x % 256)
    have : s3 (256 * mk n 15 + 15) (s2 (256 * mk n 51 + 51) (s1 (256 * mk n 85 + 85) (256 * (x / 256) + x % 256))) = 256 * sums n (x / 256) + popc 8 (x % 256) := by
      rw [s1_byte _ _ _ (by omega), s2_byte _ _ _ hb.1, s3_byte _ _ _ hb.2.1 hb.2.2.1 hl, ih, hb.2.2.2]
    rwa [← e] at this
theorem fold_sums (c0 c1 c2 c3 c4 c5 c6 c7 z : Nat) (h0 : c0 ≤ 8) (h1 : c1 ≤ 8) (h2 : c2 ≤ 8) (h3 : c3 ≤ 8) (h4 : c4 ≤ 8) (h5 : c5 ≤ 8) (h6 : c6 ≤ 8) (h7 : c7 ≤ 8)
    (hz : z = c0 + 256 * (c1 + 256 * (c2 + 256 * (c3 + 256 * (c4 + 256 * (c5 + 256 * (c6 + 256 * c7))))))) :
    ((z + z / 256) + (z + z / 256) / 65536 + ((z + z / 256) + (z + z / 256) / 65536) / 4294967296) % 128 = c0 + c1 + c2 + c3 + c4 + c5 + c6 + c7 := by
  have e1 : z / 256 = c1 + 256 * (c2 + 256 * (c3 + 256 * (c4 + 256 * (c5 + 256 * (c6 + 256 * c7))))) := by omega
  obtain ⟨y, hy⟩ : ∃ y, y = z + z / 256 := ⟨_, rfl⟩
  rw [← hy]
  have e2 : y = (c0 + c1) + 256 * ((c1 + c2) + 256 * ((c2 + c3) + 256 * ((c3 + c4) + 256 * ((c4 + c5) + 256 * ((c5 + c6) + 256 * ((c6 + c7) + 256 * c7)))))) := by omega
  clear hy e1 hz
  have e3 : y / 65536 = (c2 + c3) + 256 * ((c3 + c4) + 256 * ((c4 + c5) + 256 * ((c5 + c6) + 256 * ((c6 + c7) + 256 * c7)))) := by omega
  obtain ⟨u, hu⟩ : ∃ u, u = y + y / 65536 := ⟨_, rfl⟩
  rw [← hu]
  have e4 : u = (c0 + c1 + c2 + c3) + 256 * ((c1 + c2 + c3 + c4) + 256 * ((c2 + c3 + c4 + c5) + 256 * ((c3 + c4 + c5 + c6) + 256 * ((c4 + c5 + c6 + c7) + 256 * ((c5 + c6 + c7) + 256 * ((c6 + c7) + 256 * c7)))))) := by omega
  clear hu e2 e3
  have e5 : u / 4294967296 = (c4 + c5 + c6 + c7) + 256 * ((c5 + c6 + c7) + 256 * ((c6 + c7) + 256 * c7)) := by omega
  omega
theorem popc64 (x : Nat) : ((sums 8 x + sums 8 x / 256) + (sums 8 x + sums 8 x / 256) / 65536 + ((sums 8 x + sums 8 x / 256) + (sums 8 x + sums 8 x / 256) / 65536) / 4294967296) % 128 = popc 64 x := by
  have e : popc 64 x = popc 8 (x % 256) + (popc 8 (x / 256 % 256) + (popc 8 (x / 256 / 256 % 256) + (popc 8 (x / 256 / 256 / 256 % 256) + (popc 8 (x / 256 / 256 / 256 / 256 % 256) + (popc 8 (x / 256 / 256 / 256 / 256 / 256 % 256) + (popc 8 (x / 256 / 256 / 256 / 256 / 256 / 256 % 256) + popc 8 (x / 256 / 256 / 256 / 256 / 256 / 256 / 256 % 256))))))) := by
    have := popc_byte 56 x
    rw [this, popc_byte 48, popc_byte 40, popc_byte 32, popc_byte 24, popc_byte 16, popc_byte 8, popc_mod 8 (x / 256 / 256 / 256 / 256 / 256 / 256 / 256)]
  rw [e]
  have h := fold_sums _ _ _ _ _ _ _ _ (sums 8 x) (popc_le 8 (x % 256)) (popc_le 8 (x / 256 % 256)) (popc_le 8 (x / 256 / 256 % 256)) (popc_le 8 (x / 256 / 256 / 256 % 256)) (popc_le 8 (x / 256 / 256 / 256 / 256 % 256)) (popc_le 8 (x / 256 / 256 / 256 / 256 / 256 % 256)) (popc_le 8 (x / 256 / 256 / 256 / 256 / 256 / 256 % 256)) (popc_le 8 (x / 256 / 256 / 256 / 256 / 256 / 256 / 256 % 256)) (by simp only [sums]; omega)
  omega
end Go.Proofs.YtifglncofbkcpaaDoor
