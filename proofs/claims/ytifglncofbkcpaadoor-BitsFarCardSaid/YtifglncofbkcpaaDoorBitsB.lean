/-
  Contracts of package bits' functions on numbers (With, Without, Has, Next, Last, Many) and of the document's own Bit and One, at every number of 64 bits and every index.
-/
import Derived.Test.YtifglncofbkcpaaDoorBitsA
namespace Go.Proofs.YtifglncofbkcpaaDoor
open Go.ChangeShapes Go.WideShapes Go.ChangeAt Go.RowKit
set_option linter.unusedVariables false

/-- The number with one bit; 0 of none. Whether a bit is set. With it, and without it. -/
def oneM (i : Int) : Nat := if 0 ≤ i ∧ i < 64 then 2 ^ i.toNat else 0
def hasB (b : Nat) (i : Int) : Bool := decide (0 ≤ i ∧ i < 64) && b.testBit i.toNat
def withM (b : Nat) (i : Int) : Nat := b ||| oneM i
def withoutM (b : Nat) (i : Int) : Nat := b &&& (18446744073709551615 - oneM i)
theorem oneM_lt (i : Int) : oneM i < 18446744073709551616 := by
  unfold oneM
  split
  · have : 2 ^ i.toNat < 2 ^ 64 := Nat.pow_lt_pow_right (by decide) (by omega)
    exact this
  · omega
theorem withM_lt (b : Nat) (i : Int) (hb : b < 18446744073709551616) : withM b i < 18446744073709551616 := Nat.or_lt_two_pow (n := 64) hb (oneM_lt i)
theorem withoutM_lt (b : Nat) (i : Int) (hb : b < 18446744073709551616) : withoutM b i < 18446744073709551616 := Nat.lt_of_le_of_lt Nat.and_le_left hb
theorem wrap_pow (i : Int) (h0 : 0 ≤ i) (h1 : i < 64) : IntKind.u64.wrap (2 ^ i.toNat) = (oneM i : Int) := by
  have e : oneM i = 2 ^ i.toNat := by unfold oneM; rw [if_pos ⟨h0, h1⟩]
  have l := oneM_lt i
  rw [e] at l ⊢
  have e2 : ((2 ^ i.toNat : Nat) : Int) = (2 : Int) ^ i.toNat := by rw [Int.natCast_pow]; rfl
  rw [← e2, IntKind.wrap_u64]
  omega
theorem wrap_below (i : Int) (h0 : 0 ≤ i) (h1 : i < 64) : IntKind.u64.wrap (IntKind.u64.wrap (2 ^ i.toNat) - 1) = ((2 ^ held i - 1 : Nat) : Int) := by
  have e : oneM i = 2 ^ i.toNat := by unfold oneM; rw [if_pos ⟨h0, h1⟩]
  have e3 : held i = i.toNat := by unfold held; rw [if_neg (by omega), if_pos (by omega)]
  have l := oneM_lt i
  have p := Nat.two_pow_pos i.toNat
  rw [wrap_pow i h0 h1, e3, e, IntKind.wrap_u64]
  rw [e] at l
  omega

set_option maxHeartbeats 400000 in
theorem bit_any (i : Int) (w : World) :
    Calls Tryd.prog 24 #[.int .i64 i] w fun e w' => e = .returned (.int .u64 (oneM i)) ∧ w = w' := by
  by_cases h : 0 ≤ i ∧ i < 64
  · obtain ⟨h0, h1⟩ := h
    have e := wrap_pow i h0 h1
    go_enter Tryd.func24, Tryd.ntmps24
    go_wp2
    go_ret
    exact ⟨rfl, rfl⟩
  · have e : oneM i = 0 := by unfold oneM; rw [if_neg h]
    rw [e]
    by_cases h0 : i < 0
    · clear h e
      go_enter Tryd.func24, Tryd.ntmps24
      go_wp2
      go_ret
      exact ⟨rfl, rfl⟩
    · have h1 : 64 ≤ i := by omega
      clear h e
      go_enter Tryd.func24, Tryd.ntmps24
      go_wp2
      go_ret
      exact ⟨rfl, rfl⟩

theorem wrap_held (n : Nat) (hn : n ≤ 64) : IntKind.u64.wrap (IntKind.u64.wrap (2 ^ n) - 1) = ((2 ^ n - 1 : Nat) : Int) := by
  by_cases h : n = 64
  · subst h; decide
  · have e := wrap_below (n : Int) (by omega) (by omega)
    have e3 : held (n : Int) = n := by unfold held; rw [if_neg (by omega), if_pos (by omega)]; simp
    rw [e3, Int.toNat_natCast] at e
    exact e
set_option maxHeartbeats 400000 in
theorem below_any (i : Int) (w : World) :
    Calls Tryd.prog 25 #[.int .i64 i] w fun e w' => e = .returned (.int .u64 ((2 ^ held i - 1 : Nat) : Int)) ∧ w = w' := by
  have m : min (max i 0) 64 = (held i : Int) := by unfold held; split <;> (try split) <;> omega
  have hn := held_le i
  have e := wrap_held (held i) hn
  obtain ⟨v, hv⟩ : ∃ v : Int, ((2 ^ held i - 1 : Nat) : Int) = v := ⟨_, rfl⟩
  rw [hv] at e ⊢
  clear hv
  generalize held i = n at *
  go_enter Tryd.func25, Tryd.ntmps25
  go_wp2
  go_ret
  exact ⟨rfl, rfl⟩

set_option maxHeartbeats 400000 in
theorem with_any (b : Nat) (i : Int) (w : World) (hb : b < 18446744073709551616) :
    Calls Tryd.prog 16 #[.int .u64 b, .int .i64 i] w fun e w' => e = .returned (.int .u64 (withM b i)) ∧ w = w' := by
  have e : bits .or .u64 (b : Int) (oneM i : Int) = (withM b i : Int) := u64_or_nat b (oneM i) hb (oneM_lt i)
  go_enter Tryd.func16, Tryd.ntmps16
  go_wp2_with (go_at_call 24; refine (bit_any _ _).mono ?_; rintro e w' ⟨rfl, rfl⟩)
  go_ret
  exact ⟨rfl, rfl⟩
set_option maxHeartbeats 400000 in
theorem without_any (b : Nat) (i : Int) (w : World) (hb : b < 18446744073709551616) :
    Calls Tryd.prog 17 #[.int .u64 b, .int .i64 i] w fun e w' => e = .returned (.int .u64 (withoutM b i)) ∧ w = w' := by
  have e : bits .andNot .u64 (b : Int) (oneM i : Int) = (withoutM b i : Int) := u64_andNot_nat b (oneM i) hb (oneM_lt i)
  go_enter Tryd.func17, Tryd.ntmps17
  go_wp2_with (go_at_call 24; refine (bit_any _ _).mono ?_; rintro e w' ⟨rfl, rfl⟩)
  go_ret
  exact ⟨rfl, rfl⟩
theorem has_test (b : Nat) (i : Int) : (((b &&& oneM i : Nat) : Int) != 0) = hasB b i := by
  unfold oneM hasB
  by_cases h : 0 ≤ i ∧ i < 64
  · rw [if_pos h, decide_eq_true h, Bool.true_and, nat_bit, Nat.testBit_eq_decide_div_mod_eq]
    have p := Nat.two_pow_pos i.toNat
    have q : b / 2 ^ i.toNat % 2 = 0 ∨ b / 2 ^ i.toNat % 2 = 1 := by omega
    rcases q with q | q
    · rw [q]; simp
    · have r : ((2 ^ i.toNat : Nat) : Int) ≠ 0 := by omega
      rw [q, Nat.one_mul]
      simpa using r
  · rw [if_neg h, decide_eq_false h]; simp
set_option maxHeartbeats 400000 in
theorem has_any (b : Nat) (i : Int) (w : World) (hb : b < 18446744073709551616) :
    Calls Tryd.prog 18 #[.int .u64 b, .int .i64 i] w fun e w' => e = .returned (.bool (hasB b i)) ∧ w = w' := by
  have e : bits .and .u64 (b : Int) (oneM i : Int) = ((b &&& oneM i : Nat) : Int) := u64_and_nat b (oneM i) hb (oneM_lt i)
  have t := has_test b i
  obtain ⟨v, hv⟩ : ∃ v : Int, ((b &&& oneM i : Nat) : Int) = v := ⟨_, rfl⟩
  rw [hv] at e t
  clear hv
  go_enter Tryd.func18, Tryd.ntmps18
  go_wp2_with (go_at_call 24; refine (bit_any _ _).mono ?_; rintro e w' ⟨rfl, rfl⟩)
  go_ret
  exact ⟨rfl, rfl⟩
set_option maxHeartbeats 400000 in
theorem many_any (b : Nat) (w : World) (hb : b < 18446744073709551616) :
    Calls Tryd.prog 13 #[.int .u64 b] w fun e w' => e = .returned (.int .i64 (manyM b)) ∧ w = w' := by
  go_enter Tryd.func13, Tryd.ntmps13
  go_wp2_with (go_at_call 23; refine (ones_any _ _ hb).mono ?_; rintro e w' ⟨rfl, rfl⟩)
  go_ret
  exact ⟨rfl, rfl⟩

theorem pow_held (i : Int) : 2 ^ held i - 1 < 18446744073709551616 := by
  have : 2 ^ held i ≤ 2 ^ 64 := Nat.pow_le_pow_right (by decide) (held_le i)
  omega
set_option maxHeartbeats 400000 in
theorem next_any (b : Nat) (f : Int) (w : World) (hb : b < 18446744073709551616) (hT : Tab w) :
    Calls Tryd.prog 19 #[.int .u64 b, .int .i64 f] w fun e w' => e = .returned (.int .i64 (nextM b f)) ∧ w = w' := by
  obtain ⟨n0, n1⟩ := next_rest b f hb
  have hl : b &&& (18446744073709551615 - (2 ^ held f - 1)) < 18446744073709551616 := Nat.lt_of_le_of_lt Nat.and_le_left hb
  have e : bits .andNot .u64 (b : Int) ((2 ^ held f - 1 : Nat) : Int) = ((b &&& (18446744073709551615 - (2 ^ held f - 1)) : Nat) : Int) := u64_andNot_nat b _ hb (pow_held f)
  have hbelow := below_any f w
  generalize b &&& (18446744073709551615 - (2 ^ held f - 1)) = r at *
  generalize ((2 ^ held f - 1 : Nat) : Int) = m at *
  by_cases h0 : r = 0
  · rw [n0 h0]
    rw [h0] at e
    clear n0 n1 hl h0
    go_enter Tryd.func19, Tryd.ntmps19
    go_wp2_with (go_at_call 25; refine hbelow.mono ?_; rintro e w' ⟨rfl, rfl⟩)
    go_ret
    exact ⟨rfl, rfl⟩
  · rw [n1 h0]
    have ht := tz_any r w h0 hl hT
    have t : ((r : Int) == 0) = false := by simp; omega
    clear n0 n1 hT
    go_enter Tryd.func19, Tryd.ntmps19
    go_wp2_with (first | (go_at_call 25; refine hbelow.mono ?_; rintro e w' ⟨rfl, rfl⟩) | (go_at_call 26; refine ht.mono ?_; rintro e w' ⟨rfl, rfl⟩))
    go_ret
    exact ⟨rfl, rfl⟩
theorem lastM_held (b : Nat) (f : Int) (h : 63 ≤ f) : lastM b f = lastM b 63 := by
  rcases lastM_cases b 63 with ⟨e, h'⟩ | ⟨k, hk, e, hb, hf, h'⟩
  · rw [e]; exact lastM_none b f fun j hj _ => h' j hj (by omega)
  · rw [e]; exact lastM_is b k f hk hb (by omega) fun j h1 h2 _ => h' j h1 h2 (by omega)
set_option maxHeartbeats 400000 in
theorem last_at (b : Nat) (f g : Int) (w : World) (hb : b < 18446744073709551616) (hg0 : -9223372036854775808 ≤ g) (hg : g ≤ 63) (hm : min f 63 = g) :
    Calls Tryd.prog 20 #[.int .u64 b, .int .i64 f] w fun e w' => e = .returned (.int .i64 (lastM b g)) ∧ w = w' := by
  obtain ⟨n0, n1⟩ := last_rest b g hb
  have hl : b &&& (2 ^ held (g + 1) - 1) < 18446744073709551616 := Nat.lt_of_le_of_lt Nat.and_le_left hb
  have e : bits .and .u64 (b : Int) ((2 ^ held (g + 1) - 1 : Nat) : Int) = ((b &&& (2 ^ held (g + 1) - 1) : Nat) : Int) := u64_and_nat b _ hb (pow_held (g + 1))
  have hbelow := below_any (g + 1) w
  generalize b &&& (2 ^ held (g + 1) - 1) = r at *
  generalize ((2 ^ held (g + 1) - 1 : Nat) : Int) = m at *
  by_cases h0 : r = 0
  · rw [n0 h0]
    rw [h0] at e
    clear n0 n1 hl h0
    go_enter Tryd.func20, Tryd.ntmps20
    go_wp2_with (go_at_call 25; refine hbelow.mono ?_; rintro e w' ⟨rfl, rfl⟩)
    go_ret
    exact ⟨rfl, rfl⟩
  · rw [n1 h0]
    have ht := len_any r w h0 hl
    obtain ⟨k0, k1, _, _⟩ := bitLen_bits r h0 hl
    have t : ((r : Int) == 0) = false := by simp; omega
    generalize bitLen r = q at *
    clear n0 n1
    go_enter Tryd.func20, Tryd.ntmps20
    go_wp2_with (first | (go_at_call 25; refine hbelow.mono ?_; rintro e w' ⟨rfl, rfl⟩) | (go_at_call 27; refine ht.mono ?_; rintro e w' ⟨rfl, rfl⟩))
    go_ret
    exact ⟨rfl, rfl⟩
theorem last_any (b : Nat) (f : Int) (w : World) (hb : b < 18446744073709551616) (hf0 : -9223372036854775808 ≤ f) :
    Calls Tryd.prog 20 #[.int .u64 b, .int .i64 f] w fun e w' => e = .returned (.int .i64 (lastM b f)) ∧ w = w' := by
  by_cases hf : f ≤ 63
  · exact last_at b f f w hb hf0 hf (by omega)
  · rw [lastM_held b f (by omega)]
    exact last_at b f 63 w hb (by omega) (by omega) (by omega)
end Go.Proofs.YtifglncofbkcpaaDoor
