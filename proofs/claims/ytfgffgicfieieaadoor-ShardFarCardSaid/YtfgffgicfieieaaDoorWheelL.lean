/-
  Contracts of the wheel's Level and Bucket, and of the document's.
-/
import Derived.Test.YtfgffgicfieieaaDoorWheelM
import Derived.Test.YtfgffgicfieieaaDoorWheelB
namespace Go.Proofs.YtfgffgicfieieaaDoor
set_option maxRecDepth 100000
open Go.ChangeShapes Go.WideShapes Go.ChangeAt Go.RowKit
set_option linter.unusedVariables false
set_option linter.unusedSimpArgs false

/-- A width, held. -/
def wid (width : Int) : Nat := (min (max width 0) 40).toNat
theorem wid_le (width : Int) : wid width ≤ 40 := by unfold wid; omega
theorem wid_is (width : Int) : min (max width 0) 40 = (wid width : Int) := by unfold wid; omega
theorem wid_nat {wd : Nat} (h : wd ≤ 40) : wid (wd : Int) = wd := by unfold wid; omega
theorem wid_wid (width : Int) : wid (wid width : Int) = wid width := wid_nat (wid_le width)

theorem clamp_any (width : Int) (w : World) : Calls Tryd.prog 70 #[.int .i64 width] w fun e w' => e = .returned (.int .i64 (wid width : Int)) ∧ w = w' := by
  have m := wid_is width
  have hn := wid_le width
  generalize wid width = n at *
  go_enter Tryd.func70, Tryd.ntmps70
  go_wp2
  go_ret
  exact ⟨rfl, rfl⟩
theorem rwidth_any (width : Int) (w : World) : Calls Tryd.prog 25 #[.int .i64 width] w fun e w' => e = .returned (.int .i64 (wid width : Int)) ∧ w = w' := by
  have m := wid_is width
  have hn := wid_le width
  generalize wid width = n at *
  go_enter Tryd.func25, Tryd.ntmps25
  go_wp2
  go_ret
  exact ⟨rfl, rfl⟩
theorem isLevel_any (l : Int) (w : World) : Calls Tryd.prog 57 #[.int .i64 l] w fun e w' => e = .returned (.bool (decide (0 ≤ l ∧ l ≤ 2))) ∧ w = w' := by
  by_cases h0 : 0 ≤ l
  · by_cases h1 : l < 3
    · have e : decide (0 ≤ l ∧ l ≤ 2) = true := decide_eq_true (by omega)
      rw [e]
      clear e
      go_enter Tryd.func57, Tryd.ntmps57
      go_wp2
      go_ret
      exact ⟨rfl, rfl⟩
    · have e : decide (0 ≤ l ∧ l ≤ 2) = false := decide_eq_false (by omega)
      rw [e]
      clear e
      have h1' : 3 ≤ l := by omega
      go_enter Tryd.func57, Tryd.ntmps57
      go_wp2
      go_ret
      exact ⟨rfl, rfl⟩
  · have e : decide (0 ≤ l ∧ l ≤ 2) = false := decide_eq_false (by omega)
    rw [e]
    clear e
    have h1' : l < 0 := by omega
    go_enter Tryd.func57, Tryd.ntmps57
    go_wp2
    go_ret
    exact ⟨rfl, rfl⟩
theorem from_any (L : Nat) (hL : L ≤ 3) (width : Int) (w : World) : Calls Tryd.prog 71 #[.int .i64 (L : Int), .int .i64 width] w fun e w' => e = .returned (.int .u64 ((wid width + 6 * L : Nat) : Int)) ∧ w = w' := by
  have hn := wid_le width
  have hc := clamp_any width w
  generalize wid width = n at *
  go_enter Tryd.func71, Tryd.ntmps71
  go_wp2_with (go_at_call 70; refine hc.mono ?_; rintro e w' ⟨rfl, rfl⟩)
  go_ret
  exact ⟨by simp, rfl⟩

set_option maxHeartbeats 400000 in
theorem bucket_in (key width : Int) (L : Nat) (hL : L < 3) (h0 : 0 ≤ key) (h1 : key ≤ 18446744073709551615) (w : World) :
    Calls Tryd.prog 88 #[.int .u64 key, .int .i64 (L : Int), .int .i64 width] w fun e w' => e = .returned (.int .i64 (bkM (wid width) key L)) ∧ w = w' := by
  have hn := wid_le width
  have hf := from_any L (by omega) width w
  have hb := bkM_rng (wid width) key L
  have hi := isLevel_any (L : Int) w
  have hd : decide (0 ≤ (L : Int) ∧ (L : Int) ≤ 2) = true := decide_eq_true (by omega)
  rw [hd] at hi
  have hk : key / 2 ^ (wid width + 6 * L) % 64 = bkM (wid width) key L := by
    rw [pow_split]
    unfold bkM
    rw [Int.pow_mul]
    rfl
  have hk' : (key / 2 ^ (wid width + 6 * L)).tmod 64 = bkM (wid width) key L := by
    rw [Int.tmod_eq_emod_of_nonneg (Int.ediv_nonneg h0 (Int.pow_nonneg (by decide)))]; exact hk
  have hw : wrap64 (bkM (wid width) key L) = bkM (wid width) key L := by unfold wrap64; omega
  generalize wid width = n at *
  generalize bkM n key L = q at *
  clear hd hk
  go_enter Tryd.func88, Tryd.ntmps88
  go_wp2_with (first | (go_at_call 57; refine hi.mono ?_; rintro e w' ⟨rfl, rfl⟩) | (go_at_call 71; refine hf.mono ?_; rintro e w' ⟨rfl, rfl⟩))
  go_ret
  exact ⟨by simp [hk', hw], rfl⟩
theorem bucket_out (key width l : Int) (hl : l < 0 ∨ 2 < l) (w : World) :
    Calls Tryd.prog 88 #[.int .u64 key, .int .i64 l, .int .i64 width] w fun e w' => e = .returned (.int .i64 (-1)) ∧ w = w' := by
  have hi := isLevel_any l w
  have hd : decide (0 ≤ l ∧ l ≤ 2) = false := decide_eq_false (by omega)
  rw [hd] at hi
  clear hd hl
  go_enter Tryd.func88, Tryd.ntmps88
  go_wp2_with (go_at_call 57; refine hi.mono ?_; rintro e w' ⟨rfl, rfl⟩)
  go_ret
  exact ⟨rfl, rfl⟩

/-- By how many lowest bits: alike but for them? -/
def alike (wd : Nat) (base key : Int) (L : Nat) : Bool := decide (base / 2 ^ (wd + 6 * (L + 1)) = key / 2 ^ (wd + 6 * (L + 1)))
theorem alike_iff (wd : Nat) (base key : Int) : (alike wd base key 0 = true ↔ uu wd base / 64 = uu wd key / 64) ∧ (alike wd base key 1 = true ↔ uu wd base / 4096 = uu wd key / 4096) ∧ (alike wd base key 2 = true ↔ uu wd base / 262144 = uu wd key / 262144) := by
  unfold alike
  refine ⟨?_, ?_, ?_⟩ <;> rw [decide_eq_true_eq, pow_split, pow_split] <;> simp
theorem levM_at {wd : Nat} {base key : Int} (h : base ≤ key) {k : Nat} (hk : k < 3) (ha : alike wd base key k = true) (hb : ∀ j, j < k → alike wd base key j = false) : levM wd base key = (k : Int) := by
  obtain ⟨a0, a1, a2⟩ := alike_iff wd base key
  obtain ⟨i0, i1, i2, i3⟩ := levM_is (wd := wd) h
  have h3 : k = 0 ∨ k = 1 ∨ k = 2 := by omega
  rcases h3 with rfl | rfl | rfl
  · exact i0 (a0.1 ha)
  · refine i1 (fun e => ?_) (a1.1 ha)
    have := hb 0 (by omega); rw [a0.2 e] at this; cases this
  · refine i2 (fun e => ?_) (a2.1 ha)
    have := hb 1 (by omega); rw [a1.2 e] at this; cases this
theorem levM_far {wd : Nat} {base key : Int} (h : base ≤ key) (hb : ∀ j, j < 3 → alike wd base key j = false) : levM wd base key = 3 := by
  obtain ⟨a0, a1, a2⟩ := alike_iff wd base key
  refine (levM_is (wd := wd) h).2.2.2 (fun e => ?_)
  have := hb 2 (by omega); rw [a2.2 e] at this; cases this
theorem xor_zero (a b : Nat) : a ^^^ b = 0 ↔ a = b := by
  constructor
  · intro h
    apply Nat.eq_of_testBit_eq
    intro i
    have := congrArg (fun n => n.testBit i) h
    simp only [Nat.testBit_xor, Nat.zero_testBit] at this
    revert this
    cases a.testBit i <;> cases b.testBit i <;> simp
  · rintro rfl
    exact Nat.xor_self a
theorem xor_test (base key : Int) (b0 : 0 ≤ base) (b1 : base ≤ 18446744073709551615) (k0 : 0 ≤ key) (k1 : key ≤ 18446744073709551615) : ∃ X : Int, bits .xor .u64 base key = X ∧ 0 ≤ X ∧ X ≤ 18446744073709551615 ∧ ∀ wd L : Nat, (X / 2 ^ (wd + 6 * (L + 1)) == 0) = alike wd base key L := by
  obtain ⟨b, rfl⟩ := Int.eq_ofNat_of_zero_le b0
  obtain ⟨k, rfl⟩ := Int.eq_ofNat_of_zero_le k0
  refine ⟨((b ^^^ k : Nat) : Int), u64_xor_nat b k (by omega) (by omega), by omega, ?_, fun wd L => ?_⟩
  · have : b ^^^ k < 2 ^ 64 := Nat.xor_lt_two_pow (by omega) (by omega)
    omega
  · unfold alike
    generalize wd + 6 * (L + 1) = n
    have ep : ((2 : Int) ^ n) = ((2 ^ n : Nat) : Int) := by rw [Int.natCast_pow]; rfl
    have hx : (b ^^^ k) / 2 ^ n = 0 ↔ b / 2 ^ n = k / 2 ^ n := by
      rw [← Nat.shiftRight_eq_div_pow, ← Nat.shiftRight_eq_div_pow, ← Nat.shiftRight_eq_div_pow, Nat.shiftRight_xor_distrib, xor_zero]
    rw [ep]
    simp only [← Int.natCast_ediv, Int.ofNat_eq_natCast]
    by_cases c : b / 2 ^ n = k / 2 ^ n
    · have c2 : ((((b ^^^ k) / 2 ^ n : Nat) : Int) == 0) = true := by rw [hx.2 c]; rfl
      rw [c2, decide_eq_true (by rw [c])]
    · have c1 : ¬ ((b ^^^ k) / 2 ^ n : Nat) = 0 := fun e => c (hx.1 e)
      have c2 : ((((b ^^^ k) / 2 ^ n : Nat) : Int) == 0) = false := beq_eq_false_iff_ne.2 (by omega)
      rw [c2, decide_eq_false (by omega)]

set_option maxHeartbeats 1000000 in
theorem level_any (base key width : Int) (b0 : 0 ≤ base) (b1 : base ≤ 18446744073709551615) (k0 : 0 ≤ key) (k1 : key ≤ 18446744073709551615) (w : World) :
    Calls Tryd.prog 58 #[.int .u64 base, .int .u64 key, .int .i64 width] w fun e w' => e = .returned (.int .i64 (levM (wid width) base key)) ∧ w = w' := by
  by_cases hlt : key < base
  · have e : levM (wid width) base key = -1 := by unfold levM; rw [if_pos hlt]
    rw [e]
    clear e
    go_enter Tryd.func58, Tryd.ntmps58
    go_wp2
    go_ret
    exact ⟨rfl, rfl⟩
  · have hle : base ≤ key := by omega
    obtain ⟨X, hX, x0, x1, hT⟩ := xor_test base key b0 b1 k0 k1
    have hn := wid_le width
    have hf : ∀ L : Nat, L < 3 → Calls Tryd.prog 71 #[.int .i64 ((L : Int) + 1), .int .i64 width] w fun e w' => e = .returned (.int .u64 ((wid width + 6 * (L + 1) : Nat) : Int)) ∧ w = w' := fun L hL => from_any (L + 1) (by omega) width w
    have HF := Lib.hid hf
    have HT := Lib.hid hT
    have ha : Hid (∀ k, k < 3 → alike (wid width) base key k = true → (∀ j, j < k → alike (wid width) base key j = false) → levM (wid width) base key = (k : Int)) := fun k h1 h2 h3 => levM_at hle h1 h2 h3
    have hb : Hid ((∀ j, j < 3 → alike (wid width) base key j = false) → levM (wid width) base key = 3) := fun h => levM_far hle h
    clear hf hT hlt
    generalize wid width = n at *
    generalize levM n base key = v at *
    go_enter Tryd.func58, Tryd.ntmps58
    go_wp2
    go_loop [11] (fun i => ∃ k : Nat, k ≤ 3 ∧ i = .int .i64 k ∧ Hid (∀ j, j < k → alike n base key j = false)) (fun i => 3 - (intOf i).toNat)
    case atStart => exact ⟨0, by omega, rfl, fun j hj => absurd hj (by omega)⟩
    case round =>
      obtain ⟨k, hk, rfl, HK⟩ := hrel
      by_cases h3 : k < 3
      · have hf := HF.out k h3
        have ht := HT.out n k
        rcases hal : alike n base key k with _ | _
        · rw [hal] at ht
          go_wp2_with (go_at_call 71; refine hf.mono ?_; rintro e w' ⟨rfl, rfl⟩)
          go_round
          case rel => exact ⟨k + 1, by omega, by go_num, fun j hj => by
            rcases Nat.lt_or_ge j k with h | h
            · exact HK.out j h
            · obtain rfl : j = k := by omega
              exact hal⟩
          case measure => simp [intOf]; omega
        · rw [hal] at ht
          have hv := Lib.hid (ha.out k h3 hal HK.out)
          go_wp2_with (go_at_call 71; refine hf.mono ?_; rintro e w' ⟨rfl, rfl⟩)
          go_ret
          exact ⟨by rw [hv.out]; rfl, rfl⟩
      · obtain rfl : k = 3 := by omega
        have hv := Lib.hid (hb.out HK.out)
        go_wp2
        go_ret
        exact ⟨by rw [hv.out]; rfl, rfl⟩

/-! ### the document's -/
theorem over_any (key : Int) (low : Nat) (hlow : low < 64) (k0 : 0 ≤ key) (k1 : key ≤ 18446744073709551615) (w : World) :
    Calls Tryd.prog 62 #[.int .u64 key, .int .i64 (low : Int)] w fun e w' => e = .returned (.int .u64 (key / 2 ^ low)) ∧ w = w' := by
  have ho := rone_any (low : Int) w
  have e1 : (oneM (low : Int) : Int) = 2 ^ low := by
    unfold oneM
    rw [if_pos (by omega), Int.toNat_natCast, Int.natCast_pow]; rfl
  rw [e1] at ho
  have hp : (0 : Int) < 2 ^ low := Int.pow_pos (by decide)
  have hd : key.tdiv (2 ^ low) = key / 2 ^ low := Int.tdiv_eq_ediv_of_nonneg k0
  have h1 : 0 ≤ key / 2 ^ low := Int.ediv_nonneg k0 (by omega)
  have h2 : key / 2 ^ low ≤ key := Int.ediv_le_self _ k0
  have hne : ¬ ((2 : Int) ^ low = 0) := by omega
  generalize (2 : Int) ^ low = p at *
  generalize hq : key / p = q at *
  go_enter Tryd.func62, Tryd.ntmps62
  go_wp2_with (go_at_call 79; refine ho.mono ?_; rintro e w' ⟨rfl, rfl⟩)
  go_ret
  exact ⟨rfl, rfl⟩

set_option maxHeartbeats 1000000 in
theorem rlevel_any (base key width : Int) (b0 : 0 ≤ base) (b1 : base ≤ 18446744073709551615) (k0 : 0 ≤ key) (k1 : key ≤ 18446744073709551615) (w : World) :
    Calls Tryd.prog 34 #[.int .u64 base, .int .u64 key, .int .i64 width] w fun e w' => e = .returned (.int .i64 (levM (wid width) base key)) ∧ w = w' := by
  have hwd := rwidth_any width w
  have hn := wid_le width
  by_cases hlt : key < base
  · have e : levM (wid width) base key = -1 := by unfold levM; rw [if_pos hlt]
    rw [e]
    clear e
    generalize wid width = n at *
    go_enter Tryd.func34, Tryd.ntmps34
    go_wp2_with (go_at_call 25; refine hwd.mono ?_; rintro e w' ⟨rfl, rfl⟩)
    go_ret
    exact ⟨rfl, rfl⟩
  · have hle : base ≤ key := by omega
    have hf : ∀ L : Nat, L < 3 → ∀ x : Int, 0 ≤ x → x ≤ 18446744073709551615 → Calls Tryd.prog 62 #[.int .u64 x, .int .i64 ((wid width : Int) + 6 * (L : Int) + 6)] w fun e w' => e = .returned (.int .u64 (x / 2 ^ (wid width + 6 * (L + 1)))) ∧ w = w' := fun L hL x x0 x1 => by
      have := over_any x (wid width + 6 * (L + 1)) (by omega) x0 x1 w
      rw [show (((wid width + 6 * (L + 1) : Nat)) : Int) = (wid width : Int) + 6 * (L : Int) + 6 by omega] at this
      exact this
    have HF := Lib.hid hf
    have ha : Hid (∀ k, k < 3 → alike (wid width) base key k = true → (∀ j, j < k → alike (wid width) base key j = false) → levM (wid width) base key = (k : Int)) := fun k h1 h2 h3 => levM_at hle h1 h2 h3
    have hb : Hid ((∀ j, j < 3 → alike (wid width) base key j = false) → levM (wid width) base key = 3) := fun h => levM_far hle h
    clear hf hlt
    generalize wid width = n at *
    generalize levM n base key = v at *
    go_enter Tryd.func34, Tryd.ntmps34
    go_wp2_with (go_at_call 25; refine hwd.mono ?_; rintro e w' ⟨rfl, rfl⟩)
    go_loop [7] (fun i => ∃ k : Nat, k ≤ 3 ∧ i = .int .i64 k ∧ Hid (∀ j, j < k → alike n base key j = false)) (fun i => 3 - (intOf i).toNat)
    case atStart => exact ⟨0, by omega, rfl, fun j hj => absurd hj (by omega)⟩
    case round =>
      obtain ⟨k, hk, rfl, HK⟩ := hrel
      by_cases h3 : k < 3
      · have hf1 := HF.out k h3 base b0 b1
        have hf2 := HF.out k h3 key k0 k1
        rcases hal : alike n base key k with _ | _
        · have hne : ¬ (base / 2 ^ (n + 6 * (k + 1)) = key / 2 ^ (n + 6 * (k + 1))) := by unfold alike at hal; simpa using hal
          generalize base / 2 ^ (n + 6 * (k + 1)) = u at *
          generalize key / 2 ^ (n + 6 * (k + 1)) = v' at *
          have hne' : (u == v') = false := by simpa using hne
          go_wp2_with (first | (go_at_call 62; refine hf1.mono ?_; rintro e w' ⟨rfl, rfl⟩) | (go_at_call 62; refine hf2.mono ?_; rintro e w' ⟨rfl, rfl⟩))
          go_round
          case rel => exact ⟨k + 1, by omega, by go_num, fun j hj => by
            rcases Nat.lt_or_ge j k with h | h
            · exact HK.out j h
            · obtain rfl : j = k := by omega
              exact hal⟩
          case measure => simp [intOf]; omega
        · have hv := Lib.hid (ha.out k h3 hal HK.out)
          have hne : (base / 2 ^ (n + 6 * (k + 1)) = key / 2 ^ (n + 6 * (k + 1))) := by unfold alike at hal; simpa using hal
          rw [hne] at hf1
          generalize key / 2 ^ (n + 6 * (k + 1)) = v' at *
          clear hne
          go_wp2_with (first | (go_at_call 62; refine hf1.mono ?_; rintro e w' ⟨rfl, rfl⟩) | (go_at_call 62; refine hf2.mono ?_; rintro e w' ⟨rfl, rfl⟩))
          go_ret
          exact ⟨by rw [hv.out]; rfl, rfl⟩
      · obtain rfl : k = 3 := by omega
        have hv := Lib.hid (hb.out HK.out)
        go_wp2
        go_ret
        exact ⟨by rw [hv.out]; rfl, rfl⟩
end Go.Proofs.YtfgffgicfieieaaDoor
