/-
  Contracts of math/bits.OnesCount64, Len64 and TrailingZeros64 (the last one where its table holds what its initialiser lays), at every number of 64 bits.
-/
import Derived.Test.YtifglncofbkcpaaDoorRows
import Derived.Test.YtifglncofbkcpaaDoorBitsN
import Derived.WalkKit
import Derived.ProofKit
import Derived.OpenShut
import Derived.IntWalk
import Derived.Lib.Hide
import Derived.Laws.Bits64b
import Derived.Lib.BitFns
import Derived.Lib.Strings
import Derived.Lib.Slices
import Derived.Lib.Small
import Derived.Lib.Walk
namespace Go.Proofs.YtifglncofbkcpaaDoor
open Go.ChangeShapes Go.WideShapes Go.ChangeAt Go.RowKit
set_option linter.unusedVariables false

theorem swar_steps (x : Nat) (hx : x < 18446744073709551616) : ∃ a1 a2 y1 b1 b2 y2 s y3 z1 z2 z3 : Int,
    bits .and .u64 ((x : Int) / 2) 6148914691236517205 = a1 ∧ bits .and .u64 (x : Int) 6148914691236517205 = a2 ∧ IntKind.u64.wrap (a1 + a2) = y1 ∧
    bits .and .u64 (y1 / 4) 3689348814741910323 = b1 ∧ bits .and .u64 y1 3689348814741910323 = b2 ∧ IntKind.u64.wrap (b1 + b2) = y2 ∧
    IntKind.u64.wrap (y2 / 16 + y2) = s ∧ bits .and .u64 s 1085102592571150095 = y3 ∧ IntKind.u64.wrap (y3 + y3 / 256) = z1 ∧ IntKind.u64.wrap (z1 + z1 / 65536) = z2 ∧
    IntKind.u64.wrap (z2 + z2 / 4294967296) = z3 ∧ 0 ≤ z3 ∧ z3 < 9223372036854775808 ∧ z3 % 128 = (manyM x : Int) := by
  have m1 : mk 8 85 = 6148914691236517205 := by decide
  have m2 : mk 8 51 = 3689348814741910323 := by decide
  have m3 : mk 8 15 = 1085102592571150095 := by decide
  have hs := swar 8 x
  rw [m1, m2, m3] at hs
  have q1 : x / 2 &&& 6148914691236517205 ≤ 6148914691236517205 := Nat.and_le_right
  have q2 : x &&& 6148914691236517205 ≤ 6148914691236517205 := Nat.and_le_right
  have q3 : s1 6148914691236517205 x / 4 &&& 3689348814741910323 ≤ 3689348814741910323 := Nat.and_le_right
  have q4 : s1 6148914691236517205 x &&& 3689348814741910323 ≤ 3689348814741910323 := Nat.and_le_right
  have d1 : s1 6148914691236517205 x = (x / 2 &&& 6148914691236517205) + (x &&& 6148914691236517205) := rfl
  have d2 : s2 3689348814741910323 (s1 6148914691236517205 x) = (s1 6148914691236517205 x / 4 &&& 3689348814741910323) + (s1 6148914691236517205 x &&& 3689348814741910323) := rfl
  have d3 : s3 1085102592571150095 (s2 3689348814741910323 (s1 6148914691236517205 x)) = (s2 3689348814741910323 (s1 6148914691236517205 x) / 16 + s2 3689348814741910323 (s1 6148914691236517205 x)) &&& 1085102592571150095 := rfl
  have q5 : (s2 3689348814741910323 (s1 6148914691236517205 x) / 16 + s2 3689348814741910323 (s1 6148914691236517205 x)) &&& 1085102592571150095 ≤ 1085102592571150095 := Nat.and_le_right
  rw [← d3, hs] at q5
  have u : ∀ n : Nat, n < 18446744073709551616 → IntKind.u64.wrap (n : Int) = n := fun n h => by rw [IntKind.wrap_u64]; omega
  have ha : ∀ a b : Nat, a < 18446744073709551616 → b < 18446744073709551616 → bits .and .u64 (a : Int) (b : Int) = ((a &&& b : Nat) : Int) := bits_and_u64_nat
  have hm := popc64 x
  rw [← popc_upTo 64 x] at hm
  generalize hS : sums 8 x = S at *
  refine ⟨((x / 2 &&& 6148914691236517205 : Nat) : Int), ((x &&& 6148914691236517205 : Nat) : Int), (s1 6148914691236517205 x : Int), ((s1 6148914691236517205 x / 4 &&& 3689348814741910323 : Nat) : Int), ((s1 6148914691236517205 x &&& 3689348814741910323 : Nat) : Int),
    (s2 3689348814741910323 (s1 6148914691236517205 x) : Int), ((s2 3689348814741910323 (s1 6148914691236517205 x) / 16 + s2 3689348814741910323 (s1 6148914691236517205 x) : Nat) : Int), (S : Int), ((S + S / 256 : Nat) : Int), (((S + S / 256) + (S + S / 256) / 65536 : Nat) : Int),
    ((((S + S / 256) + (S + S / 256) / 65536) + ((S + S / 256) + (S + S / 256) / 65536) / 4294967296 : Nat) : Int), ?_, ?_, ?_, ?_, ?_, ?_, ?_, ?_, ?_, ?_, ?_, ?_, ?_, ?_⟩
  · exact ha (x / 2) 6148914691236517205 (by omega) (by omega)
  · exact ha x 6148914691236517205 hx (by omega)
  · rw [← Int.natCast_add, ← d1]; exact u _ (by omega)
  · exact ha (s1 6148914691236517205 x / 4) 3689348814741910323 (by omega) (by omega)
  · exact ha (s1 6148914691236517205 x) 3689348814741910323 (by omega) (by omega)
  · rw [← Int.natCast_add, ← d2]; exact u _ (by omega)
  · exact u (s2 3689348814741910323 (s1 6148914691236517205 x) / 16 + s2 3689348814741910323 (s1 6148914691236517205 x)) (by omega)
  · have := ha (s2 3689348814741910323 (s1 6148914691236517205 x) / 16 + s2 3689348814741910323 (s1 6148914691236517205 x)) 1085102592571150095 (by omega) (by omega)
    rw [← d3, hs] at this
    exact this
  · exact u (S + S / 256) (by omega)
  · exact u ((S + S / 256) + (S + S / 256) / 65536) (by omega)
  · exact u (((S + S / 256) + (S + S / 256) / 65536) + ((S + S / 256) + (S + S / 256) / 65536) / 4294967296) (by omega)
  · omega
  · omega
  · unfold manyM; omega

theorem and_127 (z : Int) (h0 : 0 ≤ z) (h1 : z < 9223372036854775808) : bits .and .i64 z 127 = z % 128 := by
  obtain ⟨n, rfl⟩ := Int.eq_ofNat_of_zero_le h0
  have e1 : (BitVec.ofInt 64 (n : Int)).toNat = n := by rw [BitVec.ofInt_natCast, BitVec.toNat_ofNat]; exact Nat.mod_eq_of_lt (by omega)
  have e2 : (BitVec.ofInt 64 127).toNat = 127 := by decide
  have e3 : n &&& 127 = n % 128 := Nat.and_two_pow_sub_one_eq_mod n 7
  show IntKind.i64.wrap ((BitVec.ofInt 64 (n : Int) &&& BitVec.ofInt 64 127).toNat : Int) = _
  rw [BitVec.toNat_and, e1, e2, e3]
  simp only [IntKind.wrap, IntKind.bits, IntKind.signed]
  simp
  omega

set_option maxHeartbeats 1000000 in
theorem ones_any (x : Nat) (w : World) (hx : x < 18446744073709551616) :
    Calls Tryd.prog 23 #[.int .u64 x] w fun e w' => e = .returned (.int .i64 (manyM x)) ∧ w = w' := by
  obtain ⟨a1, a2, y1, b1, b2, y2, s, y3, z1, z2, z3, e1, e2, e3, e4, e5, e6, e7, e8, e9, e10, e11, l, u, e12⟩ := swar_steps x hx
  have e13 := and_127 z3 l u
  go_enter Tryd.func23, Tryd.ntmps23
  go_wp2
  go_ret
  exact ⟨rfl, rfl⟩

theorem wrap_sum (k q : Nat) (hk : k ≤ 56) (h : q ≤ 8) : wrap64 ((k : Int) + wrap64 (q : Int)) = ((k + q : Nat) : Int) := by
  have e : wrap64 (q : Int) = q := by unfold wrap64; omega
  rw [e]
  unfold wrap64
  omega
theorem wrap_one (q : Nat) (h : q ≤ 8) : wrap64 (wrap64 (q : Int)) = (q : Int) := by
  have e : wrap64 (q : Int) = q := by unfold wrap64; omega
  rw [e, e]

theorem libLen (x : Nat) (h0 : x ≠ 0) (hx : x < 18446744073709551616) : Lib.bitLen x = bitLen x := by
  have h := Lib.bitLen_shift x.log2 x (Nat.log2_self_le h0) hx
  have e : x / 2 ^ x.log2 = 1 := by
    have h1 := Nat.log2_self_le h0
    have h2 : x < 2 ^ (x.log2 + 1) := Nat.lt_log2_self
    rw [Nat.pow_succ] at h2
    exact Nat.div_eq_of_lt_le (by omega) (by omega)
  rw [h, e]
  have : Lib.bitLen 1 = 1 := by decide
  rw [this]
  simp [bitLen, h0]

set_option maxHeartbeats 4000000 in
set_option maxRecDepth 100000 in
theorem len_lib (x : Int) (w : World) (h0 : 0 ≤ x) (h1 : x ≤ 18446744073709551615) :
    Calls Tryd.prog 27 #[.int .u64 x] w fun e w' => e = .returned (.int .i64 (Lib.bitLen x.toNat)) ∧ w = w' := by
  rcases (show 72057594037927936 ≤ x ∨ (281474976710656 ≤ x ∧ x < 72057594037927936) ∨ (1099511627776 ≤ x ∧ x < 281474976710656) ∨ (4294967296 ≤ x ∧ x < 1099511627776) ∨ (16777216 ≤ x ∧ x < 4294967296) ∨ (65536 ≤ x ∧ x < 16777216) ∨ (256 ≤ x ∧ x < 65536) ∨ x < 256 from by omega) with h | ⟨h, h'⟩ | ⟨h, h'⟩ | ⟨h, h'⟩ | ⟨h, h'⟩ | ⟨h, h'⟩ | ⟨h, h'⟩ | h
  · have i0 : 0 ≤ x / 4294967296 / 65536 / 256 := by omega
    have i1 : x / 4294967296 / 65536 / 256 ≤ 255 := by omega
    go_enter Tryd.func27, Tryd.ntmps27
    go_wp2
    go_ret
    refine ⟨congrArg Ending.returned (congrArg (Value.int IntKind.i64) ?_), rfl⟩
    rw [Lib.len8_of (x / 4294967296 / 65536 / 256) i0 i1]
    have e : (x / 4294967296 / 65536 / 256).toNat = x.toNat / 72057594037927936 := by omega
    have l := Lib.bitLen_le8' (x / 4294967296 / 65536 / 256) i0 i1
    rw [e] at l ⊢
    rw [Lib.bitLen_shift56 x.toNat (by omega) (by omega)]
    exact wrap_sum 56 _ (by decide) l
  · have i0 : 0 ≤ x / 4294967296 / 65536 := by omega
    have i1 : x / 4294967296 / 65536 ≤ 255 := by omega
    go_enter Tryd.func27, Tryd.ntmps27
    go_wp2
    go_ret
    refine ⟨congrArg Ending.returned (congrArg (Value.int IntKind.i64) ?_), rfl⟩
    rw [Lib.len8_of (x / 4294967296 / 65536) i0 i1]
    have e : (x / 4294967296 / 65536).toNat = x.toNat / 281474976710656 := by omega
    have l := Lib.bitLen_le8' (x / 4294967296 / 65536) i0 i1
    rw [e] at l ⊢
    rw [Lib.bitLen_shift48 x.toNat (by omega) (by omega)]
    exact wrap_sum 48 _ (by decide) l
  · have i0 : 0 ≤ x / 4294967296 / 256 := by omega
    have i1 : x / 4294967296 / 256 ≤ 255 := by omega
    go_enter Tryd.func27, Tryd.ntmps27
    go_wp2
    go_ret
    refine ⟨congrArg Ending.returned (congrArg (Value.int IntKind.i64) ?_), rfl⟩
    rw [Lib.len8_of (x / 4294967296 / 256) i0 i1]
    have e : (x / 4294967296 / 256).toNat = x.toNat / 1099511627776 := by omega
    have l := Lib.bitLen_le8' (x / 4294967296 / 256) i0 i1
    rw [e] at l ⊢
    rw [Lib.bitLen_shift40 x.toNat (by omega) (by omega)]
    exact wrap_sum 40 _ (by decide) l
  · have i0 : 0 ≤ x / 4294967296 := by omega
    have i1 : x / 4294967296 ≤ 255 := by omega
    go_enter Tryd.func27, Tryd.ntmps27
    go_wp2
    go_ret
    refine ⟨congrArg Ending.returned (congrArg (Value.int IntKind.i64) ?_), rfl⟩
    rw [Lib.len8_of (x / 4294967296) i0 i1]
    have e : (x / 4294967296).toNat = x.toNat / 4294967296 := by omega
    have l := Lib.bitLen_le8' (x / 4294967296) i0 i1
    rw [e] at l ⊢
    rw [Lib.bitLen_shift32 x.toNat (by omega) (by omega)]
    exact wrap_sum 32 _ (by decide) l
  · have i0 : 0 ≤ x / 65536 / 256 := by omega
    have i1 : x / 65536 / 256 ≤ 255 := by omega
    go_enter Tryd.func27, Tryd.ntmps27
    go_wp2
    go_ret
    refine ⟨congrArg Ending.returned (congrArg (Value.int IntKind.i64) ?_), rfl⟩
    rw [Lib.len8_of (x / 65536 / 256) i0 i1]
    have e : (x / 65536 / 256).toNat = x.toNat / 16777216 := by omega
    have l := Lib.bitLen_le8' (x / 65536 / 256) i0 i1
    rw [e] at l ⊢
    rw [Lib.bitLen_shift24 x.toNat (by omega) (by omega)]
    exact wrap_sum 24 _ (by decide) l
  · have i0 : 0 ≤ x / 65536 := by omega
    have i1 : x / 65536 ≤ 255 := by omega
    go_enter Tryd.func27, Tryd.ntmps27
    go_wp2
    go_ret
    refine ⟨congrArg Ending.returned (congrArg (Value.int IntKind.i64) ?_), rfl⟩
    rw [Lib.len8_of (x / 65536) i0 i1]
    have e : (x / 65536).toNat = x.toNat / 65536 := by omega
    have l := Lib.bitLen_le8' (x / 65536) i0 i1
    rw [e] at l ⊢
    rw [Lib.bitLen_shift16 x.toNat (by omega) (by omega)]
    exact wrap_sum 16 _ (by decide) l
  · have i0 : 0 ≤ x / 256 := by omega
    have i1 : x / 256 ≤ 255 := by omega
    go_enter Tryd.func27, Tryd.ntmps27
    go_wp2
    go_ret
    refine ⟨congrArg Ending.returned (congrArg (Value.int IntKind.i64) ?_), rfl⟩
    rw [Lib.len8_of (x / 256) i0 i1]
    have e : (x / 256).toNat = x.toNat / 256 := by omega
    have l := Lib.bitLen_le8' (x / 256) i0 i1
    rw [e] at l ⊢
    rw [Lib.bitLen_shift8 x.toNat (by omega) (by omega)]
    exact wrap_sum 8 _ (by decide) l
  · have i0 : 0 ≤ x := by omega
    have i1 : x ≤ 255 := by omega
    go_enter Tryd.func27, Tryd.ntmps27
    go_wp2
    go_ret
    refine ⟨congrArg Ending.returned (congrArg (Value.int IntKind.i64) ?_), rfl⟩
    rw [Lib.len8_of (x) i0 i1]
    exact wrap_one _ (Lib.bitLen_le8' x i0 i1)
theorem len_any (x : Nat) (w : World) (h0 : x ≠ 0) (hx : x < 18446744073709551616) :
    Calls Tryd.prog 27 #[.int .u64 x] w fun e w' => e = .returned (.int .i64 (bitLen x)) ∧ w = w' := by
  have h := len_lib (x : Int) w (by omega) (by omega)
  rw [Int.toNat_natCast, libLen x h0 hx] at h
  exact h

/-- The table of math/bits lies where it belongs. -/
def Tab (w : World) : Prop := ∀ j, j < 64 → w.cell? ⟨0, j, none⟩ = some (.int .u8 (Lib.deBruijn64tab.getD j 0))

set_option maxHeartbeats 1000000 in
theorem tz_core (x k idx : Nat) (w : World) (hx0 : ((x : Int) == 0) = false)
    (key : IntKind.u64.wrap (bits BinOp.and IntKind.u64 (x : Int) (IntKind.u64.wrap (-(x : Int))) * 285870213051353865) / 288230376151711744 = (idx : Int))
    (hi : idx < 64) (hk : k < 64) (hcell : w.cell? ⟨0, idx, none⟩ = some (.int .u8 k)) :
    Calls Tryd.prog 26 #[.int .u64 x] w fun e w' => e = .returned (.int .i64 k) ∧ w = w' := by
  go_enter Tryd.func26, Tryd.ntmps26
  go_wp2_with (simp only [key])
  go_ret
  exact ⟨rfl, rfl⟩
theorem tz_key (x a : Nat) (hx : x < 18446744073709551616) (hx0 : x ≠ 0) (hlow : x &&& (18446744073709551616 - x) = a) :
    IntKind.u64.wrap (bits BinOp.and IntKind.u64 (x : Int) (IntKind.u64.wrap (-(x : Int))) * 285870213051353865) / 288230376151711744 = ((a * 285870213051353865 % 18446744073709551616 / 288230376151711744 : Nat) : Int) := by
  have e1 : IntKind.u64.wrap (-(x : Int)) = ((18446744073709551616 - x : Nat) : Int) := by rw [IntKind.wrap_u64]; omega
  rw [e1, bits_and_u64_nat x _ hx (by omega), hlow, IntKind.wrap_u64]
  omega
theorem tz_any (x : Nat) (w : World) (hx0 : x ≠ 0) (hx : x < 18446744073709551616) (hT : Tab w) :
    Calls Tryd.prog 26 #[.int .u64 x] w fun e w' => e = .returned (.int .i64 (Lib.ctz 64 x)) ∧ w = w' := by
  obtain ⟨hlow, hk⟩ := Lib.lowest_bit 64 x hx0 hx
  obtain ⟨hi, htab⟩ := Lib.deBruijn64_at _ hk
  have hcell := hT _ hi
  rw [htab] at hcell
  exact tz_core x _ _ w (by simp; omega) (tz_key x _ hx hx0 hlow) hi hk hcell
end Go.Proofs.YtifglncofbkcpaaDoor
