/-
  Contracts of tag.Inverse, tag.Cost and of the document's own: what a unit of length costs, and what a size costs. No condition but that the arguments are values of their types.
-/
import Derived.Test.YtamokhoiglklkaaTagB
namespace Go.Proofs.Ytamokhoiglklkaa
open Go.ChangeShapes Go.WideShapes Go.ChangeAt Go.RowKit
set_option linter.unusedVariables false

set_option maxHeartbeats 400000 in
theorem inv_ok (u k : Int) (w : World) (hu : 1 ≤ u) (hu1 : u ≤ 4611686018427387904) (hk : 1 ≤ k) (hk1 : k ≤ 65536) :
    Calls Try.prog 15 #[.int .u64 u, .int .i64 k] w fun e w' => e = .returned (.tuple #[.int .u64 (invM u k), .bool true]) ∧ w = w' := by
  have h0 : ¬ u < 1 := by omega
  have h1 : ¬ 4611686018427387904 < u := by omega
  have h2 : ¬ k < 1 := by omega
  have h3 : ¬ 65536 < k := by omega
  unfold invM
  by_cases h : u / k < 1
  · rw [if_pos h]
    go_enter Try.func15, Try.ntmps15
    go_wp2
    go_ret2
    exact ⟨rfl, rfl⟩
  · rw [if_neg h]
    go_enter Try.func15, Try.ntmps15
    go_wp2
    go_ret2
    exact ⟨rfl, rfl⟩

set_option maxHeartbeats 400000 in
theorem inv_no (u k : Int) (w : World) (hu : 0 ≤ u) (hu1 : u ≤ 18446744073709551615) (hk : -9223372036854775808 ≤ k) (hk1 : k ≤ 9223372036854775807)
    (h : u < 1 ∨ 4611686018427387904 < u ∨ k < 1 ∨ 65536 < k) :
    Calls Try.prog 15 #[.int .u64 u, .int .i64 k] w fun e w' => e = .returned (.tuple #[.int .u64 0, .bool false]) ∧ w = w' := by
  by_cases h0 : u < 1
  · clear h
    go_enter Try.func15, Try.ntmps15
    go_wp2
    go_ret2
    exact ⟨rfl, rfl⟩
  by_cases h1 : 4611686018427387904 < u
  · clear h
    go_enter Try.func15, Try.ntmps15
    go_wp2
    go_ret2
    exact ⟨rfl, rfl⟩
  by_cases h2 : k < 1
  · clear h
    go_enter Try.func15, Try.ntmps15
    go_wp2
    go_ret2
    exact ⟨rfl, rfl⟩
  have h3 : 65536 < k := by omega
  clear h
  go_enter Try.func15, Try.ntmps15
  go_wp2
  go_ret2
  exact ⟨rfl, rfl⟩

set_option maxHeartbeats 400000 in
theorem rinv_ok (u k : Int) (w : World) (hu : 1 ≤ u) (hu1 : u ≤ 4611686018427387904) (hk : 1 ≤ k) (hk1 : k ≤ 65536) :
    Calls Try.prog 16 #[.int .u64 u, .int .i64 k] w fun e w' => e = .returned (.tuple #[.int .u64 (invM u k), .bool true]) ∧ w = w' := by
  have h0 : ¬ u < 1 := by omega
  have h1 : ¬ 4611686018427387904 < u := by omega
  have h2 : ¬ k < 1 := by omega
  have h3 : ¬ 65536 < k := by omega
  unfold invM
  by_cases h : u / k < 1
  · rw [if_pos h]
    go_enter Try.func16, Try.ntmps16
    go_wp2
    go_ret2
    exact ⟨rfl, rfl⟩
  · rw [if_neg h]
    go_enter Try.func16, Try.ntmps16
    go_wp2
    go_ret2
    exact ⟨rfl, rfl⟩

set_option maxHeartbeats 400000 in
theorem rinv_no (u k : Int) (w : World) (hu : 0 ≤ u) (hu1 : u ≤ 18446744073709551615) (hk : -9223372036854775808 ≤ k) (hk1 : k ≤ 9223372036854775807)
    (h : u < 1 ∨ 4611686018427387904 < u ∨ k < 1 ∨ 65536 < k) :
    Calls Try.prog 16 #[.int .u64 u, .int .i64 k] w fun e w' => e = .returned (.tuple #[.int .u64 0, .bool false]) ∧ w = w' := by
  by_cases h0 : u < 1
  · clear h
    go_enter Try.func16, Try.ntmps16
    go_wp2
    go_ret2
    exact ⟨rfl, rfl⟩
  by_cases h1 : 4611686018427387904 < u
  · clear h
    go_enter Try.func16, Try.ntmps16
    go_wp2
    go_ret2
    exact ⟨rfl, rfl⟩
  by_cases h2 : k < 1
  · clear h
    go_enter Try.func16, Try.ntmps16
    go_wp2
    go_ret2
    exact ⟨rfl, rfl⟩
  have h3 : 65536 < k := by omega
  clear h
  go_enter Try.func16, Try.ntmps16
  go_wp2
  go_ret2
  exact ⟨rfl, rfl⟩

set_option maxHeartbeats 400000 in
theorem cost_any (s r : Int) (w : World) (hs : -9223372036854775808 ≤ s) (hs1 : s ≤ 9223372036854775807) (hr : 0 ≤ r) (hr1 : r ≤ 18446744073709551615) :
    Calls Try.prog 17 #[.int .i64 s, .int .u64 r] w fun e w' => e = .returned (.int .u64 (costM s r)) ∧ w = w' := by
  unfold costM sizeM
  by_cases h : s < 0
  · rw [if_pos h]
    go_enter Try.func17, Try.ntmps17
    go_wp2_with fail
    refine (mul_any _ _ _ (by omega) (by omega) (by omega) (by omega)).mono ?_
    rintro e w' ⟨rfl, rfl⟩
    go_wp2
    go_ret
    exact ⟨rfl, rfl⟩
  · rw [if_neg h]
    go_enter Try.func17, Try.ntmps17
    go_wp2_with fail
    refine (mul_any _ _ _ (by omega) (by omega) (by omega) (by omega)).mono ?_
    rintro e w' ⟨rfl, rfl⟩
    go_wp2
    go_ret
    exact ⟨rfl, rfl⟩

set_option maxHeartbeats 400000 in
theorem rcost_any (s r : Int) (w : World) (hs : -9223372036854775808 ≤ s) (hs1 : s ≤ 9223372036854775807) (hr : 0 ≤ r) (hr1 : r ≤ 18446744073709551615) :
    Calls Try.prog 18 #[.int .i64 s, .int .u64 r] w fun e w' => e = .returned (.int .u64 (costM s r)) ∧ w = w' := by
  unfold costM sizeM
  by_cases h : s < 0
  · rw [if_pos h]
    go_enter Try.func18, Try.ntmps18
    go_wp2_with fail
    refine (rmul_any _ _ _ (by omega) (by omega) (by omega) (by omega)).mono ?_
    rintro e w' ⟨rfl, rfl⟩
    go_wp2
    go_ret
    exact ⟨rfl, rfl⟩
  · rw [if_neg h]
    go_enter Try.func18, Try.ntmps18
    go_wp2_with fail
    refine (rmul_any _ _ _ (by omega) (by omega) (by omega) (by omega)).mono ?_
    rintro e w' ⟨rfl, rfl⟩
    go_wp2
    go_ret
    exact ⟨rfl, rfl⟩
end Go.Proofs.Ytamokhoiglklkaa
