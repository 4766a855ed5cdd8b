/-
  Contracts of package word's functions: Right, Count, State, Pack, More, Rest, Shut. No condition but that the arguments are values of their types.
-/
import Derived.Test.YtbffoejdjpoibaaRows
import Derived.Test.YtbffoejdjpoibaaWordM
import Derived.WalkKit
import Derived.ProofKit
import Derived.OpenShut
import Derived.IntWalk
import Derived.Lib.Hide
namespace Go.Proofs.Ytbffoejdjpoibaa
open Go.ChangeShapes Go.WideShapes Go.ChangeAt Go.RowKit
set_option linter.unusedVariables false

set_option maxHeartbeats 400000 in
theorem right_any (z : Int) (w : World) :
    Calls Try.prog 10 #[.int .u64 z] w fun e w' => e = .returned (.bool (rightB z)) ∧ w = w' := by
  go_enter Try.func10, Try.ntmps10
  go_wp2
  go_ret
  exact ⟨rfl, rfl⟩

set_option maxHeartbeats 400000 in
theorem above_any (z : Int) (w : World) (h0 : 0 ≤ z) (h1 : z ≤ 18446744073709551615) :
    Calls Try.prog 20 #[.int .u64 z] w fun e w' => e = .returned (.int .u64 (z - z % 2305843009213693952)) ∧ w = w' := by
  have hb := andNot_low61 z h0 h1
  go_enter Try.func20, Try.ntmps20
  go_wp2
  go_ret
  exact ⟨rfl, rfl⟩

set_option maxHeartbeats 400000 in
theorem count_any (z : Int) (w : World) (h0 : 0 ≤ z) (h1 : z ≤ 18446744073709551615) :
    Calls Try.prog 11 #[.int .u64 z] w fun e w' => e = .returned (.int .u64 (countM z)) ∧ w = w' := by
  have hb := and_low61 z h0 h1
  unfold countM
  by_cases h : z < 6917529027641081856
  · have hr : rightB z = true := by simp [rightB, h]
    rw [if_pos h]
    go_enter Try.func11, Try.ntmps11
    go_wp2_with (go_at_call 10; refine (right_any _ _).mono ?_; rintro e w' ⟨rfl, rfl⟩)
    go_ret
    exact ⟨rfl, rfl⟩
  · have hr : rightB z = false := by simp [rightB]; omega
    rw [if_neg h]
    go_enter Try.func11, Try.ntmps11
    go_wp2_with (go_at_call 10; refine (right_any _ _).mono ?_; rintro e w' ⟨rfl, rfl⟩)
    go_ret
    exact ⟨rfl, rfl⟩

set_option maxHeartbeats 400000 in
theorem state_any (z : Int) (w : World) (h0 : 0 ≤ z) (h1 : z ≤ 18446744073709551615) :
    Calls Try.prog 12 #[.int .u64 z] w fun e w' => e = .returned (.int .i64 (stateM z)) ∧ w = w' := by
  unfold stateM
  by_cases h : z < 6917529027641081856
  · have hr : rightB z = true := by simp [rightB, h]
    rw [if_pos h]
    go_enter Try.func12, Try.ntmps12
    go_wp2_with (go_at_call 10; refine (right_any _ _).mono ?_; rintro e w' ⟨rfl, rfl⟩)
    go_ret
    exact ⟨rfl, rfl⟩
  · have hr : rightB z = false := by simp [rightB]; omega
    rw [if_neg h]
    go_enter Try.func12, Try.ntmps12
    go_wp2_with (go_at_call 10; refine (right_any _ _).mono ?_; rintro e w' ⟨rfl, rfl⟩)
    go_ret
    exact ⟨rfl, rfl⟩

set_option maxHeartbeats 400000 in
theorem pack_any (n s : Int) (w : World) (h0 : 0 ≤ n) (h1 : n ≤ 18446744073709551615) (h2 : -9223372036854775808 ≤ s) (h3 : s ≤ 9223372036854775807) :
    Calls Try.prog 13 #[.int .u64 n, .int .i64 s] w fun e w' => e = .returned (.tuple #[.int .u64 (packM n s), .bool (packB n s)]) ∧ w = w' := by
  unfold packM packB
  by_cases h : n ≤ 2305843009213693951 ∧ 0 ≤ s ∧ s ≤ 2
  · rw [if_pos h, decide_eq_true h]
    obtain ⟨ha, hb, hc⟩ := h
    have ho := or_state s n hb (by omega) h0 (by omega)
    go_enter Try.func13, Try.ntmps13
    go_wp2
    go_ret2
    exact ⟨rfl, rfl⟩
  · rw [if_neg h, decide_eq_false h]
    by_cases ha : 2305843009213693951 < n
    · clear h
      go_enter Try.func13, Try.ntmps13
      go_wp2
      go_ret2
      exact ⟨rfl, rfl⟩
    by_cases hb : s < 0
    · clear h
      go_enter Try.func13, Try.ntmps13
      go_wp2
      go_ret2
      exact ⟨rfl, rfl⟩
    have hc : 2 < s := by omega
    clear h
    go_enter Try.func13, Try.ntmps13
    go_wp2
    go_ret2
    exact ⟨rfl, rfl⟩

set_option maxHeartbeats 400000 in
/-- turn, from a state to another one. -/
theorem turn_yes (z f t : Int) (w : World) (h0 : 0 ≤ z) (h1 : z ≤ 18446744073709551615) (ht : 0 ≤ t) (ht1 : t ≤ 7) (h : z - z % 2305843009213693952 = f) :
    Calls Try.prog 21 #[.int .u64 z, .int .u64 f, .int .u64 (t * 2305843009213693952)] w fun e w' => e = .returned (.tuple #[.int .u64 (t * 2305843009213693952 + z % 2305843009213693952), .bool true]) ∧ w = w' := by
  have hb := and_low61 z h0 h1
  have ho := or_state' t (z % 2305843009213693952) ht ht1 (by omega) (by omega)
  go_enter Try.func21, Try.ntmps21
  go_wp2_with (go_at_call 20; refine (above_any _ _ h0 h1).mono ?_; rintro e w' ⟨rfl, rfl⟩)
  go_ret2
  exact ⟨rfl, rfl⟩

set_option maxHeartbeats 400000 in
theorem turn_no (z f t : Int) (w : World) (h0 : 0 ≤ z) (h1 : z ≤ 18446744073709551615) (h : ¬ z - z % 2305843009213693952 = f) :
    Calls Try.prog 21 #[.int .u64 z, .int .u64 f, .int .u64 t] w fun e w' => e = .returned (.tuple #[.int .u64 0, .bool false]) ∧ w = w' := by
  go_enter Try.func21, Try.ntmps21
  go_wp2_with (go_at_call 20; refine (above_any _ _ h0 h1).mono ?_; rintro e w' ⟨rfl, rfl⟩)
  go_ret2
  exact ⟨rfl, rfl⟩

set_option maxHeartbeats 400000 in
theorem more_any (z : Int) (w : World) (h0 : 0 ≤ z) (h1 : z ≤ 18446744073709551615) :
    Calls Try.prog 16 #[.int .u64 z] w fun e w' => e = .returned (.tuple #[.int .u64 (moreM z), .bool (moreB z)]) ∧ w = w' := by
  have hb := and_low61 z h0 h1
  unfold moreM moreB
  by_cases h : z < 4611686018427387904 ∧ z % 2305843009213693952 < 2305843009213693951
  · rw [if_pos h, decide_eq_true h]
    obtain ⟨ha, hc⟩ := h
    have ho := or_state 1 (z % 2305843009213693952 + 1) (by omega) (by omega) (by omega) (by omega)
    have hd : ((1 : Int) * 2305843009213693952) = 2305843009213693952 := by decide
    rw [hd] at ho
    by_cases he : z < 2305843009213693952
    · have hf : z - z % 2305843009213693952 = 0 := by omega
      go_enter Try.func16, Try.ntmps16
      go_wp2_with (go_at_call 20; refine (above_any _ _ h0 h1).mono ?_; rintro e w' ⟨rfl, rfl⟩)
      go_ret2
      exact ⟨rfl, rfl⟩
    · have hf : z - z % 2305843009213693952 = 2305843009213693952 := by omega
      go_enter Try.func16, Try.ntmps16
      go_wp2_with (go_at_call 20; refine (above_any _ _ h0 h1).mono ?_; rintro e w' ⟨rfl, rfl⟩)
      go_ret2
      exact ⟨rfl, rfl⟩
  · rw [if_neg h, decide_eq_false h]
    by_cases he : z < 2305843009213693952
    · have hf : z - z % 2305843009213693952 = 0 := by omega
      have hc : z % 2305843009213693952 = 2305843009213693951 := by omega
      clear h
      go_enter Try.func16, Try.ntmps16
      go_wp2_with (go_at_call 20; refine (above_any _ _ h0 h1).mono ?_; rintro e w' ⟨rfl, rfl⟩)
      go_ret2
      exact ⟨rfl, rfl⟩
    by_cases hg : z < 4611686018427387904
    · have hf : z - z % 2305843009213693952 = 2305843009213693952 := by omega
      have hc : z % 2305843009213693952 = 2305843009213693951 := by omega
      clear h
      go_enter Try.func16, Try.ntmps16
      go_wp2_with (go_at_call 20; refine (above_any _ _ h0 h1).mono ?_; rintro e w' ⟨rfl, rfl⟩)
      go_ret2
      exact ⟨rfl, rfl⟩
    have hf : ¬ z - z % 2305843009213693952 = 0 := by omega
    have hc : ¬ z - z % 2305843009213693952 = 2305843009213693952 := by omega
    clear h
    go_enter Try.func16, Try.ntmps16
    go_wp2_with (go_at_call 20; refine (above_any _ _ h0 h1).mono ?_; rintro e w' ⟨rfl, rfl⟩)
    go_ret2
    exact ⟨rfl, rfl⟩

set_option maxHeartbeats 400000 in
theorem rest_any (z : Int) (w : World) (h0 : 0 ≤ z) (h1 : z ≤ 18446744073709551615) :
    Calls Try.prog 17 #[.int .u64 z] w fun e w' => e = .returned (.tuple #[.int .u64 (restM z), .bool (restB z)]) ∧ w = w' := by
  unfold restM restB
  by_cases h : 2305843009213693952 ≤ z ∧ z < 4611686018427387904
  · rw [if_pos h, decide_eq_true h]
    obtain ⟨ha, hc⟩ := h
    have hv := turn_yes z 2305843009213693952 0 w h0 h1 (by omega) (by omega) (by omega)
    have e1 : (0 : Int) * 2305843009213693952 + z % 2305843009213693952 = z - 2305843009213693952 := by omega
    rw [e1] at hv
    simp only [Int.zero_mul] at hv
    go_enter Try.func17, Try.ntmps17
    go_wp2_with (go_at_call 21; refine hv.mono ?_; rintro e w' ⟨rfl, rfl⟩)
    go_ret2
    exact ⟨rfl, rfl⟩
  · rw [if_neg h, decide_eq_false h]
    have hv := turn_no z 2305843009213693952 0 w h0 h1 (by omega)
    go_enter Try.func17, Try.ntmps17
    go_wp2_with (go_at_call 21; refine hv.mono ?_; rintro e w' ⟨rfl, rfl⟩)
    go_ret2
    exact ⟨rfl, rfl⟩

set_option maxHeartbeats 400000 in
theorem shut_any (z : Int) (w : World) (h0 : 0 ≤ z) (h1 : z ≤ 18446744073709551615) :
    Calls Try.prog 18 #[.int .u64 z] w fun e w' => e = .returned (.tuple #[.int .u64 (shutM z), .bool (shutB z)]) ∧ w = w' := by
  unfold shutM shutB
  by_cases h : z < 2305843009213693952
  · rw [if_pos h, decide_eq_true h]
    have hv := turn_yes z 0 2 w h0 h1 (by omega) (by omega) (by omega)
    have e1 : (2 : Int) * 2305843009213693952 + z % 2305843009213693952 = z + 4611686018427387904 := by omega
    have e2 : (2 : Int) * 2305843009213693952 = 4611686018427387904 := by decide
    rw [e1, e2] at hv
    go_enter Try.func18, Try.ntmps18
    go_wp2_with (go_at_call 21; refine hv.mono ?_; rintro e w' ⟨rfl, rfl⟩)
    go_ret2
    exact ⟨rfl, rfl⟩
  · rw [if_neg h, decide_eq_false h]
    have hv := turn_no z 0 4611686018427387904 w h0 h1 (by omega)
    go_enter Try.func18, Try.ntmps18
    go_wp2_with (go_at_call 21; refine hv.mono ?_; rintro e w' ⟨rfl, rfl⟩)
    go_ret2
    exact ⟨rfl, rfl⟩
end Go.Proofs.Ytbffoejdjpoibaa
