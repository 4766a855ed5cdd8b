/-
  Contracts of the document's own answers on words: Pack, Parts, Turned. No condition but that the arguments are values of their types.
-/
import Derived.Test.YtbffoejdjpoibaaWordA
namespace Go.Proofs.Ytbffoejdjpoibaa
open Go.ChangeShapes Go.WideShapes Go.ChangeAt Go.RowKit
set_option linter.unusedVariables false

set_option maxHeartbeats 400000 in
theorem rpack_yes (n s : Int) (w : World) (h0 : 0 ≤ n) (h1 : n ≤ 2305843009213693951) (h2 : 0 ≤ s) (h3 : s ≤ 2) :
    Calls Try.prog 14 #[.int .u64 n, .int .i64 s] w fun e w' => e = .returned (.tuple #[.int .u64 (s * 2305843009213693952 + n), .bool true]) ∧ w = w' := by
  go_enter Try.func14, Try.ntmps14
  go_wp2
  go_ret2
  exact ⟨rfl, rfl⟩

set_option maxHeartbeats 400000 in
theorem rpack_any (n s : Int) (w : World) (h0 : 0 ≤ n) (h1 : n ≤ 18446744073709551615) (h2 : -9223372036854775808 ≤ s) (h3 : s ≤ 9223372036854775807) :
    Calls Try.prog 14 #[.int .u64 n, .int .i64 s] w fun e w' => e = .returned (.tuple #[.int .u64 (packM n s), .bool (packB n s)]) ∧ w = w' := by
  unfold packM packB
  by_cases h : n ≤ 2305843009213693951 ∧ 0 ≤ s ∧ s ≤ 2
  · rw [if_pos h, decide_eq_true h]
    obtain ⟨ha, hb, hc⟩ := h
    exact rpack_yes n s w h0 ha hb hc
  · rw [if_neg h, decide_eq_false h]
    by_cases ha : 2305843009213693951 < n
    · clear h
      go_enter Try.func14, Try.ntmps14
      go_wp2
      go_ret2
      exact ⟨rfl, rfl⟩
    by_cases hb : s < 0
    · clear h
      go_enter Try.func14, Try.ntmps14
      go_wp2
      go_ret2
      exact ⟨rfl, rfl⟩
    have hc : 2 < s := by omega
    clear h
    go_enter Try.func14, Try.ntmps14
    go_wp2
    go_ret2
    exact ⟨rfl, rfl⟩

set_option maxHeartbeats 400000 in
theorem parts_any (z : Int) (w : World) (h0 : 0 ≤ z) (h1 : z ≤ 18446744073709551615) :
    Calls Try.prog 8 #[.int .u64 z] w fun e w' => e = .returned (.tuple #[.int .u64 (countM z), .int .i64 (stateM z), .bool (rightB z)]) ∧ w = w' := by
  unfold countM stateM rightB
  by_cases h : z < 6917529027641081856
  · rw [if_pos h, if_pos h, decide_eq_true h]
    have e : ¬ 2 < z / 2305843009213693952 := by omega
    go_enter Try.func8, Try.ntmps8
    go_wp2
    go_ret3
    exact ⟨rfl, rfl⟩
  · rw [if_neg h, if_neg h, decide_eq_false h]
    have e : 2 < z / 2305843009213693952 := by omega
    go_enter Try.func8, Try.ntmps8
    go_wp2
    go_ret3
    exact ⟨rfl, rfl⟩

/-- Parts of a word that is one, its count and state named; and of none. -/
theorem parts_yes (z n s : Int) (w : World) (h0 : 0 ≤ z) (h1 : z < 6917529027641081856) (hn : z % 2305843009213693952 = n) (hs : z / 2305843009213693952 = s) :
    Calls Try.prog 8 #[.int .u64 z] w fun e w' => e = .returned (.tuple #[.int .u64 n, .int .i64 s, .bool true]) ∧ w = w' := by
  have h := parts_any z w h0 (by omega)
  unfold countM stateM rightB at h
  rw [if_pos h1, if_pos h1, decide_eq_true h1, hn, hs] at h
  exact h
theorem parts_no (z : Int) (w : World) (h0 : 0 ≤ z) (h1 : z ≤ 18446744073709551615) (h2 : ¬ z < 6917529027641081856) :
    Calls Try.prog 8 #[.int .u64 z] w fun e w' => e = .returned (.tuple #[.int .u64 0, .int .i64 (-1), .bool false]) ∧ w = w' := by
  have h := parts_any z w h0 (by omega)
  unfold countM stateM rightB at h
  rw [if_neg h2, if_neg h2, decide_eq_false h2] at h
  exact h
theorem cut61 (z : Int) : ∃ n s : Int, 0 ≤ n ∧ n ≤ 2305843009213693951 ∧ z % 2305843009213693952 = n ∧ z / 2305843009213693952 = s ∧ z = s * 2305843009213693952 + n :=
  ⟨_, _, by omega, by omega, rfl, rfl, by omega⟩

set_option maxHeartbeats 1000000 in
theorem turned0 (z : Int) (w : World) (h0 : 0 ≤ z) (h1 : z ≤ 18446744073709551615) :
    Calls Try.prog 19 #[.int .u64 z, .int .i64 0] w fun e w' => e = .returned (.tuple #[.int .u64 (moreM z), .bool (moreB z)]) ∧ w = w' := by
  unfold moreM moreB
  by_cases hr : z < 6917529027641081856
  · obtain ⟨n, s, n0, n1, hn, hs, hz⟩ := cut61 z
    have hp := parts_yes z n s w h0 hr hn hs
    have s0 : 0 ≤ s := by omega
    have s2 : s ≤ 2 := by omega
    rw [hn]
    by_cases hl : s ≤ 1
    · by_cases hm : n < 2305843009213693951
      · have h : z < 4611686018427387904 ∧ n < 2305843009213693951 := by omega
        rw [if_pos h, decide_eq_true h]
        clear h hz hn hs hr h0 h1
        go_enter Try.func19, Try.ntmps19
        go_wp2_with (first | (go_at_call 8; refine hp.mono ?_; rintro e w' ⟨rfl, rfl⟩) | (go_at_call 14; refine (rpack_yes _ _ _ (by omega) (by omega) (by omega) (by omega)).mono ?_; rintro e w' ⟨rfl, rfl⟩))
        go_ret2
        exact ⟨by simp, rfl⟩
      · have h : ¬ (z < 4611686018427387904 ∧ n < 2305843009213693951) := by omega
        rw [if_neg h, decide_eq_false h]
        clear h hz hn hs hr h0 h1
        go_enter Try.func19, Try.ntmps19
        go_wp2_with (first | (go_at_call 8; refine hp.mono ?_; rintro e w' ⟨rfl, rfl⟩) | (go_at_call 14; refine (rpack_yes _ _ _ (by omega) (by omega) (by omega) (by omega)).mono ?_; rintro e w' ⟨rfl, rfl⟩))
        go_ret2
        exact ⟨by simp, rfl⟩
    · have h : ¬ (z < 4611686018427387904 ∧ n < 2305843009213693951) := by omega
      rw [if_neg h, decide_eq_false h]
      have e : s = 2 := by omega
      clear h hz hn hs hr h0 h1
      go_enter Try.func19, Try.ntmps19
      go_wp2_with (first | (go_at_call 8; refine hp.mono ?_; rintro e w' ⟨rfl, rfl⟩) | (go_at_call 14; refine (rpack_yes _ _ _ (by omega) (by omega) (by omega) (by omega)).mono ?_; rintro e w' ⟨rfl, rfl⟩))
      go_ret2
      exact ⟨by simp, rfl⟩
  · have hp := parts_no z w h0 h1 hr
    have h : ¬ (z < 4611686018427387904 ∧ z % 2305843009213693952 < 2305843009213693951) := by omega
    rw [if_neg h, decide_eq_false h]
    clear h
    go_enter Try.func19, Try.ntmps19
    go_wp2_with (first | (go_at_call 8; refine hp.mono ?_; rintro e w' ⟨rfl, rfl⟩) | (go_at_call 14; refine (rpack_yes _ _ _ (by omega) (by omega) (by omega) (by omega)).mono ?_; rintro e w' ⟨rfl, rfl⟩))
    go_ret2
    exact ⟨by simp, rfl⟩

set_option maxHeartbeats 1000000 in
theorem turned1 (z : Int) (w : World) (h0 : 0 ≤ z) (h1 : z ≤ 18446744073709551615) :
    Calls Try.prog 19 #[.int .u64 z, .int .i64 1] w fun e w' => e = .returned (.tuple #[.int .u64 (restM z), .bool (restB z)]) ∧ w = w' := by
  unfold restM restB
  by_cases hr : z < 6917529027641081856
  · obtain ⟨n, s, n0, n1, hn, hs, hz⟩ := cut61 z
    have hp := parts_yes z n s w h0 hr hn hs
    have s0 : 0 ≤ s := by omega
    have s2 : s ≤ 2 := by omega
    by_cases hl : s = 1
    · have h : 2305843009213693952 ≤ z ∧ z < 4611686018427387904 := by omega
      rw [if_pos h, decide_eq_true h]
      have e : z - 2305843009213693952 = 0 * 2305843009213693952 + n := by omega
      rw [e]
      clear h hz hn hs hr h0 h1
      go_enter Try.func19, Try.ntmps19
      go_wp2_with (first | (go_at_call 8; refine hp.mono ?_; rintro e w' ⟨rfl, rfl⟩) | (go_at_call 14; refine (rpack_yes _ _ _ (by omega) (by omega) (by omega) (by omega)).mono ?_; rintro e w' ⟨rfl, rfl⟩))
      go_ret2
      exact ⟨by simp, rfl⟩
    · have h : ¬ (2305843009213693952 ≤ z ∧ z < 4611686018427387904) := by omega
      rw [if_neg h, decide_eq_false h]
      clear h hz hn hs hr h0 h1
      go_enter Try.func19, Try.ntmps19
      go_wp2_with (first | (go_at_call 8; refine hp.mono ?_; rintro e w' ⟨rfl, rfl⟩) | (go_at_call 14; refine (rpack_yes _ _ _ (by omega) (by omega) (by omega) (by omega)).mono ?_; rintro e w' ⟨rfl, rfl⟩))
      go_ret2
      exact ⟨by simp, rfl⟩
  · have hp := parts_no z w h0 h1 hr
    have h : ¬ (2305843009213693952 ≤ z ∧ z < 4611686018427387904) := by omega
    rw [if_neg h, decide_eq_false h]
    clear h
    go_enter Try.func19, Try.ntmps19
    go_wp2_with (first | (go_at_call 8; refine hp.mono ?_; rintro e w' ⟨rfl, rfl⟩) | (go_at_call 14; refine (rpack_yes _ _ _ (by omega) (by omega) (by omega) (by omega)).mono ?_; rintro e w' ⟨rfl, rfl⟩))
    go_ret2
    exact ⟨by simp, rfl⟩

set_option maxHeartbeats 1000000 in
theorem turned2 (z : Int) (w : World) (h0 : 0 ≤ z) (h1 : z ≤ 18446744073709551615) :
    Calls Try.prog 19 #[.int .u64 z, .int .i64 2] w fun e w' => e = .returned (.tuple #[.int .u64 (shutM z), .bool (shutB z)]) ∧ w = w' := by
  unfold shutM shutB
  by_cases hr : z < 6917529027641081856
  · obtain ⟨n, s, n0, n1, hn, hs, hz⟩ := cut61 z
    have hp := parts_yes z n s w h0 hr hn hs
    have s0 : 0 ≤ s := by omega
    have s2 : s ≤ 2 := by omega
    by_cases hl : s = 0
    · have h : z < 2305843009213693952 := by omega
      rw [if_pos h, decide_eq_true h]
      have e : z + 4611686018427387904 = 2 * 2305843009213693952 + n := by omega
      rw [e]
      clear h hz hn hs hr h0 h1
      go_enter Try.func19, Try.ntmps19
      go_wp2_with (first | (go_at_call 8; refine hp.mono ?_; rintro e w' ⟨rfl, rfl⟩) | (go_at_call 14; refine (rpack_yes _ _ _ (by omega) (by omega) (by omega) (by omega)).mono ?_; rintro e w' ⟨rfl, rfl⟩))
      go_ret2
      exact ⟨by simp, rfl⟩
    · have h : ¬ z < 2305843009213693952 := by omega
      rw [if_neg h, decide_eq_false h]
      clear h hz hn hs hr h0 h1
      go_enter Try.func19, Try.ntmps19
      go_wp2_with (first | (go_at_call 8; refine hp.mono ?_; rintro e w' ⟨rfl, rfl⟩) | (go_at_call 14; refine (rpack_yes _ _ _ (by omega) (by omega) (by omega) (by omega)).mono ?_; rintro e w' ⟨rfl, rfl⟩))
      go_ret2
      exact ⟨by simp, rfl⟩
  · have hp := parts_no z w h0 h1 hr
    have h : ¬ z < 2305843009213693952 := by omega
    rw [if_neg h, decide_eq_false h]
    clear h
    go_enter Try.func19, Try.ntmps19
    go_wp2_with (first | (go_at_call 8; refine hp.mono ?_; rintro e w' ⟨rfl, rfl⟩) | (go_at_call 14; refine (rpack_yes _ _ _ (by omega) (by omega) (by omega) (by omega)).mono ?_; rintro e w' ⟨rfl, rfl⟩))
    go_ret2
    exact ⟨by simp, rfl⟩
end Go.Proofs.Ytbffoejdjpoibaa
