/-
  The document's Right; New of a config that is not right; flows of one shard, step by step.
-/
import Derived.Test.YtklolepmmabijaaMdC
import Derived.Test.YtklolepmmabijaaMdG
import Derived.Test.YtklolepmmabijaaMdAw
import Derived.Test.YtklolepmmabijaaMdP
namespace Go.Proofs.Ytklolepmmabijaa
set_option maxRecDepth 100000
open Go.RowKit
set_option linter.unusedVariables false
set_option linter.unusedSimpArgs false
set_option maxRecDepth 100000

set_option maxHeartbeats 2000000 in
theorem zRight (c : Cf) (w : World) : Calls Try.prog 9 #[.agg #[.int .i64 c.sh, .int .i64 c.sl, .int .i64 c.wk, .int .i64 c.wd, .int .u64 c.un]] w fun e w' => e = .returned (.bool (rightB c)) ∧ Only [] w w' := by
  have oA : Only [] w (w.alloc (.cells #[.int .i64 c.sh, .int .i64 c.sl, .int .i64 c.wk, .int .i64 c.wd, .int .u64 c.un] 24)) := (Only.refl [] w).alloc _
  by_cases h0 : 1 ≤ c.sh
  case neg =>
    have e : rightB c = false := by
      rcases hb : rightB c with _ | _
      · rfl
      · exact absurd ((rightB_iff c).1 hb).sh1 h0
    rw [e]
    have d0 : decide (1 ≤ c.sh) = false := decide_eq_false h0
    clear e
    go_enter Try.func9, Try.ntmps9
    go_wp2_with fail
    go_ret
    exact ⟨rfl, oA⟩
  by_cases h1 : c.sh ≤ 4
  case neg =>
    have e : rightB c = false := by
      rcases hb : rightB c with _ | _
      · rfl
      · exact absurd ((rightB_iff c).1 hb).sh4 h1
    rw [e]
    have d0 : decide (1 ≤ c.sh) = true := decide_eq_true h0
    have d1 : decide (c.sh ≤ 4) = false := decide_eq_false h1
    clear e
    go_enter Try.func9, Try.ntmps9
    go_wp2_with fail
    go_ret
    exact ⟨rfl, oA⟩
  by_cases h2 : 1 ≤ c.sl
  case neg =>
    have e : rightB c = false := by
      rcases hb : rightB c with _ | _
      · rfl
      · exact absurd ((rightB_iff c).1 hb).sl1 h2
    rw [e]
    have d0 : decide (1 ≤ c.sh) = true := decide_eq_true h0
    have d1 : decide (c.sh ≤ 4) = true := decide_eq_true h1
    have d2 : decide (1 ≤ c.sl) = false := decide_eq_false h2
    clear e
    go_enter Try.func9, Try.ntmps9
    go_wp2_with fail
    go_ret
    exact ⟨rfl, oA⟩
  by_cases h3 : c.sl ≤ 4
  case neg =>
    have e : rightB c = false := by
      rcases hb : rightB c with _ | _
      · rfl
      · exact absurd ((rightB_iff c).1 hb).sl4 h3
    rw [e]
    have d0 : decide (1 ≤ c.sh) = true := decide_eq_true h0
    have d1 : decide (c.sh ≤ 4) = true := decide_eq_true h1
    have d2 : decide (1 ≤ c.sl) = true := decide_eq_true h2
    have d3 : decide (c.sl ≤ 4) = false := decide_eq_false h3
    clear e
    go_enter Try.func9, Try.ntmps9
    go_wp2_with fail
    go_ret
    exact ⟨rfl, oA⟩
  by_cases h4 : 1 ≤ c.wk
  case neg =>
    have e : rightB c = false := by
      rcases hb : rightB c with _ | _
      · rfl
      · exact absurd ((rightB_iff c).1 hb).wk1 h4
    rw [e]
    have d0 : decide (1 ≤ c.sh) = true := decide_eq_true h0
    have d1 : decide (c.sh ≤ 4) = true := decide_eq_true h1
    have d2 : decide (1 ≤ c.sl) = true := decide_eq_true h2
    have d3 : decide (c.sl ≤ 4) = true := decide_eq_true h3
    have d4 : decide (1 ≤ c.wk) = false := decide_eq_false h4
    clear e
    go_enter Try.func9, Try.ntmps9
    go_wp2_with fail
    go_ret
    exact ⟨rfl, oA⟩
  by_cases h5 : c.wk ≤ 6
  case neg =>
    have e : rightB c = false := by
      rcases hb : rightB c with _ | _
      · rfl
      · exact absurd ((rightB_iff c).1 hb).wk6 h5
    rw [e]
    have d0 : decide (1 ≤ c.sh) = true := decide_eq_true h0
    have d1 : decide (c.sh ≤ 4) = true := decide_eq_true h1
    have d2 : decide (1 ≤ c.sl) = true := decide_eq_true h2
    have d3 : decide (c.sl ≤ 4) = true := decide_eq_true h3
    have d4 : decide (1 ≤ c.wk) = true := decide_eq_true h4
    have d5 : decide (c.wk ≤ 6) = false := decide_eq_false h5
    clear e
    go_enter Try.func9, Try.ntmps9
    go_wp2_with fail
    go_ret
    exact ⟨rfl, oA⟩
  by_cases h6 : 0 ≤ c.wd
  case neg =>
    have e : rightB c = false := by
      rcases hb : rightB c with _ | _
      · rfl
      · exact absurd ((rightB_iff c).1 hb).wd0 h6
    rw [e]
    have d0 : decide (1 ≤ c.sh) = true := decide_eq_true h0
    have d1 : decide (c.sh ≤ 4) = true := decide_eq_true h1
    have d2 : decide (1 ≤ c.sl) = true := decide_eq_true h2
    have d3 : decide (c.sl ≤ 4) = true := decide_eq_true h3
    have d4 : decide (1 ≤ c.wk) = true := decide_eq_true h4
    have d5 : decide (c.wk ≤ 6) = true := decide_eq_true h5
    have d6 : decide (0 ≤ c.wd) = false := decide_eq_false h6
    clear e
    go_enter Try.func9, Try.ntmps9
    go_wp2_with fail
    go_ret
    exact ⟨rfl, oA⟩
  by_cases h7 : c.wd ≤ 40
  case neg =>
    have e : rightB c = false := by
      rcases hb : rightB c with _ | _
      · rfl
      · exact absurd ((rightB_iff c).1 hb).wd1 h7
    rw [e]
    have d0 : decide (1 ≤ c.sh) = true := decide_eq_true h0
    have d1 : decide (c.sh ≤ 4) = true := decide_eq_true h1
    have d2 : decide (1 ≤ c.sl) = true := decide_eq_true h2
    have d3 : decide (c.sl ≤ 4) = true := decide_eq_true h3
    have d4 : decide (1 ≤ c.wk) = true := decide_eq_true h4
    have d5 : decide (c.wk ≤ 6) = true := decide_eq_true h5
    have d6 : decide (0 ≤ c.wd) = true := decide_eq_true h6
    have d7 : decide (c.wd ≤ 40) = false := decide_eq_false h7
    clear e
    go_enter Try.func9, Try.ntmps9
    go_wp2_with fail
    go_ret
    exact ⟨rfl, oA⟩
  by_cases h8 : 1 ≤ c.un
  case neg =>
    have e : rightB c = false := by
      rcases hb : rightB c with _ | _
      · rfl
      · exact absurd ((rightB_iff c).1 hb).un1 h8
    rw [e]
    have d0 : decide (1 ≤ c.sh) = true := decide_eq_true h0
    have d1 : decide (c.sh ≤ 4) = true := decide_eq_true h1
    have d2 : decide (1 ≤ c.sl) = true := decide_eq_true h2
    have d3 : decide (c.sl ≤ 4) = true := decide_eq_true h3
    have d4 : decide (1 ≤ c.wk) = true := decide_eq_true h4
    have d5 : decide (c.wk ≤ 6) = true := decide_eq_true h5
    have d6 : decide (0 ≤ c.wd) = true := decide_eq_true h6
    have d7 : decide (c.wd ≤ 40) = true := decide_eq_true h7
    have d8 : decide (1 ≤ c.un) = false := decide_eq_false h8
    clear e
    go_enter Try.func9, Try.ntmps9
    go_wp2_with fail
    go_ret
    exact ⟨rfl, oA⟩
  by_cases h9 : c.un ≤ 4611686018427387904
  case neg =>
    have e : rightB c = false := by
      rcases hb : rightB c with _ | _
      · rfl
      · exact absurd ((rightB_iff c).1 hb).un2 h9
    rw [e]
    have d0 : decide (1 ≤ c.sh) = true := decide_eq_true h0
    have d1 : decide (c.sh ≤ 4) = true := decide_eq_true h1
    have d2 : decide (1 ≤ c.sl) = true := decide_eq_true h2
    have d3 : decide (c.sl ≤ 4) = true := decide_eq_true h3
    have d4 : decide (1 ≤ c.wk) = true := decide_eq_true h4
    have d5 : decide (c.wk ≤ 6) = true := decide_eq_true h5
    have d6 : decide (0 ≤ c.wd) = true := decide_eq_true h6
    have d7 : decide (c.wd ≤ 40) = true := decide_eq_true h7
    have d8 : decide (1 ≤ c.un) = true := decide_eq_true h8
    have d9 : decide (c.un ≤ 4611686018427387904) = false := decide_eq_false h9
    clear e
    go_enter Try.func9, Try.ntmps9
    go_wp2_with fail
    go_ret
    exact ⟨rfl, oA⟩
  have e : rightB c = true := (rightB_iff c).2 ⟨h0, h1, h2, h3, h4, h5, h6, h7, h8, h9⟩
  rw [e]
  have d0 : decide (1 ≤ c.sh) = true := decide_eq_true h0
  have d1 : decide (c.sh ≤ 4) = true := decide_eq_true h1
  have d2 : decide (1 ≤ c.sl) = true := decide_eq_true h2
  have d3 : decide (c.sl ≤ 4) = true := decide_eq_true h3
  have d4 : decide (1 ≤ c.wk) = true := decide_eq_true h4
  have d5 : decide (c.wk ≤ 6) = true := decide_eq_true h5
  have d6 : decide (0 ≤ c.wd) = true := decide_eq_true h6
  have d7 : decide (c.wd ≤ 40) = true := decide_eq_true h7
  have d8 : decide (1 ≤ c.un) = true := decide_eq_true h8
  have d9 : decide (c.un ≤ 4611686018427387904) = true := decide_eq_true h9
  clear e
  go_enter Try.func9, Try.ntmps9
  go_wp2_with fail
  go_ret
  exact ⟨rfl, oA⟩
theorem mNewBad (c : Cf) (h : rightB c = false) (w : World) : Calls Try.prog 6 #[.agg #[.int .i64 c.sh, .int .i64 c.sl, .int .i64 c.wk, .int .i64 c.wd, .int .u64 c.un]] w fun e w' =>
    e = .returned (.tuple #[.pointer none, .int .i64 1]) ∧ Only [] w w' := by
  have oA : Only [] w (w.alloc (.cells #[.int .i64 c.sh, .int .i64 c.sl, .int .i64 c.wk, .int .i64 c.wd, .int .u64 c.un] 24)) := (Only.refl [] w).alloc _
  have k1 := mRight c (w.alloc (.cells #[.int .i64 c.sh, .int .i64 c.sl, .int .i64 c.wk, .int .i64 c.wd, .int .u64 c.un] 24))
  rw [show (decide (1 ≤ c.sh ∧ c.sh ≤ 4) && (decide (1 ≤ c.sl ∧ c.sl ≤ 4) && (decide (1 ≤ c.wk ∧ c.wk ≤ 6) && (decide (0 ≤ c.wd ∧ c.wd ≤ 40) && decide (1 ≤ c.un ∧ c.un ≤ 4611686018427387904))))) = false from h] at k1
  clear h
  go_enter Try.func6, Try.ntmps6
  go_wp2_with fail
  refine k1.mono ?_
  rintro e w1 ⟨rfl, o1⟩
  have HO := Lib.hid (oA.trans' o1)
  clear k1 o1 oA
  go_wp2_with fail
  go_ret2
  exact ⟨rfl, HO.out⟩
theorem mRightB (c : Cf) (w : World) : Calls Try.prog 8 #[.agg #[.int .i64 c.sh, .int .i64 c.sl, .int .i64 c.wk, .int .i64 c.wd, .int .u64 c.un]] w fun e w' => e = .returned (.bool (rightB c)) ∧ Only [] w w' := mRight c w
theorem GBox.set4 {w : World} {N : Nat} {a b c d x : Int} (h : GBox w N ⟨a, b, c, d, x⟩) (y : Int) : GBox (w.setCell ⟨N, 4, none⟩ (.int .u64 y)) N ⟨a, b, c, d, y⟩ := by
  have h0 := heap_setCell_same w N 4 _ _ (.int .u64 y) h
  simpa [GBox] using h0
theorem CBox.set1 {w : World} {b : Nat} {op f a c : Int} (h : CBox w b ⟨op, f, a, c⟩) (x : Int) : CBox (w.setCell ⟨b, 1, none⟩ (.int .i64 x)) b ⟨op, x, a, c⟩ := by
  have := heap_setCell_same w b 1 _ _ (.int .i64 x) h
  simpa [CBox] using this

/-! ### flows of one shard -/
theorem todo_reg {M : Md} {I : List Int} (h : Em M I) {f : Int} (h1 : 0 ≤ f ∧ f ≤ 1048576) {a : Int} (h2 : 1 ≤ a ∧ a ≤ 65536) {b : Int} (h3 : 1 ≤ b ∧ b ≤ 8) (hi : f ∉ I) (ht : (takenI I M.c.sh (f.tmod M.c.sh) : Int) < M.c.sl) :
    M.todo ⟨1, f, a, b⟩ = (M.reg ⟨1, f, a, b⟩, Rt.code 0) ∧ Em (M.reg ⟨1, f, a, b⟩) (f :: I) := by
  have e := h.regE_is (c := ⟨1, f, a, b⟩) h1 h2 h3
  rw [if_neg hi, if_neg (by simp only; omega)] at e
  refine ⟨?_, h.reg (c := ⟨1, f, a, b⟩) hi⟩
  unfold Md.todo
  rw [if_pos rfl, e, if_pos rfl]
theorem todo_again {M : Md} {I : List Int} (h : Em M I) {f : Int} (h1 : 0 ≤ f ∧ f ≤ 1048576) {a : Int} (h2 : 1 ≤ a ∧ a ≤ 65536) {b : Int} (h3 : 1 ≤ b ∧ b ≤ 8) (hi : f ∈ I) :
    M.todo ⟨1, f, a, b⟩ = (M, Rt.code 6) := by
  have e := h.regE_is (c := ⟨1, f, a, b⟩) h1 h2 h3
  rw [if_pos hi] at e
  unfold Md.todo
  rw [if_pos rfl, e, if_neg (by decide)]
theorem todo_full {M : Md} {I : List Int} (h : Em M I) {f : Int} (h1 : 0 ≤ f ∧ f ≤ 1048576) {a : Int} (h2 : 1 ≤ a ∧ a ≤ 65536) {b : Int} (h3 : 1 ≤ b ∧ b ≤ 8) (hi : f ∉ I) (ht : M.c.sl ≤ (takenI I M.c.sh (f.tmod M.c.sh) : Int)) :
    M.todo ⟨1, f, a, b⟩ = (M, Rt.code 7) := by
  have e := h.regE_is (c := ⟨1, f, a, b⟩) h1 h2 h3
  rw [if_neg hi, if_pos (by simpa using ht)] at e
  unfold Md.todo
  rw [if_pos rfl, e, if_neg (by decide)]
theorem todo_shut {M : Md} {I J : List Int} (h : Em M I) (hs : Srt M.S.l) {f : Int} (hI : I.Perm (f :: J)) : M.todo ⟨2, f, 0, 0⟩ = (M.rem f, Rt.code 0) ∧ Em (M.rem f) J := by
  have e := h.shut hs hI
  refine ⟨?_, e.2⟩
  unfold Md.todo
  rw [if_neg (by simp), if_pos rfl]
  simp only
  rw [e.1]
theorem reg_c (M : Md) (c : Cl) : (M.reg c).c = M.c := rfl
theorem rem_c (M : Md) (f : Int) : (M.rem f).c = M.c := rfl
end Go.Proofs.Ytklolepmmabijaa
