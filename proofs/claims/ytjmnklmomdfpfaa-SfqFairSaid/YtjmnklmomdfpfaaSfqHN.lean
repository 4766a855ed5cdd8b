/-
  near.
-/
import Derived.Test.YtjmnklmomdfpfaaSfqHA
namespace Go.Proofs.Ytjmnklmomdfpfaa
set_option maxRecDepth 100000
open Go.RowKit
set_option linter.unusedVariables false
set_option linter.unusedSimpArgs false
set_option maxRecDepth 100000

set_option maxHeartbeats 4000000 in
theorem sNear (a : Ax) (ha : a.ok) (w : World) : Calls Try.prog 21 #[.agg #[.int .i64 a.k, .int .i64 a.f, .int .i64 a.m, .int .u64 a.r, .int .i64 a.p.f, .int .i64 a.p.l, .int .i64 a.p.m]] w fun e w' =>
    e = .returned (.agg #[.int .i64 a.near.k, .int .i64 a.near.f, .int .i64 a.near.m, .int .u64 a.near.r, .int .i64 a.near.p.f, .int .i64 a.near.p.l, .int .i64 a.near.p.m]) ∧ Only [] w w' := by
  obtain ⟨u0, u1⟩ := ha.2.2.2.1
  have hmd := fun (v n : Int) (h : 0 < n) (hn : n ≤ 1000000) (w : World) => sMod v n h hn w
  have md := Lib.hid hmd
  have b1 := modI_lt a.f (n := 5) (by decide)
  have b2 := modI_lt a.p.l (n := 12) (by decide)
  have b3 := modI_lt a.m (n := 10) (by decide)
  unfold Ax.near
  clear hmd ha
  rcases Decidable.em (modI a.f 21 = 20) with h1 | h1 <;> rcases Decidable.em (a.r % 9 < 7) with h2 | h2 <;> rcases Decidable.em (modI a.p.l 13 = 12) with h3 | h3 <;> rcases Decidable.em (0 < modI a.m 5) with h4 | h4
  all_goals
    have g1 : (modI a.f 21 != 20) = !decide (modI a.f 21 = 20) := by simp [bne, BEq.beq]
    have g3 : (modI a.p.l 13 != 12) = !decide (modI a.p.l 13 = 12) := by simp [bne, BEq.beq]
    simp only [h1, h2, h3, h4, decide_true, decide_false, Bool.not_true, Bool.not_false, ne_eq, not_true_eq_false, not_false_eq_true, if_true, if_false] at g1 g3 ⊢
    go_enter Try.func21, Try.ntmps21
    go_wp2_with (go_at_call 18; refine (md.out _ _ (by decide) (by decide) _).mono ?_; rintro e w1 ⟨rfl, rfl⟩)
    refine bodyPost_ret ?_ rfl ⟨rfl, ?_⟩
    · rw [results_cell1 rfl]; go_simp
    · exact ((Only.refl [] w).alloc _).alloc _
end Go.Proofs.Ytjmnklmomdfpfaa
