/-
  weighbridgelaw01.TagEdges returns true for every input, and leaves its arguments as they were. No condition but that the arguments are values of their types.
-/
import Derived.Test.YtamokhoiglklkaaRows
import Derived.Test.YtamokhoiglklkaaTagE
import Derived.WalkKit
import Derived.ProofKit
import Derived.OpenShut
namespace Go.Proofs.Ytamokhoiglklkaa.tagEdges
open Go.ChangeShapes Go.WideShapes Go.ChangeAt Go.RowKit
set_option linter.unusedVariables false

theorem own : ownKnob Try.prog.godebug = none := by kernel_rfl

theorem edge_add {a : Int} (ha : 0 ≤ a) (ha1 : a ≤ 18446744073709551615) : addM a (18446744073709551615 - a) = 18446744073709551615 := by
  unfold addM; split <;> omega
theorem edge_less {a : Int} (ha : 1 ≤ a) (ha1 : a ≤ 18446744073709551615) : addM (a - 1) (18446744073709551615 - a) = 18446744073709551614 := by
  unfold addM; split <;> omega
set_option maxHeartbeats 1000000 in
theorem walk2 (a0 : Int) (a1 : Int) (b0 : 0 ≤ a0) (c0 : a0 ≤ 18446744073709551615) (b1 : 2 ≤ a1) (c1 : a1 ≤ 18446744073709551615) (w : World) :
    Calls Try.prog 4 #[.int .u64 a0, .int .u64 a1] w fun e w' => e = .returned (.bool true) ∧ Grown w w' := by
  have hb : ¬ a1 < 1 := by omega
  obtain ⟨q1, q2, q3, q4⟩ := quo_fits (b := a1) (by omega)
  have q5 := quo_half b1
  have t1 : (18446744073709551615 / a1 == 18446744073709551615) = false := by simp; omega
  have e1 := edge_add b0 c0
  have e2 := mul_small q3
  have e3 := mul_big q4
  clear q4
  by_cases h : a0 = 0
  · subst h
    clear e1
    have e1 : addM 0 18446744073709551615 = 18446744073709551615 := by decide
    go_enter Try.func4, Try.ntmps4
    go_wp2_with fail
    refine (awake_any _).mono ?_
    rintro e w' ⟨rfl, hg⟩
    go_wp2_with (first | (go_at_call 11; refine (add_any _ _ _ (by omega) (by omega) (by omega) (by omega)).mono ?_; rintro e w' ⟨rfl, rfl⟩) | (go_at_call 13; refine (mul_any _ _ _ (by omega) (by omega) (by omega) (by omega)).mono ?_; rintro e w' ⟨rfl, rfl⟩))
    go_ret
    exact ⟨by simp, hg⟩
  · have t0 : (a0 == 0) = false := by simp; omega
    have e4 := edge_less (a := a0) (by omega) c0
    go_enter Try.func4, Try.ntmps4
    go_wp2_with fail
    refine (awake_any _).mono ?_
    rintro e w' ⟨rfl, hg⟩
    go_wp2_with (first | (go_at_call 11; refine (add_any _ _ _ (by omega) (by omega) (by omega) (by omega)).mono ?_; rintro e w' ⟨rfl, rfl⟩) | (go_at_call 13; refine (mul_any _ _ _ (by omega) (by omega) (by omega) (by omega)).mono ?_; rintro e w' ⟨rfl, rfl⟩))
    go_ret
    exact ⟨by simp, hg⟩
set_option maxHeartbeats 1000000 in
theorem walk1 (a0 : Int) (b0 : 0 ≤ a0) (c0 : a0 ≤ 18446744073709551615) (w : World) :
    Calls Try.prog 4 #[.int .u64 a0, .int .u64 1] w fun e w' => e = .returned (.bool true) ∧ Grown w w' := by
  have e1 := edge_add b0 c0
  have e2 : mulM 18446744073709551615 1 = 18446744073709551615 := by decide
  by_cases h : a0 = 0
  · subst h
    clear e1
    have e1 : addM 0 18446744073709551615 = 18446744073709551615 := by decide
    go_enter Try.func4, Try.ntmps4
    go_wp2_with fail
    refine (awake_any _).mono ?_
    rintro e w' ⟨rfl, hg⟩
    go_wp2_with (first | (go_at_call 11; refine (add_any _ _ _ (by omega) (by omega) (by omega) (by omega)).mono ?_; rintro e w' ⟨rfl, rfl⟩) | (go_at_call 13; refine (mul_any _ _ _ (by omega) (by omega) (by omega) (by omega)).mono ?_; rintro e w' ⟨rfl, rfl⟩))
    go_ret
    exact ⟨by simp, hg⟩
  · have t0 : (a0 == 0) = false := by simp; omega
    have e4 := edge_less (a := a0) (by omega) c0
    go_enter Try.func4, Try.ntmps4
    go_wp2_with fail
    refine (awake_any _).mono ?_
    rintro e w' ⟨rfl, hg⟩
    go_wp2_with (first | (go_at_call 11; refine (add_any _ _ _ (by omega) (by omega) (by omega) (by omega)).mono ?_; rintro e w' ⟨rfl, rfl⟩) | (go_at_call 13; refine (mul_any _ _ _ (by omega) (by omega) (by omega) (by omega)).mono ?_; rintro e w' ⟨rfl, rfl⟩))
    go_ret
    exact ⟨by simp, hg⟩
set_option maxHeartbeats 1000000 in
theorem walk0 (a0 : Int) (b0 : 0 ≤ a0) (c0 : a0 ≤ 18446744073709551615) (w : World) :
    Calls Try.prog 4 #[.int .u64 a0, .int .u64 0] w fun e w' => e = .returned (.bool true) ∧ Grown w w' := by
  have e1 := edge_add b0 c0
  have e2 : mulM 18446744073709551615 1 = 18446744073709551615 := by decide
  by_cases h : a0 = 0
  · subst h
    clear e1
    have e1 : addM 0 18446744073709551615 = 18446744073709551615 := by decide
    go_enter Try.func4, Try.ntmps4
    go_wp2_with fail
    refine (awake_any _).mono ?_
    rintro e w' ⟨rfl, hg⟩
    go_wp2_with (first | (go_at_call 11; refine (add_any _ _ _ (by omega) (by omega) (by omega) (by omega)).mono ?_; rintro e w' ⟨rfl, rfl⟩) | (go_at_call 13; refine (mul_any _ _ _ (by omega) (by omega) (by omega) (by omega)).mono ?_; rintro e w' ⟨rfl, rfl⟩))
    go_ret
    exact ⟨by simp, hg⟩
  · have t0 : (a0 == 0) = false := by simp; omega
    have e4 := edge_less (a := a0) (by omega) c0
    go_enter Try.func4, Try.ntmps4
    go_wp2_with fail
    refine (awake_any _).mono ?_
    rintro e w' ⟨rfl, hg⟩
    go_wp2_with (first | (go_at_call 11; refine (add_any _ _ _ (by omega) (by omega) (by omega) (by omega)).mono ?_; rintro e w' ⟨rfl, rfl⟩) | (go_at_call 13; refine (mul_any _ _ _ (by omega) (by omega) (by omega) (by omega)).mono ?_; rintro e w' ⟨rfl, rfl⟩))
    go_ret
    exact ⟨by simp, hg⟩

/-! ### The walk: the Go text returns true. -/
theorem walk (a0 : Int) (a1 : Int) (w0 : (Lit.int .u64 a0).wf = true) (w1 : (Lit.int .u64 a1).wf = true) (w : World) :
    Calls Try.prog 4 #[.int .u64 a0, .int .u64 a1] w fun e w' => e = .returned (.bool true) ∧ Grown w w' := by
  obtain ⟨b0, c0⟩ := bounds_u64 w0
  obtain ⟨b1, c1⟩ := bounds_u64 w1
  clear w0 w1
  by_cases h0 : a1 = 0
  · subst h0; exact walk0 a0 b0 c0 w
  by_cases h1 : a1 = 1
  · subst h1; exact walk1 a0 b0 c0 w
  exact walk2 a0 a1 b0 c0 (by omega) c1 w

/-! ### The step from the walk to the statement -/
set_option maxRecDepth 100000 in
theorem lifted (os : Os) (started : os.Started) (H : Type) (enc : TypeId × Value → H) :
    ReturnsInHanded {} Try.checked os 4 .any (Rows.tagEdgesSpec.pre6 enc Try.prog Try.f4 Rows.tagEdgesRow.domain false) (Rows.tagEdgesSpec.post enc Try.prog Try.f4 false true false false) := by
  refine returnsInHanded_of_change (C := Try.checked) own started (by kernel_rfl) Try.func4
    (ChangeSpec.witness6 (enc := enc) (C := Try.checked) false ⟨#[], #[.int .u64 0, .int .u64 0], []⟩ 8 (by kernel_rfl) (by kernel_rfl) (by kernel_rfl) (by kernel_rfl)) ?_
  intro W base args ds gs before hval0 hW hcnd _
  have hval : ∀ (j : Nat) t v, Try.f4.params[j]? = some t → args[j]? = some v → Value.okWide Try.prog W .any base t v := hval0
  have hW' := hW
  obtain ⟨p, q, hA0, hV, rfl, hfz, hnd⟩ := hW
  have hA : DataW.TrodAll enc Try.prog W 0 (fun _ => true) true Try.f4.params.toList args.toList ds p := hA0
  rw [Try.params4] at hA hval
  obtain ⟨v0, vs0, d0, ds0, p0, q0, hargs, rfl, rfl, h0, r0⟩ := trodAll_cons hA
  obtain ⟨v1, vs1, d1, ds1, p1, q1, rfl, rfl, rfl, h1, r1⟩ := trodAll_cons r0
  obtain ⟨rfl, rfl, rfl⟩ := trodAll_nil r1
  obtain rfl : args = #[v0, v1] := by cases args; simp_all
  obtain ⟨rfl, rfl⟩ := trodVars_none hV
  obtain ⟨a0, rfl, rfl, rfl, w0⟩ := open_int Try.underlying22 (hval 0 22 v0 rfl rfl) h0
  obtain ⟨a1, rfl, rfl, rfl, w1⟩ := open_int Try.underlying22 (hval 1 22 v1 rfl rfl) h1
  clear hA0 hval0
  simp only [List.append_nil] at hW'
  refine (walk a0 a1 w0 w1 W).mono fun e W' ⟨he, hg⟩ => ?_
  subst he
  exact ⟨_, rfl, post_of_same (pa := []) (pv := []) hW' (fun _ _ _ => (trodAll_cons_mk (shut_bool Try.underlying4 _) trodAll_mk0)) (fun sp _ => (trodAll_cons_mk (shut_int Try.underlying22 w0) (trodAll_cons_mk (shut_int Try.underlying22 w1) trodAll_mk0))) (fun _ _ => rfl) rfl
    (hg.frame _) hg.2.1 (ok_one (by kernel_rfl) rfl (okWide_bool_mk Try.underlying4 _))⟩

theorem over : Rows.tagEdgesRow.holds Try.pinned (OpenSpec.ofChange Rows.tagEdgesSpec) :=
  OpenClaim.holds_of_wide 4 Try.f4 rfl rfl rfl rfl rfl rfl rfl ⟨rfl, rfl, rfl, rfl, rfl⟩ rfl rfl rfl rfl rfl (by kernel_rfl) Try.func4 (by kernel_rfl)
    (of_decide_eq_true (by kernel_rfl)) (by unfold Func.isWrapper; first | (rw [if_pos (by decide +kernel)]; kernel_rfl) | (rw [if_neg (by decide +kernel)]; exact ⟨rfl, rfl⟩))
    (fun os started H enc _ => lifted os started H enc)

/-- The statement. -/
theorem proved : Rows.TagEdgesSaid :=
  over
#print axioms proved
end Go.Proofs.Ytamokhoiglklkaa.tagEdges
