/-
  weighbridgelaw09.FlowPlays returns true for every input, and leaves its arguments as they were. No condition but that the arguments are values of their types.
-/
import Derived.Test.YtgncjgjkfmpegaaRows
import Derived.Test.YtgncjgjkfmpegaaFlowX
import Derived.WalkKit
import Derived.ProofKit
import Derived.OpenShut
import Derived.ChangeOld
import Derived.Below
namespace Go.Proofs.Ytgncjgjkfmpegaa.flowPlays
open Go.ChangeShapes Go.WideShapes Go.ChangeAt Go.RowKit
set_option linter.unusedVariables false
set_option linter.unusedSimpArgs false

set_option maxRecDepth 100000 in
set_option maxHeartbeats 8000000 in
theorem walk (a0 : Int) (a1 : Int) (a2 : Option Addr) (len2 cap2 : Nat) (z2 : Nat → Ak) (w : World) (w0 : (Lit.int .u64 a0).wf = true) (w1 : (Lit.int .i64 a1).wf = true) (w2 : InActs w a2 len2 z2) :
    Calls Try.prog 3 #[.int .u64 a0, .int .i64 a1, .slice a2 len2 cap2] w fun e w' => e = .returned (.bool true) ∧ Below w.heap.size w w' := by
  have W2 := Lib.hid w2
  have hm := made_sound a0 a1 (U64.of_wf w0) w
  clear w2 w0 w1
  go_enter Try.func3, Try.ntmps3
  go_wp2_with fail
  refine hm.mono ?_
  rintro e v1 ⟨b, c, rfl, r', n', h1⟩
  have H1 := Lib.hid h1
  clear h1 hm
  go_wp2_with fail
  refine (fAwake _).mono ?_
  rintro e v2 ⟨rfl, o2⟩
  have H2 := Lib.hid (H1.out.only0 o2)
  have hlk := Lib.hid H2.out.looks
  clear o2 H1
  go_wp2_with fail
  refine hlk.out.mono ?_
  rintro e v3 ⟨rfl, h3⟩
  have H3 := Lib.hid h3
  clear h3 hlk H2
  go_wp2_with fail
  go_loopg [9] (len2 + 1) (fun gk si wr => ∃ (p : Nat) (F : Fl) (O P : List Nat), si = .int .i64 (p : Int) ∧ p ≤ len2 ∧ p ≤ 80 ∧ len2 + 1 ≤ gk + p ∧ Hid (FSound w wr b c F O P))
  case atStart => exact ⟨0, _, _, _, rfl, by omega, by omega, by omega, H3⟩
  case round =>
    obtain ⟨p, F, O, P, rfl, hp, hp80, hg, hS⟩ := hrel
    clear H3
    by_cases hc : p < len2 ∧ p < 80
    · have c1 : (p : Int) < (len2 : Int) := by omega
      have c2 : (p : Int) < 80 := by omega
      obtain ⟨hdok, ad, bb, o, s, rfl, hadd, hbw, q0, q1, q2, q3, q4⟩ := W2.out p hc.1
      obtain ⟨d, ed⟩ : ∃ d, z2 p = d := ⟨_, rfl⟩
      rw [ed] at q0 q1 q2 q3 q4 hdok
      have r0 := hS.out.only.stays q0
      have r1 := hS.out.only.stays q1
      have r2 := hS.out.only.stays q2
      have r3 := hS.out.only.stays q3
      have r4 := hS.out.only.stays q4
      have hst := Lib.hid (hS.out.step d hdok)
      clear q0 q1 q2 q3 q4 ed hbw hc
      go_wp2_with fail
      refine hst.out.mono ?_
      rintro e u1 ⟨rfl, F2, O2, P2, h2⟩
      have hlk := Lib.hid h2.looks
      clear h2 r0 r1 r2 r3 r4 hst
      go_wp2_with fail
      refine hlk.out.mono ?_
      rintro e u2 ⟨rfl, h3⟩
      have H3 := Lib.hid h3
      clear h3 hlk
      go_wp2_with fail
      go_roundg (len2 + 1 - (p + 1))
      case measure => omega
      case rel => exact ⟨p + 1, F2, O2, P2, by simp, by omega, by omega, by omega, H3⟩
    · have hcd : (decide ((p : Int) < (len2 : Int)) = false ∧ ¬ ((p : Int) < (len2 : Int))) ∨ ((p : Int) < (len2 : Int) ∧ decide ((p : Int) < 80) = false) := by
        have hce : ¬ p < len2 ∨ (p < len2 ∧ ¬ p < 80) := by omega
        rcases hce with h9 | h9
        · exact .inl ⟨decide_eq_false (by omega), by omega⟩
        · exact .inr ⟨by omega, decide_eq_false (by omega)⟩
      clear hc
      rcases hcd with ⟨h1, h2⟩ | ⟨h1, h2⟩
      all_goals
        go_wp2_with fail
        go_ret
        exact ⟨rfl, hS.out.only.below (Nat.le_refl _) (by simp)⟩

/-! ### The step from the walk to the statement -/
set_option maxRecDepth 100000 in
theorem lifted (os : Os) (started : os.Started) (H : Type) (enc : TypeId × Value → H) :
    ReturnsInHanded {} Try.checked os 3 .any (Rows.flowPlaysSpec.pre6 enc Try.prog Try.f3 Rows.flowPlaysRow.domain false) (Rows.flowPlaysSpec.post enc Try.prog Try.f3 false true false false) := by
  refine returnsInHanded_of_change (C := Try.checked) own started (by kernel_rfl) Try.func3
    (ChangeSpec.witness6 (enc := enc) (C := Try.checked) false ⟨#[], #[.int .u64 0, .int .i64 0, .slice none 0 0], []⟩ 8 (by kernel_rfl) (by kernel_rfl) (by kernel_rfl) (by kernel_rfl)) ?_
  intro W base args ds gs before hval0 hW hcnd _
  have hval : ∀ (j : Nat) t v, Try.f3.params[j]? = some t → args[j]? = some v → Value.okWide Try.prog W .any base t v := hval0
  have hW' := hW
  obtain ⟨p, q, hA0, hV, rfl, hfz, hnd⟩ := hW
  have hA : DataW.TrodAll enc Try.prog W 0 (fun _ => true) true Try.f3.params.toList args.toList ds p := hA0
  rw [Try.params3] at hA hval
  obtain ⟨v0, vs0, d0, ds0, p0, q0, hargs, rfl, rfl, h0, r0⟩ := trodAll_cons hA
  obtain ⟨v1, vs1, d1, ds1, p1, q1, rfl, rfl, rfl, h1, r1⟩ := trodAll_cons r0
  obtain ⟨v2, vs2, d2, ds2, p2, q2, rfl, rfl, rfl, h2, r2⟩ := trodAll_cons r1
  obtain ⟨rfl, rfl, rfl⟩ := trodAll_nil r2
  obtain rfl : args = #[v0, v1, v2] := by cases args; simp_all
  obtain ⟨rfl, rfl⟩ := trodVars_none hV
  obtain ⟨a0, rfl, rfl, rfl, w0⟩ := open_int Try.underlying22 (hval 0 22 v0 rfl rfl) h0
  obtain ⟨a1, rfl, rfl, rfl, w1⟩ := open_int Try.underlying3 (hval 1 3 v1 rfl rfl) h1
  obtain ⟨a2, len2, cap2, rfl⟩ := okWide_slice Try.underlying23 (hval 2 23 v2 rfl rfl)
  have k2 := h2
  have lt2 : ∀ x ∈ p2, x.block < W.heap.size := by obtain ⟨m, hm⟩ := k2; exact DataW.trod_lt m _ _ _ hm
  obtain ⟨z2, w2⟩ : ∃ z, InActs W a2 len2 z := by
    obtain ⟨fuel, hf⟩ := h2
    exact open_acts hf
  clear hA0 hval0
  refine (walk a0 a1 a2 len2 cap2 z2 W w0 w1 w2).mono fun e W' ⟨he, bel⟩ => ?_
  subst he
  exact ⟨_, rfl, _, _, _, [], _, [], hW', trodAll_mk1 (shut_bool Try.underlying4 _), (trodAll_cons_mk (shut_int Try.underlying22 w0) (trodAll_cons_mk (shut_int Try.underlying3 w1) (trodAll_cons_mk (Below.trod laidOut (by kernel_rfl) (of_decide_eq_true (by kernel_rfl)) k2 bel lt2) trodAll_mk0))), rfl, bel.frame _, fun h => by cases h⟩

theorem over : Rows.flowPlaysRow.holds Try.pinned (OpenSpec.ofChange Rows.flowPlaysSpec) :=
  OpenClaim.holds_of_wide 3 Try.f3 rfl rfl rfl rfl rfl rfl rfl ⟨rfl, rfl, rfl, rfl, rfl⟩ rfl rfl rfl rfl rfl (by kernel_rfl) Try.func3 (by kernel_rfl)
    (of_decide_eq_true (by kernel_rfl)) (by unfold Func.isWrapper; first | (rw [if_pos (by decide +kernel)]; kernel_rfl) | (rw [if_neg (by decide +kernel)]; exact ⟨rfl, rfl⟩))
    (fun os started H enc _ => lifted os started H enc)

/-- The statement. -/
theorem proved : Rows.FlowPlaysSaid := over
#print axioms proved
end Go.Proofs.Ytgncjgjkfmpegaa.flowPlays
