/-
  weighbridgelaw09.FlowCopies returns true for every input, and leaves its arguments as they were. No condition but that the arguments are values of their types.
-/
import Derived.Test.YtgncjgjkfmpegaaRows
import Derived.Test.YtgncjgjkfmpegaaFlowT
import Derived.WalkKit
import Derived.ProofKit
import Derived.OpenShut
import Derived.ChangeOld
import Derived.Below
namespace Go.Proofs.Ytgncjgjkfmpegaa.flowCopies
open Go.ChangeShapes Go.WideShapes Go.ChangeAt Go.RowKit
set_option linter.unusedVariables false
set_option linter.unusedSimpArgs false

set_option maxRecDepth 100000 in
set_option maxHeartbeats 8000000 in
theorem walk (a0 : Int) (a1 : Int) (a2 : Option Addr) (len2 cap2 : Nat) (z2 : Nat → Ak) (a3 : Option Addr) (len3 cap3 : Nat) (z3 : Nat → Ak) (a4 : Option Addr) (len4 cap4 : Nat) (z4 : Nat → Ak) (w : World) (w0 : (Lit.int .u64 a0).wf = true) (w1 : (Lit.int .i64 a1).wf = true) (w2 : InActs w a2 len2 z2) (w3 : InActs w a3 len3 z3) (w4 : InActs w a4 len4 z4) :
    Calls Try.prog 8 #[.int .u64 a0, .int .i64 a1, .slice a2 len2 cap2, .slice a3 len3 cap3, .slice a4 len4 cap4] w fun e w' => e = .returned (.bool true) ∧ Below w.heap.size w w' := by
  have W2 := Lib.hid w2
  have W3 := Lib.hid w3
  have W4 := Lib.hid w4
  have hm := made_sound a0 a1 (U64.of_wf w0) w
  clear w2 w3 w4 w0 w1
  go_enter Try.func8, Try.ntmps8
  go_wp2_with fail
  refine hm.mono ?_
  rintro e v1 ⟨b, c, rfl, r', n', h1⟩
  have H1 := Lib.hid h1
  clear h1 hm
  go_wp2_with fail
  refine (fAwake _).mono ?_
  rintro e v2 ⟨rfl, o2⟩
  have H2 := Lib.hid (H1.out.only0 o2)
  clear o2 H1
  go_wp2_with fail
  go_loopg [13] (len2 + 1) (fun gk si wr => ∃ (p : Nat) (F : Fl) (O P : List Nat), si = .int .i64 (p : Int) ∧ p ≤ len2 ∧ p ≤ 40 ∧ len2 + 1 ≤ gk + p ∧ Hid (FSound w wr b c F O P))
  case atStart => exact ⟨0, _, _, _, rfl, by omega, by omega, by omega, H2⟩
  case round =>
    obtain ⟨p, F, O, P, rfl, hp, hp80, hg, hS⟩ := hrel
    clear H2
    by_cases hc : p < len2 ∧ p < 40
    · have c1 : (p : Int) < (len2 : Int) := by omega
      have c2 : (p : Int) < 40 := by omega
      obtain ⟨hdok, ad, bb, o, s, rfl, hadd, hbw, q0, q1, q2, q3, q4⟩ := W2.out p hc.1
      obtain ⟨d, ed⟩ : ∃ d, z2 p = d := ⟨_, rfl⟩
      rw [ed] at q0 q1 q2 q3 q4 hdok
      have r0 := hS.out.only.stays q0
      have r1 := hS.out.only.stays q1
      have r2 := hS.out.only.stays q2
      have r3 := hS.out.only.stays q3
      have r4 := hS.out.only.stays q4
      have hst := Lib.hid (hS.out.step d hdok)
      clear q0 q1 q2 q3 q4 ed hbw hc
      go_wp2_with fail
      refine hst.out.mono ?_
      rintro e u1 ⟨rfl, F2, O2, P2, h2⟩
      have H3 := Lib.hid h2
      clear h2 r0 r1 r2 r3 r4 hst
      go_wp2_with fail
      go_roundg (len2 + 1 - (p + 1))
      case measure => omega
      case rel => exact ⟨p + 1, F2, O2, P2, by simp, by omega, by omega, by omega, H3⟩
    · have hcd : (decide ((p : Int) < (len2 : Int)) = false ∧ ¬ ((p : Int) < (len2 : Int))) ∨ ((p : Int) < (len2 : Int) ∧ decide ((p : Int) < 40) = false) := by
        have hce : ¬ p < len2 ∨ (p < len2 ∧ ¬ p < 40) := by omega
        rcases hce with h9 | h9
        · exact .inl ⟨decide_eq_false (by omega), by omega⟩
        · exact .inr ⟨by omega, decide_eq_false (by omega)⟩
      clear hc W2
      rcases hcd with ⟨h1, h2⟩ | ⟨h1, h2⟩
      all_goals
        have hcp := Lib.hid hS.out.copy
        have hlt := Lib.hid hS.out.duo.lt
        have hsz := Lib.hid hS.out.only.size
        go_wp2_with fail
        refine hcp.out.mono ?_
        rintro e u1 ⟨rfl, O1, k1, k2, k3, k4⟩
        have hcr := Lib.hid (k1.copyRef k2 (fun k hk j hj => Nat.lt_of_lt_of_le (hlt.out j hj) (k3 k hk)) (fun k hk => Nat.le_trans hsz.out (k3 k hk)))
        clear hcp k1 k2 k3 k4 hlt hsz h1 h2 hS
        go_wp2_with fail
        refine hcr.out.mono ?_
        rintro e u2 ⟨rfl, P1, k5⟩
        have hlk := Lib.hid k5.looksZ
        clear k5 hcr
        generalize wr.heap.size = gb at *
        generalize u1.heap.size = gc at *
        go_wp2_with fail
        refine hlk.out.mono ?_
        rintro e u3 ⟨rfl, k6⟩
        have T := Lib.hid k6
        clear k6 hlk hp hp80 hg
        go_wp2_with fail
        go_loopg [16] 41 (fun gk si wr => ∃ (p : Nat) (F : Fl) (O P : List Nat) (F' : Fl) (O' P' : List Nat), si = .int .i64 (p : Int) ∧ p ≤ 40 ∧ 41 ≤ gk + p ∧ Hid (FTwo w wr b c F O P gb gc F' O' P'))
        case atStart => exact ⟨0, _, _, _, _, _, _, rfl, by omega, by omega, T⟩
        case round =>
          obtain ⟨p, F, O, P, F', O', P', rfl, hp, hg, hT⟩ := hrel
          clear T
          by_cases hc : p < 40
          · have c2 : (p : Int) < 40 := by omega
            have three : ((p : Int) < (len3 : Int) ∧ p < len3) ∨ (decide ((p : Int) < (len3 : Int)) = false ∧ ¬ ((p : Int) < (len3 : Int))) := by
              by_cases h9 : p < len3
              · exact .inl ⟨by omega, h9⟩
              · exact .inr ⟨decide_eq_false (by omega), by omega⟩
            have four : ((p : Int) < (len4 : Int) ∧ p < len4) ∨ (decide ((p : Int) < (len4 : Int)) = false ∧ ¬ ((p : Int) < (len4 : Int))) := by
              by_cases h9 : p < len4
              · exact .inl ⟨by omega, h9⟩
              · exact .inr ⟨decide_eq_false (by omega), by omega⟩
            rcases three with ⟨t1, t2⟩ | ⟨t1, t2⟩
            · obtain ⟨hdok, ad, bb, o, s, rfl, hadd, hbw, q0, q1, q2, q3, q4⟩ := W3.out p t2
              obtain ⟨d, ed⟩ : ∃ d, z3 p = d := ⟨_, rfl⟩
              rw [ed] at q0 q1 q2 q3 q4 hdok
              have r0 := hT.out.a.only.stays q0
              have r1 := hT.out.a.only.stays q1
              have r2 := hT.out.a.only.stays q2
              have r3 := hT.out.a.only.stays q3
              have r4 := hT.out.a.only.stays q4
              have hst := Lib.hid (hT.out.stepA d hdok)
              clear q0 q1 q2 q3 q4 ed hbw hc
              go_wp2_with fail
              refine hst.out.mono ?_
              rintro e x1 ⟨rfl, F2, O2, P2, y1⟩
              have Y1 := Lib.hid y1
              clear y1 r0 r1 r2 r3 r4 hst hT
              rcases four with ⟨f1, f2⟩ | ⟨f1, f2⟩
              · obtain ⟨hdok2, ad2, bb2, o2, s2, rfl, hadd2, hbw2, q0, q1, q2, q3, q4⟩ := W4.out p f2
                obtain ⟨d2, ed⟩ : ∃ d, z4 p = d := ⟨_, rfl⟩
                rw [ed] at q0 q1 q2 q3 q4 hdok2
                have r0 := Y1.out.a.only.stays q0
                have r1 := Y1.out.a.only.stays q1
                have r2 := Y1.out.a.only.stays q2
                have r3 := Y1.out.a.only.stays q3
                have r4 := Y1.out.a.only.stays q4
                have hst := Lib.hid (Y1.out.stepZ d2 hdok2)
                clear q0 q1 q2 q3 q4 ed hbw2
                go_wp2_with fail
                refine hst.out.mono ?_
                rintro e x2 ⟨rfl, F3, O3, P3, y2⟩
                have hl1 := Lib.hid y2.looksA
                clear y2 r0 r1 r2 r3 r4 hst Y1
                go_wp2_with fail
                refine hl1.out.mono ?_
                rintro e x3 ⟨rfl, y3⟩
                have hl2 := Lib.hid y3.looksZ
                clear y3 hl1
                go_wp2_with fail
                refine hl2.out.mono ?_
                rintro e x4 ⟨rfl, y4⟩
                have Y4 := Lib.hid y4
                clear y4 hl2
                go_wp2_with fail
                go_roundg (41 - (p + 1))
                case measure => omega
                case rel => exact ⟨p + 1, _, _, _, _, _, _, by simp, by omega, by omega, Y4⟩
              · have hl1 := Lib.hid Y1.out.looksA
                clear Y1
                go_wp2_with fail
                refine hl1.out.mono ?_
                rintro e x3 ⟨rfl, y3⟩
                have hl2 := Lib.hid y3.looksZ
                clear y3 hl1
                go_wp2_with fail
                refine hl2.out.mono ?_
                rintro e x4 ⟨rfl, y4⟩
                have Y4 := Lib.hid y4
                clear y4 hl2
                go_wp2_with fail
                go_roundg (41 - (p + 1))
                case measure => omega
                case rel => exact ⟨p + 1, _, _, _, _, _, _, by simp, by omega, by omega, Y4⟩
            · rcases four with ⟨f1, f2⟩ | ⟨f1, f2⟩
              · obtain ⟨hdok2, ad2, bb2, o2, s2, rfl, hadd2, hbw2, q0, q1, q2, q3, q4⟩ := W4.out p f2
                obtain ⟨d2, ed⟩ : ∃ d, z4 p = d := ⟨_, rfl⟩
                rw [ed] at q0 q1 q2 q3 q4 hdok2
                have r0 := hT.out.a.only.stays q0
                have r1 := hT.out.a.only.stays q1
                have r2 := hT.out.a.only.stays q2
                have r3 := hT.out.a.only.stays q3
                have r4 := hT.out.a.only.stays q4
                have hst := Lib.hid (hT.out.stepZ d2 hdok2)
                clear q0 q1 q2 q3 q4 ed hbw2
                go_wp2_with fail
                refine hst.out.mono ?_
                rintro e x2 ⟨rfl, F3, O3, P3, y2⟩
                have hl1 := Lib.hid y2.looksA
                clear y2 r0 r1 r2 r3 r4 hst hT
                go_wp2_with fail
                refine hl1.out.mono ?_
                rintro e x3 ⟨rfl, y3⟩
                have hl2 := Lib.hid y3.looksZ
                clear y3 hl1
                go_wp2_with fail
                refine hl2.out.mono ?_
                rintro e x4 ⟨rfl, y4⟩
                have Y4 := Lib.hid y4
                clear y4 hl2
                go_wp2_with fail
                go_roundg (41 - (p + 1))
                case measure => omega
                case rel => exact ⟨p + 1, _, _, _, _, _, _, by simp, by omega, by omega, Y4⟩
              · have hl1 := Lib.hid hT.out.looksA
                clear hT
                go_wp2_with fail
                refine hl1.out.mono ?_
                rintro e x3 ⟨rfl, y3⟩
                have hl2 := Lib.hid y3.looksZ
                clear y3 hl1
                go_wp2_with fail
                refine hl2.out.mono ?_
                rintro e x4 ⟨rfl, y4⟩
                have Y4 := Lib.hid y4
                clear y4 hl2
                go_wp2_with fail
                go_roundg (41 - (p + 1))
                case measure => omega
                case rel => exact ⟨p + 1, _, _, _, _, _, _, by simp, by omega, by omega, Y4⟩
          · have hcd : decide ((p : Int) < 40) = false := decide_eq_false (by omega)
            go_wp2_with fail
            go_ret
            exact ⟨rfl, hT.out.a.only.below (Nat.le_refl _) (by simp)⟩

/-! ### The step from the walk to the statement -/
set_option maxRecDepth 100000 in
theorem lifted (os : Os) (started : os.Started) (H : Type) (enc : TypeId × Value → H) :
    ReturnsInHanded {} Try.checked os 8 .any (Rows.flowCopiesSpec.pre6 enc Try.prog Try.f8 Rows.flowCopiesRow.domain false) (Rows.flowCopiesSpec.post enc Try.prog Try.f8 false true false false) := by
  refine returnsInHanded_of_change (C := Try.checked) own started (by kernel_rfl) Try.func8
    (ChangeSpec.witness6 (enc := enc) (C := Try.checked) false ⟨#[], #[.int .u64 0, .int .i64 0, .slice none 0 0, .slice none 0 0, .slice none 0 0], []⟩ 8 (by kernel_rfl) (by kernel_rfl) (by kernel_rfl) (by kernel_rfl)) ?_
  intro W base args ds gs before hval0 hW hcnd _
  have hval : ∀ (j : Nat) t v, Try.f8.params[j]? = some t → args[j]? = some v → Value.okWide Try.prog W .any base t v := hval0
  have hW' := hW
  obtain ⟨p, q, hA0, hV, rfl, hfz, hnd⟩ := hW
  have hA : DataW.TrodAll enc Try.prog W 0 (fun _ => true) true Try.f8.params.toList args.toList ds p := hA0
  rw [Try.params8] at hA hval
  obtain ⟨v0, vs0, d0, ds0, p0, q0, hargs, rfl, rfl, h0, r0⟩ := trodAll_cons hA
  obtain ⟨v1, vs1, d1, ds1, p1, q1, rfl, rfl, rfl, h1, r1⟩ := trodAll_cons r0
  obtain ⟨v2, vs2, d2, ds2, p2, q2, rfl, rfl, rfl, h2, r2⟩ := trodAll_cons r1
  obtain ⟨v3, vs3, d3, ds3, p3, q3, rfl, rfl, rfl, h3, r3⟩ := trodAll_cons r2
  obtain ⟨v4, vs4, d4, ds4, p4, q4, rfl, rfl, rfl, h4, r4⟩ := trodAll_cons r3
  obtain ⟨rfl, rfl, rfl⟩ := trodAll_nil r4
  obtain rfl : args = #[v0, v1, v2, v3, v4] := by cases args; simp_all
  obtain ⟨rfl, rfl⟩ := trodVars_none hV
  obtain ⟨a0, rfl, rfl, rfl, w0⟩ := open_int Try.underlying22 (hval 0 22 v0 rfl rfl) h0
  obtain ⟨a1, rfl, rfl, rfl, w1⟩ := open_int Try.underlying3 (hval 1 3 v1 rfl rfl) h1
  obtain ⟨a2, len2, cap2, rfl⟩ := okWide_slice Try.underlying23 (hval 2 23 v2 rfl rfl)
  have k2 := h2
  have lt2 : ∀ x ∈ p2, x.block < W.heap.size := by obtain ⟨m, hm⟩ := k2; exact DataW.trod_lt m _ _ _ hm
  obtain ⟨z2, w2⟩ : ∃ z, InActs W a2 len2 z := by
    obtain ⟨fuel, hf⟩ := h2
    exact open_acts hf
  obtain ⟨a3, len3, cap3, rfl⟩ := okWide_slice Try.underlying23 (hval 3 23 v3 rfl rfl)
  have k3 := h3
  have lt3 : ∀ x ∈ p3, x.block < W.heap.size := by obtain ⟨m, hm⟩ := k3; exact DataW.trod_lt m _ _ _ hm
  obtain ⟨z3, w3⟩ : ∃ z, InActs W a3 len3 z := by
    obtain ⟨fuel, hf⟩ := h3
    exact open_acts hf
  obtain ⟨a4, len4, cap4, rfl⟩ := okWide_slice Try.underlying23 (hval 4 23 v4 rfl rfl)
  have k4 := h4
  have lt4 : ∀ x ∈ p4, x.block < W.heap.size := by obtain ⟨m, hm⟩ := k4; exact DataW.trod_lt m _ _ _ hm
  obtain ⟨z4, w4⟩ : ∃ z, InActs W a4 len4 z := by
    obtain ⟨fuel, hf⟩ := h4
    exact open_acts hf
  clear hA0 hval0
  refine (walk a0 a1 a2 len2 cap2 z2 a3 len3 cap3 z3 a4 len4 cap4 z4 W w0 w1 w2 w3 w4).mono fun e W' ⟨he, bel⟩ => ?_
  subst he
  exact ⟨_, rfl, _, _, _, [], _, [], hW', trodAll_mk1 (shut_bool Try.underlying4 _), (trodAll_cons_mk (shut_int Try.underlying22 w0) (trodAll_cons_mk (shut_int Try.underlying3 w1) (trodAll_cons_mk (Below.trod laidOut (by kernel_rfl) (of_decide_eq_true (by kernel_rfl)) k2 bel lt2) (trodAll_cons_mk (Below.trod laidOut (by kernel_rfl) (of_decide_eq_true (by kernel_rfl)) k3 bel lt3) (trodAll_cons_mk (Below.trod laidOut (by kernel_rfl) (of_decide_eq_true (by kernel_rfl)) k4 bel lt4) trodAll_mk0))))), rfl, bel.frame _, fun h => by cases h⟩

theorem over : Rows.flowCopiesRow.holds Try.pinned (OpenSpec.ofChange Rows.flowCopiesSpec) :=
  OpenClaim.holds_of_wide 8 Try.f8 rfl rfl rfl rfl rfl rfl rfl ⟨rfl, rfl, rfl, rfl, rfl⟩ rfl rfl rfl rfl rfl (by kernel_rfl) Try.func8 (by kernel_rfl)
    (of_decide_eq_true (by kernel_rfl)) (by unfold Func.isWrapper; first | (rw [if_pos (by decide +kernel)]; kernel_rfl) | (rw [if_neg (by decide +kernel)]; exact ⟨rfl, rfl⟩))
    (fun os started H enc _ => lifted os started H enc)

/-- The statement. -/
theorem proved : Rows.FlowCopiesSaid := over
#print axioms proved
end Go.Proofs.Ytgncjgjkfmpegaa.flowCopies
