/-
  weighbridgelaw10.SfqCopies returns true for every input, and leaves its arguments as they were. No condition but that the arguments are values of their types.
-/
import Derived.Test.YtjmnklmomdfpfaaRows
import Derived.Test.YtjmnklmomdfpfaaSfqC2
import Derived.WalkKit
import Derived.ProofKit
import Derived.OpenShut
import Derived.ChangeOld
import Derived.Below
namespace Go.Proofs.Ytjmnklmomdfpfaa.sfqCopies
open Go.ChangeShapes Go.WideShapes Go.ChangeAt Go.RowKit
set_option linter.unusedVariables false
set_option linter.unusedSimpArgs false

set_option maxRecDepth 100000 in
set_option maxHeartbeats 8000000 in
theorem walk (a0 : Option Addr) (len0 cap0 : Nat) (z0 : Nat → Ax) (a1 : Option Addr) (len1 cap1 : Nat) (z1 : Nat → Ax) (a2 : Option Addr) (len2 cap2 : Nat) (z2 : Nat → Ax) (w : World) (w0 : InAxs w a0 len0 z0) (w1 : InAxs w a1 len1 z1) (w2 : InAxs w a2 len2 z2) :
    Calls Try.prog 9 #[.slice a0 len0 cap0, .slice a1 len1 cap1, .slice a2 len2 cap2] w fun e w' => e = .returned (.bool true) ∧ Below w.heap.size w w' := by
  have W0 := Lib.hid w0
  have W1 := Lib.hid w1
  have W2 := Lib.hid w2
  clear w0 w1 w2
  go_enter Try.func9, Try.ntmps9
  go_wp2_with fail
  refine (sNew w).mono ?_
  rintro e v1 ⟨rfl, h1, o1⟩
  have H1 := Lib.hid (qsnd_new h1 o1)
  clear h1 o1
  go_wp2_with fail
  generalize v1.alloc (.cells #[.slice none 0 0, .int .u64 0, .int .u64 0] 29) = V1 at *
  refine (sAwake _).mono ?_
  rintro e v2 ⟨rfl, o2⟩
  have H2 := Lib.hid (H1.out.only0 o2)
  clear o2 H1
  go_wp2_with fail
  refine (QSnd.some H2.out).mono ?_
  rintro e v3 ⟨rfl, O3, P3, h3⟩
  have H3 := Lib.hid h3
  have hl3 := Lib.hid someS_len
  clear h3 H2
  go_wp2_with fail
  go_loopg [9] (len0 + 1) (fun gk si wr => ∃ (p : Nat) (S : Sq) (O P : List Nat), si = .int .i64 (p : Int) ∧ p ≤ len0 ∧ p ≤ 40 ∧ len0 + 1 ≤ gk + p ∧ S.l.length ≤ 4 + p ∧ Hid (QSnd w wr w.heap.size v1.heap.size S O P))
  case atStart => exact ⟨0, _, _, _, rfl, by omega, by omega, by omega, hl3.out, H3⟩
  case round =>
    obtain ⟨p, S, O, P, rfl, hp, hp80, hg, hSl, hS⟩ := hrel
    clear H3 hl3
    by_cases hc : p < len0 ∧ p < 40
    · have c1 : (p : Int) < (len0 : Int) := by omega
      have c2 : (p : Int) < 40 := by omega
      obtain ⟨hdok, ad, bb, o, s, rfl, hadd, r0, r1, r2, r3, r4, r5, r6⟩ := W0.out.at_ hS.out.only hc.1
      obtain ⟨d, ed⟩ : ∃ d, z0 p = d := ⟨_, rfl⟩
      rw [ed] at r0 r1 r2 r3 r4 r5 r6 hdok
      have hst := Lib.hid (hS.out.step d hdok (by omega))
      have hal := Lib.hid (d.act_len S)
      clear ed
      go_wp2_with fail
      refine hst.out.mono ?_
      rintro e u1 ⟨rfl, O2, P2, h2⟩
      have ks := sStarts u1 _ _ _ h2.duo.fl
      have hls := starts_len h2.duo.fl.ok
      have H2 := Lib.hid h2
      clear h2 r0 r1 r2 r3 r4 r5 r6 hst
      go_wp2_with fail
      refine ks.mono ?_
      rintro e u2 ⟨A2, k2, rfl, rr2, f2, o2⟩
      have kp := hSpoil u2 _ _ rr2 (by omega)
      have F2 := Lib.hid (And.intro f2 o2)
      clear ks rr2 f2 o2
      go_wp2_with fail
      refine kp.mono ?_
      rintro e u3 ⟨rfl, o3⟩
      have h3 := H2.out.spoil F2.out.2 F2.out.1 o3
      have kf := sFlows u3 _ _ _ h3.duo.fl
      have hli : (idsK (d.act S).l).length ≤ 1000 := by unfold idsK; rw [List.length_map]; exact h3.duo.fl.ok.len
      have H3 := Lib.hid h3
      clear kp o3 h3 F2
      go_wp2_with fail
      refine kf.mono ?_
      rintro e u4 ⟨A4, k4, rfl, rr4, f4, o4⟩
      have kp := iSpoil u4 A4 _ k4 _ rfl (by omega) rr4
      have F4 := Lib.hid (And.intro f4 o4)
      clear kf rr4 f4 o4
      go_wp2_with fail
      refine kp.mono ?_
      rintro e u5 ⟨rfl, o5⟩
      have H5 := Lib.hid (H3.out.spoil F4.out.2 F4.out.1 o5)
      clear kp o5 F4 H3
      go_wp2_with fail
      go_roundg (len0 + 1 - (p + 1))
      case measure => omega
      case rel => exact ⟨p + 1, _, O2, P2, by simp, by omega, by omega, by omega, by have := hal.out; omega, H5⟩
    · have hcd : (decide ((p : Int) < (len0 : Int)) = false ∧ ¬ ((p : Int) < (len0 : Int))) ∨ ((p : Int) < (len0 : Int) ∧ decide ((p : Int) < 40) = false) := by
        have hce : ¬ p < len0 ∨ (p < len0 ∧ ¬ p < 40) := by omega
        rcases hce with h9 | h9
        · exact .inl ⟨decide_eq_false (by omega), by omega⟩
        · exact .inr ⟨by omega, decide_eq_false (by omega)⟩
      clear hc
      rcases hcd with ⟨h1, h2⟩ | ⟨h1, h2⟩
      all_goals
        have kc := sCopy wr _ _ _ hS.out.duo.fl
        clear W0
        go_wp2_with fail
        refine kc.mono ?_
        rintro e u1 ⟨nb, rfl, O1, k1, o1, n1⟩
        have kd := zCopy u1 _ _ _ (hS.out.only0 o1).duo.rf
        have K1 := Lib.hid (And.intro k1 (And.intro o1 n1))
        clear kc k1 o1 n1 h1 h2
        go_wp2_with fail
        refine kd.mono ?_
        rintro e u2 ⟨nc, rfl, P1, k3, o3, n3⟩
        have T2 := Lib.hid (hS.out.copied K1.out.1 K1.out.2.1 K1.out.2.2 k3 o3 n3)
        have hSn : Hid (S.l.length ≤ 44) := by show _ ≤ _; omega
        clear kd k3 o3 n3 K1 hS hp hp80 hg hSl
        go_wp2_with fail
        refine T2.out.looks2.mono ?_
        rintro e u3 ⟨rfl, k4⟩
        have T3 := Lib.hid k4
        clear k4 T2
        go_wp2_with fail
        go_loopg [12] 41 (fun gk si wr => ∃ (p : Nat) (S1 : Sq) (O P : List Nat) (S2 : Sq) (O' P' : List Nat), si = .int .i64 (p : Int) ∧ p ≤ 40 ∧ 41 ≤ gk + p ∧ S1.l.length ≤ 44 + p ∧ S2.l.length ≤ 44 + p ∧ Hid (Q2 w wr w.heap.size v1.heap.size S1 O P nb nc S2 O' P'))
        case atStart => exact ⟨0, _, _, _, _, _, _, rfl, by omega, by omega, hSn.out, hSn.out, T3⟩
        case round =>
          obtain ⟨p, S1, O, P, S2, O', P', rfl, hp, hg, hl1, hl2, hT⟩ := hrel
          clear T3 hSn
          by_cases hpl : p < 40
          · have hpl' : (p : Int) < 40 := by omega
            by_cases hm : p < len1
            · have hm' : (p : Int) < (len1 : Int) := by omega
              have hmd : decide ((p : Int) < (len1 : Int)) = true := decide_eq_true hm'
              have hmd2 : decide (p < len1) = true := decide_eq_true hm
              obtain ⟨hdok, ad, bb, o, s, rfl, hadd, r0, r1, r2, r3, r4, r5, r6⟩ := W1.out.at_ hT.out.one.only hm
              obtain ⟨d, ed⟩ : ∃ d, z1 p = d := ⟨_, rfl⟩
              rw [ed] at r0 r1 r2 r3 r4 r5 r6 hdok
              have hst := Lib.hid (hT.out.step1 d hdok (by omega))
              have hal := Lib.hid (d.act_len S1)
              clear ed
              go_wp2_with fail
              refine hst.out.mono ?_
              rintro e u4 ⟨rfl, O4, P4, h4⟩
              have H4 := Lib.hid h4
              clear h4 hst r0 r1 r2 r3 r4 r5 r6
              by_cases hq : p < len2
              · have hq' : (p : Int) < (len2 : Int) := by omega
                have hqd : decide ((p : Int) < (len2 : Int)) = true := decide_eq_true hq'
                have hqd2 : decide (p < len2) = true := decide_eq_true hq
                obtain ⟨hdok2, ad2, bb2, o2, s2, rfl, hadd2, y0, y1, y2, y3, y4, y5, y6⟩ := W2.out.at_ H4.out.one.only hq
                obtain ⟨d2, ed2⟩ : ∃ d, z2 p = d := ⟨_, rfl⟩
                rw [ed2] at y0 y1 y2 y3 y4 y5 y6 hdok2
                have hst2 := Lib.hid (H4.out.step2 d2 hdok2 (by omega))
                have hal2 := Lib.hid (d2.act_len S2)
                clear ed2
                go_wp2_with fail
                refine hst2.out.mono ?_
                rintro e u5 ⟨rfl, O5, P5, h5⟩
                have H5 := Lib.hid h5
                clear h5 hst2 y0 y1 y2 y3 y4 y5 y6
                go_wp2_with fail
                go_roundg (41 - (p + 1))
                case measure => omega
                case rel => exact ⟨p + 1, _, _, _, _, _, _, by simp, by omega, by omega, by have := hal.out; omega, by have := hal2.out; omega, H5⟩
              · have hqd : decide ((p : Int) < (len2 : Int)) = false := decide_eq_false (by omega)
                have hqd2 : decide (p < len2) = false := decide_eq_false hq
                have hq' : ¬ ((p : Int) < (len2 : Int)) := by omega
                go_wp2_with fail
                go_roundg (41 - (p + 1))
                case measure => omega
                case rel => exact ⟨p + 1, _, _, _, _, _, _, by simp, by omega, by omega, by have := hal.out; omega, by omega, H4⟩
            · have hmd : decide ((p : Int) < (len1 : Int)) = false := decide_eq_false (by omega)
              have hmd2 : decide (p < len1) = false := decide_eq_false hm
              have hm' : ¬ ((p : Int) < (len1 : Int)) := by omega
              by_cases hq : p < len2
              · have hq' : (p : Int) < (len2 : Int) := by omega
                have hqd : decide ((p : Int) < (len2 : Int)) = true := decide_eq_true hq'
                have hqd2 : decide (p < len2) = true := decide_eq_true hq
                obtain ⟨hdok2, ad2, bb2, o2, s2, rfl, hadd2, y0, y1, y2, y3, y4, y5, y6⟩ := W2.out.at_ hT.out.one.only hq
                obtain ⟨d2, ed2⟩ : ∃ d, z2 p = d := ⟨_, rfl⟩
                rw [ed2] at y0 y1 y2 y3 y4 y5 y6 hdok2
                have hst2 := Lib.hid (hT.out.step2 d2 hdok2 (by omega))
                have hal2 := Lib.hid (d2.act_len S2)
                clear ed2
                go_wp2_with fail
                refine hst2.out.mono ?_
                rintro e u5 ⟨rfl, O5, P5, h5⟩
                have H5 := Lib.hid h5
                clear h5 hst2 y0 y1 y2 y3 y4 y5 y6
                go_wp2_with fail
                go_roundg (41 - (p + 1))
                case measure => omega
                case rel => exact ⟨p + 1, _, _, _, _, _, _, by simp, by omega, by omega, by omega, by have := hal2.out; omega, H5⟩
              · have hqd : decide ((p : Int) < (len2 : Int)) = false := decide_eq_false (by omega)
                have hqd2 : decide (p < len2) = false := decide_eq_false hq
                have hq' : ¬ ((p : Int) < (len2 : Int)) := by omega
                go_wp2_with fail
                go_roundg (41 - (p + 1))
                case measure => omega
                case rel => exact ⟨p + 1, _, _, _, _, _, _, by simp, by omega, by omega, by omega, by omega, hT⟩
          · have hpl' : ¬ ((p : Int) < 40) := by omega
            go_wp2_with fail
            refine hT.out.looks1.mono ?_
            rintro e u6 ⟨rfl, k6⟩
            have T6 := Lib.hid k6
            clear k6
            go_wp2_with fail
            refine T6.out.looks2.mono ?_
            rintro e u7 ⟨rfl, k7⟩
            have T7 := Lib.hid k7
            clear k7 T6
            go_wp2_with fail
            go_ret
            exact ⟨rfl, T7.out.one.only.below (Nat.le_refl _) (by simp)⟩

/-! ### The step from the walk to the statement -/
set_option maxRecDepth 100000 in
theorem lifted (os : Os) (started : os.Started) (H : Type) (enc : TypeId × Value → H) :
    ReturnsInHanded {} Try.checked os 9 .any (Rows.sfqCopiesSpec.pre6 enc Try.prog Try.f9 Rows.sfqCopiesRow.domain false) (Rows.sfqCopiesSpec.post enc Try.prog Try.f9 false true false false) := by
  refine returnsInHanded_of_change (C := Try.checked) own started (by kernel_rfl) Try.func9
    (ChangeSpec.witness6 (enc := enc) (C := Try.checked) false ⟨#[], #[.slice none 0 0, .slice none 0 0, .slice none 0 0], []⟩ 8 (by kernel_rfl) (by kernel_rfl) (by kernel_rfl) (by kernel_rfl)) ?_
  intro W base args ds gs before hval0 hW hcnd _
  have hval : ∀ (j : Nat) t v, Try.f9.params[j]? = some t → args[j]? = some v → Value.okWide Try.prog W .any base t v := hval0
  have hW' := hW
  obtain ⟨p, q, hA0, hV, rfl, hfz, hnd⟩ := hW
  have hA : DataW.TrodAll enc Try.prog W 0 (fun _ => true) true Try.f9.params.toList args.toList ds p := hA0
  rw [Try.params9] at hA hval
  obtain ⟨v0, vs0, d0, ds0, p0, q0, hargs, rfl, rfl, h0, r0⟩ := trodAll_cons hA
  obtain ⟨v1, vs1, d1, ds1, p1, q1, rfl, rfl, rfl, h1, r1⟩ := trodAll_cons r0
  obtain ⟨v2, vs2, d2, ds2, p2, q2, rfl, rfl, rfl, h2, r2⟩ := trodAll_cons r1
  obtain ⟨rfl, rfl, rfl⟩ := trodAll_nil r2
  obtain rfl : args = #[v0, v1, v2] := by cases args; simp_all
  obtain ⟨rfl, rfl⟩ := trodVars_none hV
  obtain ⟨a0, len0, cap0, rfl⟩ := okWide_slice Try.underlying22 (hval 0 22 v0 rfl rfl)
  have k0 := h0
  have lt0 : ∀ x ∈ p0, x.block < W.heap.size := by obtain ⟨m, hm⟩ := k0; exact DataW.trod_lt m _ _ _ hm
  obtain ⟨z0, w0⟩ : ∃ z, InAxs W a0 len0 z := by
    obtain ⟨fuel, hf⟩ := h0
    exact open_axs hf
  obtain ⟨a1, len1, cap1, rfl⟩ := okWide_slice Try.underlying22 (hval 1 22 v1 rfl rfl)
  have k1 := h1
  have lt1 : ∀ x ∈ p1, x.block < W.heap.size := by obtain ⟨m, hm⟩ := k1; exact DataW.trod_lt m _ _ _ hm
  obtain ⟨z1, w1⟩ : ∃ z, InAxs W a1 len1 z := by
    obtain ⟨fuel, hf⟩ := h1
    exact open_axs hf
  obtain ⟨a2, len2, cap2, rfl⟩ := okWide_slice Try.underlying22 (hval 2 22 v2 rfl rfl)
  have k2 := h2
  have lt2 : ∀ x ∈ p2, x.block < W.heap.size := by obtain ⟨m, hm⟩ := k2; exact DataW.trod_lt m _ _ _ hm
  obtain ⟨z2, w2⟩ : ∃ z, InAxs W a2 len2 z := by
    obtain ⟨fuel, hf⟩ := h2
    exact open_axs hf
  clear hA0 hval0
  refine (walk a0 len0 cap0 z0 a1 len1 cap1 z1 a2 len2 cap2 z2 W w0 w1 w2).mono fun e W' ⟨he, bel⟩ => ?_
  subst he
  exact ⟨_, rfl, _, _, _, [], _, [], hW', trodAll_mk1 (shut_bool Try.underlying4 _), (trodAll_cons_mk (Below.trod laidOut (by kernel_rfl) (of_decide_eq_true (by kernel_rfl)) k0 bel lt0) (trodAll_cons_mk (Below.trod laidOut (by kernel_rfl) (of_decide_eq_true (by kernel_rfl)) k1 bel lt1) (trodAll_cons_mk (Below.trod laidOut (by kernel_rfl) (of_decide_eq_true (by kernel_rfl)) k2 bel lt2) trodAll_mk0))), rfl, bel.frame _, fun h => by cases h⟩

theorem over : Rows.sfqCopiesRow.holds Try.pinned (OpenSpec.ofChange Rows.sfqCopiesSpec) :=
  OpenClaim.holds_of_wide 9 Try.f9 rfl rfl rfl rfl rfl rfl rfl ⟨rfl, rfl, rfl, rfl, rfl⟩ rfl rfl rfl rfl rfl (by kernel_rfl) Try.func9 (by kernel_rfl)
    (of_decide_eq_true (by kernel_rfl)) (by unfold Func.isWrapper; first | (rw [if_pos (by decide +kernel)]; kernel_rfl) | (rw [if_neg (by decide +kernel)]; exact ⟨rfl, rfl⟩))
    (fun os started H enc _ => lifted os started H enc)

/-- The statement. -/
theorem proved : Rows.SfqCopiesSaid := over
#print axioms proved
end Go.Proofs.Ytjmnklmomdfpfaa.sfqCopies
