/-
  weighbridgelaw10.SfqLeast returns true for every input, and leaves its arguments as they were. No condition but that the arguments are values of their types.
-/
import Derived.Test.YtjmnklmomdfpfaaRows
import Derived.Test.YtjmnklmomdfpfaaSfqX
import Derived.Test.YtjmnklmomdfpfaaSfqK
import Derived.WalkKit
import Derived.ProofKit
import Derived.OpenShut
import Derived.ChangeOld
import Derived.Below
namespace Go.Proofs.Ytjmnklmomdfpfaa.sfqLeast
open Go.ChangeShapes Go.WideShapes Go.ChangeAt Go.RowKit
set_option linter.unusedVariables false
set_option linter.unusedSimpArgs false

set_option maxRecDepth 100000 in
set_option maxHeartbeats 8000000 in
theorem walk (a0 : Option Addr) (len0 cap0 : Nat) (z0 : Nat → Ax) (w : World) (w0 : InAxs w a0 len0 z0) :
    Calls Try.prog 5 #[.slice a0 len0 cap0] w fun e w' => e = .returned (.bool true) ∧ Below w.heap.size w w' := by
  have W0 := Lib.hid w0
  clear w0
  go_enter Try.func5, Try.ntmps5
  go_wp2_with fail
  refine (sNew w).mono ?_
  rintro e v1 ⟨rfl, h1, o1⟩
  have H1 := Lib.hid (qsnd_new h1 o1)
  clear h1 o1
  go_wp2_with fail
  generalize v1.alloc (.cells #[.slice none 0 0, .int .u64 0, .int .u64 0] 29) = V1 at *
  refine (sAwake _).mono ?_
  rintro e v2 ⟨rfl, o2⟩
  have H2 := Lib.hid (H1.out.only0 o2)
  clear o2 H1
  go_wp2_with fail
  refine (QSnd.some H2.out).mono ?_
  rintro e v3 ⟨rfl, O3, P3, h3⟩
  have H3 := Lib.hid h3
  have hl3 := Lib.hid someS_len
  clear h3 H2
  have hPf : Hid (Pf someS) := (((Pf.new.add _ _ _).add _ _ _).add _ _ _).add _ _ _
  go_wp2_with fail
  go_loopg [5] (len0 + 1) (fun gk si wr => ∃ (p : Nat) (S : Sq) (O P : List Nat), si = .int .i64 (p : Int) ∧ p ≤ len0 ∧ p ≤ 60 ∧ len0 + 1 ≤ gk + p ∧ S.l.length ≤ 4 + p ∧ Hid (Pf S) ∧ Hid (QSnd w wr w.heap.size v1.heap.size S O P))
  case atStart => exact ⟨0, _, _, _, rfl, by omega, by omega, by omega, hl3.out, hPf, H3⟩
  case round =>
    obtain ⟨p, S, O, P, rfl, hp, hp80, hg, hSl, hR, hS⟩ := hrel
    clear H3 hl3 hPf
    by_cases hc : p < len0 ∧ p < 60
    · have c1 : (p : Int) < (len0 : Int) := by omega
      have c2 : (p : Int) < 60 := by omega
      obtain ⟨hdok, ad, bb, o, s, rfl, hadd, r0, r1, r2, r3, r4, r5, r6⟩ := W0.out.at_ hS.out.only hc.1
      obtain ⟨d, ed⟩ : ∃ d, z0 p = d := ⟨_, rfl⟩
      rw [ed] at r0 r1 r2 r3 r4 r5 r6 hdok
      have hst := Lib.hid (hS.out.step d hdok (by omega))
      have hal := Lib.hid (d.act_len S)
      have hPf2 := Lib.hid (hR.out.act hS.out.duo.fl.ok d)
      clear ed
      generalize d.act S = S2 at *
      go_wp2_with fail
      refine hst.out.mono ?_
      rintro e u1 ⟨rfl, O2, P2, h2⟩
      have H2 := Lib.hid h2
      obtain ⟨_, ad', bb', o', s', e9, hadd', _, _, x2, _, _, _, _⟩ := W0.out.at_ h2.only hc.1
      injection e9 with e9
      subst e9
      rw [hadd] at hadd'
      injection hadd' with e9 e10 e11
      subst e9 e10 e11
      obtain ⟨dm, edm⟩ : ∃ q, (z0 p).m = q := ⟨_, rfl⟩
      rw [edm] at x2
      clear h2 r0 r1 r2 r3 r4 r5 r6 hst hdok edm
      have md := fun w => sMod dm 3 (by decide) (by decide) w
      obtain ⟨q0, q3⟩ := modI_lt dm (n := 3) (by decide)
      by_cases hq : 0 < modI dm 3
      · go_wp2_with fail
        refine (md _).mono ?_
        rintro e u1 ⟨rfl, rfl⟩
        go_wp2_with fail
        go_roundg (len0 + 1 - (p + 1))
        case measure => omega
        case rel => exact ⟨p + 1, _, O2, P2, by simp, by omega, by omega, by omega, by have := hal.out; omega, hPf2, H2⟩
      · go_wp2_with fail
        refine (md _).mono ?_
        rintro e u1 ⟨rfl, rfl⟩
        clear md
        have ks := sStarts u1 _ _ _ H2.out.duo.fl
        go_wp2_with (first
          | (go_at_call 17; refine ks.mono ?_; rintro e u4 ⟨A4, cap4, rfl, r4, f4, o4⟩; have H4 := Lib.hid (H2.out.only0 o4); have R4 := Lib.hid (And.intro r4 f4); clear r4 f4 o4)
          | (go_at_call 15; refine (sV _ _ _ _ H4.out.duo.fl).mono ?_; rintro e u4 ⟨rfl, rfl⟩)
          | (go_at_call 16; refine (sMost _ _ _ _ H4.out.duo.fl).mono ?_; rintro e u4 ⟨rfl, rfl⟩))
        refine (sServe _ _ _ _ H4.out.duo.fl).mono ?_
        rintro e w5 ⟨rfl, t5⟩
        have o6 : Only [] w5 (w5.alloc (.cells #[.int .i64 S2.hd.f, .int .i64 S2.hd.l, .int .i64 S2.hd.m] 34)) := (Only.refl [] w5).alloc _
        have bx := PBox.new w5 S2.hd
        have m5 := H4.out.duo.mid t5
        have m6 := m5.only o6
        have hNP : w5.heap.size ∉ P2 := fun hk => Nat.lt_irrefl _ (m5.rf.lt _ hk)
        have k7 := zServe _ _ _ _ m6.rf
        have M6 := Lib.hid (And.intro m6 (And.intro bx hNP))
        clear ks t5 m5 m6 o6 bx hNP
        go_wp2_with fail
        refine k7.mono ?_
        rintro e w7 ⟨rfl, t7⟩
        obtain ⟨O8, P8, d8, g8⟩ := M6.out.1.fin t7
        have H8 := Lib.hid (H4.out.went d8 g8)
        have hlt2 := H2.out.duo.lt
        have r8 : RowIs w7 (.slice A4 (startsK S2.l).length cap4) (startsK S2.l) := R4.out.1.keep (fun g hg => g8.1.block g (R4.out.1.lt hg) (fun hk => by have := hlt2 g hk; have := R4.out.2 g hg; omega))
        have bx7 : PBox w7 w5.heap.size S2.hd := by
          obtain ⟨P', _, g7⟩ := t7
          exact M6.out.2.1.only g7.1 M6.out.2.2
        obtain ⟨b0, b1, b2⟩ := bx7.c
        have kv := fun q => sV (w7.drewN q) _ _ _ (H8.out.duo.fl.only0 ((Only.refl [] w7).drewN q))
        have hok2 := H2.out.duo.fl.ok
        have R8 := Lib.hid r8
        clear k7 t7 d8 g8 hlt2 r8 bx7 M6 R4
        rcases hsl : startsK S2.l with _ | ⟨x, t⟩
        · obtain ⟨e1, e2⟩ := unserved hsl
          rw [e2] at kv
          rw [e1]
          obtain ⟨M, hM⟩ : ∃ M, max S2.v S2.m = M := ⟨_, rfl⟩
          have hM2 : (if S2.v < S2.m then S2.m else S2.v) = M := by rw [← hM]; split <;> omega
          have hM3 : (if S2.m < S2.v then S2.v else S2.m) = M := by rw [← hM]; split <;> omega
          rw [hM] at kv
          have hMM : (M != M) = false := by simp
          clear R8
          go_wp2_with fail
          go_quiet (fail)
          go_wp2_with fail
          refine (kv _).mono ?_
          rintro e w9 ⟨rfl, e9⟩
          have H9 : Hid (QSnd w w9 w.heap.size v1.heap.size S2.srv O8 P8) := by rw [e9]; exact H8.out.only0 ((Only.refl [] w7).drewN _)
          clear e9 kv
          go_wp2_with fail
          go_roundg (len0 + 1 - (p + 1))
          case measure => omega
          case rel => exact ⟨p + 1, _, O8, P8, by simp, by omega, by omega, by omega, by have := hal.out; rw [Sq.srv_len]; omega, hPf2.out.srv hok2, H9⟩
        · obtain ⟨e1, e2, e3⟩ := served hPf2.out hok2 hsl
          have r8 := R8.out
          rw [hsl] at r8
          obtain ⟨g, cap', e9, -, -, -, -, hcell⟩ := r8.at_ (by simp)
          injection e9 with e9 e10 e11
          subst e9
          clear e10 e11
          obtain ⟨y0, y1, -, -⟩ := hcell 0 (by simp)
          simp only [gOf, List.getD_cons_zero, Nat.zero_mul, Nat.zero_add] at y0 y1
          rw [e3] at kv
          rw [e1]
          rw [e2] at b0
          clear hcell r8 R8
          have hxi : (x.i != x.i) = false := by simp
          have hxk : (x.k != x.k) = false := by simp
          have hn0 : (0 : Int) < ((x :: t).length : Int) := by simp
          have hn1 : 0 < (x :: t).length := by simp
          have hnd : decide (0 < (x :: t).length) = true := decide_eq_true hn1
          generalize (x :: t).length = n at *
          go_wp2_with fail
          go_quiet (first | (go_at_call 15; exact Calls.quiet_of_same (kv _)))
          have H9 : Hid (QSnd w (w7.drewN nq) w.heap.size v1.heap.size S2.srv O8 P8) := H8.out.only0 ((Only.refl [] w7).drewN nq)
          generalize w7.drewN nq = w9 at *
          go_wp2_with fail
          go_roundg (len0 + 1 - (p + 1))
          case measure => omega
          case rel => exact ⟨p + 1, _, O8, P8, by simp, by omega, by omega, by omega, by have := hal.out; rw [Sq.srv_len]; omega, hPf2.out.srv hok2, H9⟩
    · have hcd : (decide ((p : Int) < (len0 : Int)) = false ∧ ¬ ((p : Int) < (len0 : Int))) ∨ ((p : Int) < (len0 : Int) ∧ decide ((p : Int) < 60) = false) := by
        have hce : ¬ p < len0 ∨ (p < len0 ∧ ¬ p < 60) := by omega
        rcases hce with h9 | h9
        · exact .inl ⟨decide_eq_false (by omega), by omega⟩
        · exact .inr ⟨by omega, decide_eq_false (by omega)⟩
      clear hc
      rcases hcd with ⟨h1, h2⟩ | ⟨h1, h2⟩
      all_goals
        go_wp2_with fail
        go_ret
        exact ⟨rfl, hS.out.only.below (Nat.le_refl _) (by simp)⟩

/-! ### The step from the walk to the statement -/
set_option maxRecDepth 100000 in
theorem lifted (os : Os) (started : os.Started) (H : Type) (enc : TypeId × Value → H) :
    ReturnsInHanded {} Try.checked os 5 .any (Rows.sfqLeastSpec.pre6 enc Try.prog Try.f5 Rows.sfqLeastRow.domain false) (Rows.sfqLeastSpec.post enc Try.prog Try.f5 false true false false) := by
  refine returnsInHanded_of_change (C := Try.checked) own started (by kernel_rfl) Try.func5
    (ChangeSpec.witness6 (enc := enc) (C := Try.checked) false ⟨#[], #[.slice none 0 0], []⟩ 8 (by kernel_rfl) (by kernel_rfl) (by kernel_rfl) (by kernel_rfl)) ?_
  intro W base args ds gs before hval0 hW hcnd _
  have hval : ∀ (j : Nat) t v, Try.f5.params[j]? = some t → args[j]? = some v → Value.okWide Try.prog W .any base t v := hval0
  have hW' := hW
  obtain ⟨p, q, hA0, hV, rfl, hfz, hnd⟩ := hW
  have hA : DataW.TrodAll enc Try.prog W 0 (fun _ => true) true Try.f5.params.toList args.toList ds p := hA0
  rw [Try.params5] at hA hval
  obtain ⟨v0, vs0, d0, ds0, p0, q0, hargs, rfl, rfl, h0, r0⟩ := trodAll_cons hA
  obtain ⟨rfl, rfl, rfl⟩ := trodAll_nil r0
  obtain rfl : args = #[v0] := by cases args; simp_all
  obtain ⟨rfl, rfl⟩ := trodVars_none hV
  obtain ⟨a0, len0, cap0, rfl⟩ := okWide_slice Try.underlying22 (hval 0 22 v0 rfl rfl)
  have k0 := h0
  have lt0 : ∀ x ∈ p0, x.block < W.heap.size := by obtain ⟨m, hm⟩ := k0; exact DataW.trod_lt m _ _ _ hm
  obtain ⟨z0, w0⟩ : ∃ z, InAxs W a0 len0 z := by
    obtain ⟨fuel, hf⟩ := h0
    exact open_axs hf
  clear hA0 hval0
  refine (walk a0 len0 cap0 z0 W w0).mono fun e W' ⟨he, bel⟩ => ?_
  subst he
  exact ⟨_, rfl, _, _, _, [], _, [], hW', trodAll_mk1 (shut_bool Try.underlying4 _), (trodAll_cons_mk (Below.trod laidOut (by kernel_rfl) (of_decide_eq_true (by kernel_rfl)) k0 bel lt0) trodAll_mk0), rfl, bel.frame _, fun h => by cases h⟩

theorem over : Rows.sfqLeastRow.holds Try.pinned (OpenSpec.ofChange Rows.sfqLeastSpec) :=
  OpenClaim.holds_of_wide 5 Try.f5 rfl rfl rfl rfl rfl rfl rfl ⟨rfl, rfl, rfl, rfl, rfl⟩ rfl rfl rfl rfl rfl (by kernel_rfl) Try.func5 (by kernel_rfl)
    (of_decide_eq_true (by kernel_rfl)) (by unfold Func.isWrapper; first | (rw [if_pos (by decide +kernel)]; kernel_rfl) | (rw [if_neg (by decide +kernel)]; exact ⟨rfl, rfl⟩))
    (fun os started H enc _ => lifted os started H enc)

/-- The statement. -/
theorem proved : Rows.SfqLeastSaid := over
#print axioms proved
end Go.Proofs.Ytjmnklmomdfpfaa.sfqLeast
