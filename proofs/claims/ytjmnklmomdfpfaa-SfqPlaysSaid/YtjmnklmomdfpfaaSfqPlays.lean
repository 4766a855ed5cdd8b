/-
  weighbridgelaw10.SfqPlays returns true for every input, and leaves its arguments as they were. No condition but that the arguments are values of their types.
-/
import Derived.Test.YtjmnklmomdfpfaaRows
import Derived.Test.YtjmnklmomdfpfaaSfqX
import Derived.WalkKit
import Derived.ProofKit
import Derived.OpenShut
import Derived.ChangeOld
import Derived.Below
namespace Go.Proofs.Ytjmnklmomdfpfaa.sfqPlays
open Go.ChangeShapes Go.WideShapes Go.ChangeAt Go.RowKit
set_option linter.unusedVariables false
set_option linter.unusedSimpArgs false

set_option maxRecDepth 100000 in
set_option maxHeartbeats 8000000 in
theorem walk (a0 : Option Addr) (len0 cap0 : Nat) (z0 : Nat → Ax) (a1 : Bool) (w : World) (w0 : InAxs w a0 len0 z0) :
    Calls Try.prog 3 #[.slice a0 len0 cap0, .bool a1] w fun e w' => e = .returned (.bool true) ∧ Below w.heap.size w w' := by
  have W0 := Lib.hid w0
  clear w0
  cases a1
  · go_enter Try.func3, Try.ntmps3
    go_wp2_with fail
    refine (sNew w).mono ?_
    rintro e v1 ⟨rfl, h1, o1⟩
    have H1 := Lib.hid (qsnd_new h1 o1)
    clear h1 o1
    go_wp2_with fail
    generalize v1.alloc (.cells #[.slice none 0 0, .int .u64 0, .int .u64 0] 29) = V1 at *
    refine (sAwake _).mono ?_
    rintro e v2 ⟨rfl, o2⟩
    have H2 := Lib.hid (H1.out.only0 o2)
    clear o2 H1
    go_wp2_with fail
    have H3 := H2
    have hl3 : Hid (Sq.new.l.length ≤ 4) := Nat.zero_le _
    clear H2
    go_loopg [7] (len0 + 1) (fun gk si wr => ∃ (p : Nat) (S : Sq) (O P : List Nat), si = .int .i64 (p : Int) ∧ p ≤ len0 ∧ p ≤ 80 ∧ len0 + 1 ≤ gk + p ∧ S.l.length ≤ 4 + p ∧ Hid (QSnd w wr w.heap.size v1.heap.size S O P))
    case atStart => exact ⟨0, _, _, _, rfl, by omega, by omega, by omega, hl3.out, H3⟩
    case round =>
      obtain ⟨p, S, O, P, rfl, hp, hp80, hg, hSl, hS⟩ := hrel
      clear H3 hl3
      by_cases hc : p < len0 ∧ p < 80
      · have c1 : (p : Int) < (len0 : Int) := by omega
        have c2 : (p : Int) < 80 := by omega
        obtain ⟨hdok, ad, bb, o, s, rfl, hadd, r0, r1, r2, r3, r4, r5, r6⟩ := W0.out.at_ hS.out.only hc.1
        obtain ⟨d, ed⟩ : ∃ d, z0 p = d := ⟨_, rfl⟩
        rw [ed] at r0 r1 r2 r3 r4 r5 r6 hdok
        have hst := Lib.hid (hS.out.step d hdok (by omega))
        have hal := Lib.hid (d.act_len S)
        clear ed
        go_wp2_with fail
        refine hst.out.mono ?_
        rintro e u1 ⟨rfl, O2, P2, h2⟩
        have hlk := Lib.hid h2.looks
        clear h2 r0 r1 r2 r3 r4 r5 r6 hst
        go_wp2_with fail
        refine hlk.out.mono ?_
        rintro e u2 ⟨rfl, h3⟩
        have H3 := Lib.hid h3
        clear h3 hlk
        go_wp2_with fail
        go_roundg (len0 + 1 - (p + 1))
        case measure => omega
        case rel => exact ⟨p + 1, _, O2, P2, by simp, by omega, by omega, by omega, by have := hal.out; omega, H3⟩
      · have hcd : (decide ((p : Int) < (len0 : Int)) = false ∧ ¬ ((p : Int) < (len0 : Int))) ∨ ((p : Int) < (len0 : Int) ∧ decide ((p : Int) < 80) = false) := by
          have hce : ¬ p < len0 ∨ (p < len0 ∧ ¬ p < 80) := by omega
          rcases hce with h9 | h9
          · exact .inl ⟨decide_eq_false (by omega), by omega⟩
          · exact .inr ⟨by omega, decide_eq_false (by omega)⟩
        clear hc
        rcases hcd with ⟨h1, h2⟩ | ⟨h1, h2⟩
        all_goals
          go_wp2_with fail
          go_ret
          exact ⟨rfl, hS.out.only.below (Nat.le_refl _) (by simp)⟩
  · go_enter Try.func3, Try.ntmps3
    go_wp2_with fail
    refine (sNew w).mono ?_
    rintro e v1 ⟨rfl, h1, o1⟩
    have H1 := Lib.hid (qsnd_new h1 o1)
    clear h1 o1
    go_wp2_with fail
    generalize v1.alloc (.cells #[.slice none 0 0, .int .u64 0, .int .u64 0] 29) = V1 at *
    refine (sAwake _).mono ?_
    rintro e v2 ⟨rfl, o2⟩
    have H2 := Lib.hid (H1.out.only0 o2)
    clear o2 H1
    go_wp2_with fail
    refine (QSnd.some H2.out).mono ?_
    rintro e v3 ⟨rfl, O3, P3, h3⟩
    have H3 := Lib.hid h3
    have hl3 := Lib.hid someS_len
    clear h3 H2
    go_wp2_with fail
    go_loopg [7] (len0 + 1) (fun gk si wr => ∃ (p : Nat) (S : Sq) (O P : List Nat), si = .int .i64 (p : Int) ∧ p ≤ len0 ∧ p ≤ 80 ∧ len0 + 1 ≤ gk + p ∧ S.l.length ≤ 4 + p ∧ Hid (QSnd w wr w.heap.size v1.heap.size S O P))
    case atStart => exact ⟨0, _, _, _, rfl, by omega, by omega, by omega, hl3.out, H3⟩
    case round =>
      obtain ⟨p, S, O, P, rfl, hp, hp80, hg, hSl, hS⟩ := hrel
      clear H3 hl3
      by_cases hc : p < len0 ∧ p < 80
      · have c1 : (p : Int) < (len0 : Int) := by omega
        have c2 : (p : Int) < 80 := by omega
        obtain ⟨hdok, ad, bb, o, s, rfl, hadd, r0, r1, r2, r3, r4, r5, r6⟩ := W0.out.at_ hS.out.only hc.1
        obtain ⟨d, ed⟩ : ∃ d, z0 p = d := ⟨_, rfl⟩
        rw [ed] at r0 r1 r2 r3 r4 r5 r6 hdok
        have hst := Lib.hid (hS.out.step d hdok (by omega))
        have hal := Lib.hid (d.act_len S)
        clear ed
        go_wp2_with fail
        refine hst.out.mono ?_
        rintro e u1 ⟨rfl, O2, P2, h2⟩
        have hlk := Lib.hid h2.looks
        clear h2 r0 r1 r2 r3 r4 r5 r6 hst
        go_wp2_with fail
        refine hlk.out.mono ?_
        rintro e u2 ⟨rfl, h3⟩
        have H3 := Lib.hid h3
        clear h3 hlk
        go_wp2_with fail
        go_roundg (len0 + 1 - (p + 1))
        case measure => omega
        case rel => exact ⟨p + 1, _, O2, P2, by simp, by omega, by omega, by omega, by have := hal.out; omega, H3⟩
      · have hcd : (decide ((p : Int) < (len0 : Int)) = false ∧ ¬ ((p : Int) < (len0 : Int))) ∨ ((p : Int) < (len0 : Int) ∧ decide ((p : Int) < 80) = false) := by
          have hce : ¬ p < len0 ∨ (p < len0 ∧ ¬ p < 80) := by omega
          rcases hce with h9 | h9
          · exact .inl ⟨decide_eq_false (by omega), by omega⟩
          · exact .inr ⟨by omega, decide_eq_false (by omega)⟩
        clear hc
        rcases hcd with ⟨h1, h2⟩ | ⟨h1, h2⟩
        all_goals
          go_wp2_with fail
          go_ret
          exact ⟨rfl, hS.out.only.below (Nat.le_refl _) (by simp)⟩

/-! ### The step from the walk to the statement -/
set_option maxRecDepth 100000 in
theorem lifted (os : Os) (started : os.Started) (H : Type) (enc : TypeId × Value → H) :
    ReturnsInHanded {} Try.checked os 3 .any (Rows.sfqPlaysSpec.pre6 enc Try.prog Try.f3 Rows.sfqPlaysRow.domain false) (Rows.sfqPlaysSpec.post enc Try.prog Try.f3 false true false false) := by
  refine returnsInHanded_of_change (C := Try.checked) own started (by kernel_rfl) Try.func3
    (ChangeSpec.witness6 (enc := enc) (C := Try.checked) false ⟨#[], #[.slice none 0 0, .bool false], []⟩ 8 (by kernel_rfl) (by kernel_rfl) (by kernel_rfl) (by kernel_rfl)) ?_
  intro W base args ds gs before hval0 hW hcnd _
  have hval : ∀ (j : Nat) t v, Try.f3.params[j]? = some t → args[j]? = some v → Value.okWide Try.prog W .any base t v := hval0
  have hW' := hW
  obtain ⟨p, q, hA0, hV, rfl, hfz, hnd⟩ := hW
  have hA : DataW.TrodAll enc Try.prog W 0 (fun _ => true) true Try.f3.params.toList args.toList ds p := hA0
  rw [Try.params3] at hA hval
  obtain ⟨v0, vs0, d0, ds0, p0, q0, hargs, rfl, rfl, h0, r0⟩ := trodAll_cons hA
  obtain ⟨v1, vs1, d1, ds1, p1, q1, rfl, rfl, rfl, h1, r1⟩ := trodAll_cons r0
  obtain ⟨rfl, rfl, rfl⟩ := trodAll_nil r1
  obtain rfl : args = #[v0, v1] := by cases args; simp_all
  obtain ⟨rfl, rfl⟩ := trodVars_none hV
  obtain ⟨a0, len0, cap0, rfl⟩ := okWide_slice Try.underlying22 (hval 0 22 v0 rfl rfl)
  have k0 := h0
  have lt0 : ∀ x ∈ p0, x.block < W.heap.size := by obtain ⟨m, hm⟩ := k0; exact DataW.trod_lt m _ _ _ hm
  obtain ⟨z0, w0⟩ : ∃ z, InAxs W a0 len0 z := by
    obtain ⟨fuel, hf⟩ := h0
    exact open_axs hf
  obtain ⟨a1, rfl, rfl, rfl⟩ := open_bool Try.underlying4 (hval 1 4 v1 rfl rfl) h1
  clear hA0 hval0
  refine (walk a0 len0 cap0 z0 a1 W w0).mono fun e W' ⟨he, bel⟩ => ?_
  subst he
  exact ⟨_, rfl, _, _, _, [], _, [], hW', trodAll_mk1 (shut_bool Try.underlying4 _), (trodAll_cons_mk (Below.trod laidOut (by kernel_rfl) (of_decide_eq_true (by kernel_rfl)) k0 bel lt0) (trodAll_cons_mk (shut_bool Try.underlying4 _) trodAll_mk0)), rfl, bel.frame _, fun h => by cases h⟩

theorem over : Rows.sfqPlaysRow.holds Try.pinned (OpenSpec.ofChange Rows.sfqPlaysSpec) :=
  OpenClaim.holds_of_wide 3 Try.f3 rfl rfl rfl rfl rfl rfl rfl ⟨rfl, rfl, rfl, rfl, rfl⟩ rfl rfl rfl rfl rfl (by kernel_rfl) Try.func3 (by kernel_rfl)
    (of_decide_eq_true (by kernel_rfl)) (by unfold Func.isWrapper; first | (rw [if_pos (by decide +kernel)]; kernel_rfl) | (rw [if_neg (by decide +kernel)]; exact ⟨rfl, rfl⟩))
    (fun os started H enc _ => lifted os started H enc)

/-- The statement. -/
theorem proved : Rows.SfqPlaysSaid := over
#print axioms proved
end Go.Proofs.Ytjmnklmomdfpfaa.sfqPlays
