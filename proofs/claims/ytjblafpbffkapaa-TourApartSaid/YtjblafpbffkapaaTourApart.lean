/-
  weighbridgelaw07.TourApart returns true for every input, and leaves its arguments as they were. No condition but that the arguments are values of their types.
-/
import Derived.Test.YtjblafpbffkapaaRows
import Derived.Test.YtjblafpbffkapaaTourT2
import Derived.Test.YtjblafpbffkapaaTourO
import Derived.WalkKit
import Derived.ProofKit
import Derived.OpenShut
import Derived.ChangeOld
import Derived.Below
namespace Go.Proofs.Ytjblafpbffkapaa.tourApart
open Go.ChangeShapes Go.WideShapes Go.ChangeAt Go.RowKit
set_option linter.unusedVariables false
set_option linter.unusedSimpArgs false

set_option maxRecDepth 100000 in
set_option maxHeartbeats 8000000 in
theorem walk (a0 : Int) (a1 : Option Addr) (len1 cap1 : Nat) (z1 : Nat → Dd) (a2 : Option Addr) (len2 cap2 : Nat) (z2 : Nat → Dd) (w : World) (w0 : (Lit.int .i64 a0).wf = true) (w1 : InDeeds w a1 len1 z1) (w2 : InDeeds w a2 len2 z2) :
    Calls Try.prog 8 #[.int .i64 a0, .slice a1 len1 cap1, .slice a2 len2 cap2] w fun e w' => e = .returned (.bool true) ∧ Below w.heap.size w w' := by
  have W1 := Lib.hid w1
  have W2 := Lib.hid w2
  clear w1 w2
  go_enter Try.func8, Try.ntmps8
  go_wp2_with fail
  refine (tMade_sound a0 _).mono ?_
  rintro e v1 ⟨tb, xb, rfl, ib, nb, hb, yb, n, h1⟩
  have H1 := Lib.hid h1
  clear h1
  go_wp2_with fail
  refine (tMade_sound a0 _).mono ?_
  rintro e v2 ⟨tb', xb', rfl, ib', nb', hb', yb', n', h2⟩
  have H2 : Hid (TTwo w v2 tb ib nb xb hb yb n (fun _ => false) (fun _ => ⟨0, 0⟩) tb' ib' nb' xb' hb' yb' n' (fun _ => false) (fun _ => ⟨0, 0⟩)) := by
    refine ⟨H1.out.only0 h2.only, ⟨h2.pair, fun b hb => Nat.le_trans H1.out.only.size (h2.new b hb), H1.out.only.trans' h2.only⟩, fun x hx hc => ?_⟩
    have h8 := H1.out.pair.lt x hx
    have := h2.new x hc
    omega
  clear h2 H1
  go_wp2_with fail
  refine (tAwake _).mono ?_
  rintro e v3 ⟨rfl, o3⟩
  have H3 := Lib.hid (H2.out.only0 o3)
  clear H2 o3
  go_wp2_with fail
  go_loopg [11] (len1 + 1) (fun gk si wr => ∃ (p : Nat) (hs : Nat → Bool) (g : Nat → It) (hs' : Nat → Bool) (g' : Nat → It), si = .int .i64 (p : Int) ∧ p ≤ len1 ∧ p ≤ 40 ∧ len1 + 1 ≤ gk + p ∧ Hid (TTwo w wr tb ib nb xb hb yb n hs g tb' ib' nb' xb' hb' yb' n' hs' g'))
  case atStart => exact ⟨0, _, _, _, _, rfl, by omega, by omega, by omega, H3⟩
  case round =>
    obtain ⟨p, hs, g, hs', g', rfl, hp, hp80, hg, hS⟩ := hrel
    clear H3
    by_cases hc : p < len1 ∧ p < 40
    · have c1 : (p : Int) < (len1 : Int) := by omega
      have c2 : (p : Int) < 40 := by omega
      obtain ⟨hdok, ad, b, o, s, rfl, hadd, hbw, q0, q1, q2⟩ := W1.out p hc.1
      obtain ⟨d, ed⟩ : ∃ d, z1 p = d := ⟨_, rfl⟩
      rw [ed] at q0 q1 q2 hdok
      have r0 := hS.out.a.only.stay q0
      have r1 := hS.out.a.only.stay q1
      have r2 := hS.out.a.only.stay q2
      have hst := Lib.hid (hS.out.step d hdok)
      have hpl : p + 1 ≤ len1 ∧ p + 1 ≤ 40 := by omega
      clear q0 q1 q2 ed hbw
      by_cases hm : p < len2
      · have c3 : (p : Int) < (len2 : Int) := by omega
        obtain ⟨hdok', ad', b', o', s', rfl, hadd', hbw', g0, g1, g2⟩ := W2.out p hm
        obtain ⟨d', ed'⟩ : ∃ d', z2 p = d' := ⟨_, rfl⟩
        rw [ed'] at g0 g1 g2 hdok'
        have G := Lib.hid (And.intro g0 (And.intro g1 g2))
        clear g0 g1 g2 ed' hbw' hc hm
        go_wp2_with fail
        refine hst.out.mono ?_
        rintro e u1 ⟨rfl, hs2, f2, h2⟩
        have s0 := h2.a.only.stay G.out.1
        have s1 := h2.a.only.stay G.out.2.1
        have s2 := h2.a.only.stay G.out.2.2
        have hst2 := Lib.hid (h2.swap.step d' hdok')
        clear h2 hst r0 r1 r2
        go_wp2_with fail
        refine hst2.out.mono ?_
        rintro e u2 ⟨rfl, hs3, f3, h3⟩
        have wo1 := Lib.hid (h3.b.won u2 (Only.refl _ _))
        have H3 := Lib.hid h3.swap
        clear h3 hst2 s0 s1 s2
        go_wp2_with fail
        refine wo1.out.mono ?_
        rintro e u3 ⟨rfl, o3⟩
        have H4 := Lib.hid (H3.out.only0 o3)
        have wo2 := Lib.hid (H4.out.b.won u3 (Only.refl _ _))
        clear o3 wo1 H3
        go_wp2_with fail
        refine wo2.out.mono ?_
        rintro e u4 ⟨rfl, o4⟩
        have H5 := Lib.hid (H4.out.only0 o4)
        clear o4 wo2 H4
        go_wp2_with fail
        go_roundg (len1 + 1 - (p + 1))
        case measure => omega
        case rel => exact ⟨p + 1, _, _, _, _, by simp, by omega, by omega, by omega, H5⟩
      · have c3 : decide ((p : Int) < (len2 : Int)) = false := decide_eq_false (by omega)
        have c4 : ¬ ((p : Int) < (len2 : Int)) := by omega
        clear hc hm
        go_wp2_with fail
        refine hst.out.mono ?_
        rintro e u1 ⟨rfl, hs2, f2, h2⟩
        have wo1 := Lib.hid (h2.a.won u1 (Only.refl _ _))
        have H3 := Lib.hid h2
        clear h2 hst r0 r1 r2
        go_wp2_with fail
        refine wo1.out.mono ?_
        rintro e u3 ⟨rfl, o3⟩
        have H4 := Lib.hid (H3.out.only0 o3)
        have wo2 := Lib.hid (H4.out.b.won u3 (Only.refl _ _))
        clear o3 wo1 H3
        go_wp2_with fail
        refine wo2.out.mono ?_
        rintro e u4 ⟨rfl, o4⟩
        have H5 := Lib.hid (H4.out.only0 o4)
        clear o4 wo2 H4
        go_wp2_with fail
        go_roundg (len1 + 1 - (p + 1))
        case measure => omega
        case rel => exact ⟨p + 1, _, _, _, _, by simp, by omega, by omega, by omega, H5⟩
    · have hcd : (decide ((p : Int) < (len1 : Int)) = false ∧ ¬ ((p : Int) < (len1 : Int))) ∨ ((p : Int) < (len1 : Int) ∧ decide ((p : Int) < 40) = false) := by
        have hce : ¬ p < len1 ∨ (p < len1 ∧ ¬ p < 40) := by omega
        rcases hce with h9 | h9
        · exact .inl ⟨decide_eq_false (by omega), by omega⟩
        · exact .inr ⟨by omega, decide_eq_false (by omega)⟩
      clear hc hp
      rcases hcd with ⟨c1, c2⟩ | ⟨c1, c2⟩
      all_goals
        go_wp2_with fail
        go_ret
        exact ⟨by simp, hS.out.a.only.below (Nat.le_refl _) (by simp)⟩

/-! ### The step from the walk to the statement -/
set_option maxRecDepth 100000 in
theorem lifted (os : Os) (started : os.Started) (H : Type) (enc : TypeId × Value → H) :
    ReturnsInHanded {} Try.checked os 8 .any (Rows.tourApartSpec.pre6 enc Try.prog Try.f8 Rows.tourApartRow.domain false) (Rows.tourApartSpec.post enc Try.prog Try.f8 false true false false) := by
  refine returnsInHanded_of_change (C := Try.checked) own started (by kernel_rfl) Try.func8
    (ChangeSpec.witness6 (enc := enc) (C := Try.checked) false ⟨#[], #[.int .i64 0, .slice none 0 0, .slice none 0 0], []⟩ 8 (by kernel_rfl) (by kernel_rfl) (by kernel_rfl) (by kernel_rfl)) ?_
  intro W base args ds gs before hval0 hW hcnd _
  have hval : ∀ (j : Nat) t v, Try.f8.params[j]? = some t → args[j]? = some v → Value.okWide Try.prog W .any base t v := hval0
  have hW' := hW
  obtain ⟨p, q, hA0, hV, rfl, hfz, hnd⟩ := hW
  have hA : DataW.TrodAll enc Try.prog W 0 (fun _ => true) true Try.f8.params.toList args.toList ds p := hA0
  rw [Try.params8] at hA hval
  obtain ⟨v0, vs0, d0, ds0, p0, q0, hargs, rfl, rfl, h0, r0⟩ := trodAll_cons hA
  obtain ⟨v1, vs1, d1, ds1, p1, q1, rfl, rfl, rfl, h1, r1⟩ := trodAll_cons r0
  obtain ⟨v2, vs2, d2, ds2, p2, q2, rfl, rfl, rfl, h2, r2⟩ := trodAll_cons r1
  obtain ⟨rfl, rfl, rfl⟩ := trodAll_nil r2
  obtain rfl : args = #[v0, v1, v2] := by cases args; simp_all
  obtain ⟨rfl, rfl⟩ := trodVars_none hV
  obtain ⟨a0, rfl, rfl, rfl, w0⟩ := open_int Try.underlying3 (hval 0 3 v0 rfl rfl) h0
  obtain ⟨a1, len1, cap1, rfl⟩ := okWide_slice Try.underlying22 (hval 1 22 v1 rfl rfl)
  have k1 := h1
  have lt1 : ∀ x ∈ p1, x.block < W.heap.size := by obtain ⟨m, hm⟩ := k1; exact DataW.trod_lt m _ _ _ hm
  obtain ⟨z1, w1⟩ : ∃ z, InDeeds W a1 len1 z := by
    obtain ⟨fuel, hf⟩ := h1
    exact open_deeds hf
  obtain ⟨a2, len2, cap2, rfl⟩ := okWide_slice Try.underlying22 (hval 2 22 v2 rfl rfl)
  have k2 := h2
  have lt2 : ∀ x ∈ p2, x.block < W.heap.size := by obtain ⟨m, hm⟩ := k2; exact DataW.trod_lt m _ _ _ hm
  obtain ⟨z2, w2⟩ : ∃ z, InDeeds W a2 len2 z := by
    obtain ⟨fuel, hf⟩ := h2
    exact open_deeds hf
  clear hA0 hval0
  refine (walk a0 a1 len1 cap1 z1 a2 len2 cap2 z2 W w0 w1 w2).mono fun e W' ⟨he, bel⟩ => ?_
  subst he
  exact ⟨_, rfl, _, _, _, [], _, [], hW', trodAll_mk1 (shut_bool Try.underlying4 _), (trodAll_cons_mk (shut_int Try.underlying3 w0) (trodAll_cons_mk (Below.trod laidOut (by kernel_rfl) (of_decide_eq_true (by kernel_rfl)) k1 bel lt1) (trodAll_cons_mk (Below.trod laidOut (by kernel_rfl) (of_decide_eq_true (by kernel_rfl)) k2 bel lt2) trodAll_mk0))), rfl, bel.frame _, fun h => by cases h⟩

theorem over : Rows.tourApartRow.holds Try.pinned (OpenSpec.ofChange Rows.tourApartSpec) :=
  OpenClaim.holds_of_wide 8 Try.f8 rfl rfl rfl rfl rfl rfl rfl ⟨rfl, rfl, rfl, rfl, rfl⟩ rfl rfl rfl rfl rfl (by kernel_rfl) Try.func8 (by kernel_rfl)
    (of_decide_eq_true (by kernel_rfl)) (by unfold Func.isWrapper; first | (rw [if_pos (by decide +kernel)]; kernel_rfl) | (rw [if_neg (by decide +kernel)]; exact ⟨rfl, rfl⟩))
    (fun os started H enc _ => lifted os started H enc)

/-- The statement. -/
theorem proved : Rows.TourApartSaid := over
#print axioms proved
end Go.Proofs.Ytjblafpbffkapaa.tourApart
