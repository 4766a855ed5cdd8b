/-
  weighbridgelaw07.TourPlays returns true for every input, and leaves its arguments as they were. No condition but that the arguments are values of their types.
-/
import Derived.Test.YtjblafpbffkapaaRows
import Derived.Test.YtjblafpbffkapaaTourT2
import Derived.Test.YtjblafpbffkapaaTourO
import Derived.WalkKit
import Derived.ProofKit
import Derived.OpenShut
import Derived.ChangeOld
import Derived.Below
namespace Go.Proofs.Ytjblafpbffkapaa.tourPlays
open Go.ChangeShapes Go.WideShapes Go.ChangeAt Go.RowKit
set_option linter.unusedVariables false
set_option linter.unusedSimpArgs false

set_option maxRecDepth 100000 in
set_option maxHeartbeats 8000000 in
theorem walk (a0 : Int) (a1 : Option Addr) (len1 cap1 : Nat) (z1 : Nat → Dd) (w : World) (w0 : (Lit.int .i64 a0).wf = true) (w1 : InDeeds w a1 len1 z1) :
    Calls Try.prog 3 #[.int .i64 a0, .slice a1 len1 cap1] w fun e w' => e = .returned (.bool true) ∧ Below w.heap.size w w' := by
  have W1 := Lib.hid w1
  clear w1
  go_enter Try.func3, Try.ntmps3
  go_wp2_with fail
  refine (tMade_sound a0 _).mono ?_
  rintro e v1 ⟨tb, xb, rfl, ib, nb, hb, yb, n, h1⟩
  have c0 := h1.c0
  have hn := h1.pair.n16
  have H1 := Lib.hid h1
  clear h1
  go_wp2_with fail
  go_region_held3 (fun w' => w'.cell? ⟨xb, 0, none⟩ = some (.slice (some ⟨hb, 0, none⟩) n n))
    (first | go_keep | (exact k0) | (exact k1))
    (first
      | (go_at_call 10; refine (tAwake _).mono ?_; rintro e u1 ⟨rfl, o1⟩; have k0 := o1.stay (p := ⟨xb, 0, none⟩) (v := .slice (some ⟨hb, 0, none⟩) n n) (by exact c0); have O1 := Lib.hid ((Only.refl [] v1).drew.trans' o1); clear o1)
      | (go_at_call 11; refine (H1.out.len _ O1.out).mono ?_; rintro e u1 ⟨rfl, rfl⟩)
      | (go_at_call 12; refine (H1.out.won _ O1.out).mono ?_; rintro e u2 ⟨rfl, o2⟩; have k1 := o2.stay k0; have O2 := Lib.hid (O1.out.trans' o2); clear o2))
  have H2 := Lib.hid (H1.out.only0 O2.out)
  clear H1 c0 O1
  go_wp2_with fail
  go_loopg [7] (len1 + 1) (fun gk si wr => ∃ (p : Nat) (hs : Nat → Bool) (g : Nat → It), si = .int .i64 (p : Int) ∧ p ≤ len1 ∧ p ≤ 80 ∧ len1 + 1 ≤ gk + p ∧ Hid (TSound w wr tb ib nb xb hb yb n hs g))
  case atStart => exact ⟨0, _, _, rfl, by omega, by omega, by omega, H2⟩
  case round =>
    obtain ⟨p, hs, g, rfl, hp, hp80, hg, hS⟩ := hrel
    clear H2
    by_cases hc : p < len1 ∧ p < 80
    · have c1 : (p : Int) < (len1 : Int) := by omega
      have c2 : (p : Int) < 80 := by omega
      obtain ⟨hdok, ad, b, o, s, rfl, hadd, hbw, q0, q1, q2⟩ := W1.out p hc.1
      obtain ⟨d, ed⟩ : ∃ d, z1 p = d := ⟨_, rfl⟩
      rw [ed] at q0 q1 q2 hdok
      have r0 := hS.out.only.stay q0
      have r1 := hS.out.only.stay q1
      have r2 := hS.out.only.stay q2
      have hst := Lib.hid (hS.out.step d hdok wr (Only.refl _ _))
      clear q0 q1 q2 ed hbw hc
      go_wp2_with fail
      refine hst.out.mono ?_
      rintro e u1 ⟨rfl, ⟨hs2, g2, h2⟩, -⟩
      have hwo := Lib.hid (h2.won u1 (Only.refl _ _))
      have H2 := Lib.hid h2
      clear h2 r0 r1 r2 hst
      go_wp2_with fail
      refine hwo.out.mono ?_
      rintro e u2 ⟨rfl, o2⟩
      have H3 := Lib.hid (H2.out.only0 o2)
      clear o2 hwo H2
      go_wp2_with fail
      go_roundg (len1 + 1 - (p + 1))
      case measure => omega
      case rel => exact ⟨p + 1, hs2, g2, by simp, by omega, by omega, by omega, H3⟩
    · have c0 := hS.out.c0
      have hle := Lib.hid (fun W o => hS.out.len W o)
      have hcd : (decide ((p : Int) < (len1 : Int)) = false ∧ ¬ ((p : Int) < (len1 : Int))) ∨ ((p : Int) < (len1 : Int) ∧ decide ((p : Int) < 80) = false) := by
        have hce : ¬ p < len1 ∨ (p < len1 ∧ ¬ p < 80) := by omega
        rcases hce with h9 | h9
        · exact .inl ⟨decide_eq_false (by omega), by omega⟩
        · exact .inr ⟨by omega, decide_eq_false (by omega)⟩
      clear hc hp
      rcases hcd with ⟨c1, c2⟩ | ⟨c1, c2⟩
      all_goals
        go_wp2_with fail
        go_quiet ((go_at_call 11; exact Calls.quiet_of_same (hle.out _ ((Only.refl [] wr).drewN _))))
        go_wp2_with fail
        go_ret
        exact ⟨by simp, (hS.out.only.drewN _).below (Nat.le_refl _) (by simp)⟩

/-! ### The step from the walk to the statement -/
set_option maxRecDepth 100000 in
theorem lifted (os : Os) (started : os.Started) (H : Type) (enc : TypeId × Value → H) :
    ReturnsInHanded {} Try.checked os 3 .any (Rows.tourPlaysSpec.pre6 enc Try.prog Try.f3 Rows.tourPlaysRow.domain false) (Rows.tourPlaysSpec.post enc Try.prog Try.f3 false true false false) := by
  refine returnsInHanded_of_change (C := Try.checked) own started (by kernel_rfl) Try.func3
    (ChangeSpec.witness6 (enc := enc) (C := Try.checked) false ⟨#[], #[.int .i64 0, .slice none 0 0], []⟩ 8 (by kernel_rfl) (by kernel_rfl) (by kernel_rfl) (by kernel_rfl)) ?_
  intro W base args ds gs before hval0 hW hcnd _
  have hval : ∀ (j : Nat) t v, Try.f3.params[j]? = some t → args[j]? = some v → Value.okWide Try.prog W .any base t v := hval0
  have hW' := hW
  obtain ⟨p, q, hA0, hV, rfl, hfz, hnd⟩ := hW
  have hA : DataW.TrodAll enc Try.prog W 0 (fun _ => true) true Try.f3.params.toList args.toList ds p := hA0
  rw [Try.params3] at hA hval
  obtain ⟨v0, vs0, d0, ds0, p0, q0, hargs, rfl, rfl, h0, r0⟩ := trodAll_cons hA
  obtain ⟨v1, vs1, d1, ds1, p1, q1, rfl, rfl, rfl, h1, r1⟩ := trodAll_cons r0
  obtain ⟨rfl, rfl, rfl⟩ := trodAll_nil r1
  obtain rfl : args = #[v0, v1] := by cases args; simp_all
  obtain ⟨rfl, rfl⟩ := trodVars_none hV
  obtain ⟨a0, rfl, rfl, rfl, w0⟩ := open_int Try.underlying3 (hval 0 3 v0 rfl rfl) h0
  obtain ⟨a1, len1, cap1, rfl⟩ := okWide_slice Try.underlying22 (hval 1 22 v1 rfl rfl)
  have k1 := h1
  have lt1 : ∀ x ∈ p1, x.block < W.heap.size := by obtain ⟨m, hm⟩ := k1; exact DataW.trod_lt m _ _ _ hm
  obtain ⟨z1, w1⟩ : ∃ z, InDeeds W a1 len1 z := by
    obtain ⟨fuel, hf⟩ := h1
    exact open_deeds hf
  clear hA0 hval0
  refine (walk a0 a1 len1 cap1 z1 W w0 w1).mono fun e W' ⟨he, bel⟩ => ?_
  subst he
  exact ⟨_, rfl, _, _, _, [], _, [], hW', trodAll_mk1 (shut_bool Try.underlying4 _), (trodAll_cons_mk (shut_int Try.underlying3 w0) (trodAll_cons_mk (Below.trod laidOut (by kernel_rfl) (of_decide_eq_true (by kernel_rfl)) k1 bel lt1) trodAll_mk0)), rfl, bel.frame _, fun h => by cases h⟩

theorem over : Rows.tourPlaysRow.holds Try.pinned (OpenSpec.ofChange Rows.tourPlaysSpec) :=
  OpenClaim.holds_of_wide 3 Try.f3 rfl rfl rfl rfl rfl rfl rfl ⟨rfl, rfl, rfl, rfl, rfl⟩ rfl rfl rfl rfl rfl (by kernel_rfl) Try.func3 (by kernel_rfl)
    (of_decide_eq_true (by kernel_rfl)) (by unfold Func.isWrapper; first | (rw [if_pos (by decide +kernel)]; kernel_rfl) | (rw [if_neg (by decide +kernel)]; exact ⟨rfl, rfl⟩))
    (fun os started H enc _ => lifted os started H enc)

/-- The statement. -/
theorem proved : Rows.TourPlaysSaid := over
#print axioms proved
end Go.Proofs.Ytjblafpbffkapaa.tourPlays
