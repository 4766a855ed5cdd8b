/-
  weighbridgelaw09.FlowCosts returns true for every input, and leaves its arguments as they were. No condition but that the arguments are values of their types.
-/
import Derived.Test.YtgncjgjkfmpegaaRows
import Derived.Test.YtgncjgjkfmpegaaFlowT
import Derived.WalkKit
import Derived.ProofKit
import Derived.OpenShut
import Derived.ChangeOld
import Derived.Below
namespace Go.Proofs.Ytgncjgjkfmpegaa.flowCosts
open Go.ChangeShapes Go.WideShapes Go.ChangeAt Go.RowKit
set_option linter.unusedVariables false
set_option linter.unusedSimpArgs false

set_option maxRecDepth 100000 in
set_option maxHeartbeats 8000000 in
theorem walk (a0 : Int) (a1 : Int) (a2 : Option Addr) (len2 cap2 : Nat) (z2 : Nat → Int) (w : World) (w0 : (Lit.int .u64 a0).wf = true) (w1 : (Lit.int .u64 a1).wf = true) (w2 : InNums .i64 w a2 len2 z2) :
    Calls Try.prog 7 #[.int .u64 a0, .int .u64 a1, .slice a2 len2 cap2] w fun e w' => e = .returned (.bool true) ∧ Below w.heap.size w w' := by
  have hr := U64.of_wf w0
  have hv := U64.of_wf w1
  have W2 := Lib.hid w2
  have r2 : room 2 = 2 := by decide
  have hn0 := new_one w a0 2 hr
  rw [r2] at hn0
  clear w0 w1 w2 r2
  go_enter Try.func7, Try.ntmps7
  go_wp2_with fail
  refine hn0.mono ?_
  rintro e v1 ⟨rfl, h1⟩
  have H1 := Lib.hid h1
  clear h1 hn0
  generalize w.heap.size = b at *
  go_wp2_with fail
  refine (fAwake _).mono ?_
  rintro e v2 ⟨rfl, o2⟩
  have h2 := H1.out.only0 o2
  have har := h2.arrive a1 hv Pk.none Pk.none_ok
  have ht : (Fl.new a0 2).takes = true := rfl
  rw [ht, Fl.arr_in ht] at har
  have HAR := Lib.hid har
  clear o2 H1 h2 har ht
  go_wp2_with fail
  refine HAR.out.mono ?_
  rintro e v3 ⟨rfl, O3, h3, -⟩
  have H3 : Hid (∃ F : Fl, ∃ O, FOne w v3 b F O ∧ F.r = a0 ∧ F.n = 2 ∧ (∃ y, F.l = [y]) ∧ F.fin = a1 ∧ U64 a1) := by
    refine ⟨_, O3, h3, rfl, rfl, ⟨Pk.none, rfl⟩, ?_, hv⟩
    show addM (max a1 0) (costM 0 a0) = a1
    have e1 : max a1 0 = a1 := by have := hv.1; omega
    have e2 : costM 0 a0 = 0 := cost_nought a0 (by omega)
    rw [e1, e2]
    unfold addM
    rw [if_pos (by have := hv.2; omega)]
    omega
  clear h3 HAR
  go_wp2_with fail
  go_loopg [9, 8] (len2 + 1) (fun gk si ss wr => ∃ (p : Nat) (sum : Int), si = .int .i64 (p : Int) ∧ ss = .int .u64 sum ∧ p ≤ len2 ∧ p ≤ 40 ∧ len2 + 1 ≤ gk + p ∧ Hid (∃ F : Fl, ∃ O, FOne w wr b F O ∧ F.r = a0 ∧ F.n = 2 ∧ (∃ y, F.l = [y]) ∧ F.fin = sum ∧ U64 sum))
  case atStart => exact ⟨0, a1, rfl, rfl, by omega, by omega, by omega, H3⟩
  case round =>
    obtain ⟨p, sum, rfl, rfl, hp, hp40, hg, hS⟩ := hrel
    clear H3
    obtain ⟨F, O, hF, hFr, hFn, ⟨y, hFl⟩, hfin, hsum⟩ := hS.out
    by_cases hc : p < len2 ∧ p < 40
    · have c1 : (p : Int) < (len2 : Int) := by omega
      have c2 : (p : Int) < 40 := by omega
      obtain ⟨hzok, ad, rfl, hbw, q0⟩ := W2.out p hc.1
      have r0 := hF.only.stays q0
      obtain ⟨z, ez⟩ : ∃ z, z2 p = z := ⟨_, rfl⟩
      rw [ez] at r0 hzok
      have hxok : (⟨0, z, 0⟩ : Pk).ok := pk_ok z (i64_to hzok)
      have har := hF.arrive 0 U64.zero ⟨0, z, 0⟩ hxok
      have ht := Fl.takes_lt hF.fl.1 (by rw [hFl, hFn]; simp)
      rw [ht, Fl.arr_in ht] at har
      have EZ := Lib.hid ez
      have HAR := Lib.hid har
      have HF := Lib.hid (And.intro hFr (And.intro hFn (And.intro hFl (And.intro hfin hsum))))
      have hz2 := i64_to hzok
      clear har ht q0 ez hbw hc hS hF hFr hFn hFl hfin hsum hxok
      go_wp2_with fail
      refine HAR.out.mono ?_
      rintro e u1 ⟨rfl, O2, k1, -⟩
      obtain ⟨hFr, hFn, hFl, hfin, hsum⟩ := HF.out
      have hsv := k1.serve
      have eL : (F.l ++ [(⟨0, z, 0⟩ : Pk)]) = y :: [⟨0, z, 0⟩] := by rw [hFl]; rfl
      have eS : (if F.l = [] then max 0 F.e else F.s) = F.s := by rw [if_neg (by rw [hFl]; simp)]
      rw [eS, eL] at hsv
      have e1 : (⟨F.r, F.n, F.s, F.e, y :: [⟨0, z, 0⟩]⟩ : Fl).fin = sum := by
        rw [← hfin]
        show addM F.s (costM y.l F.r) = addM F.s (costM F.hd.l F.r)
        have : F.hd = y := by unfold Fl.hd; rw [hFl]; rfl
        rw [this]
      have e2 : (⟨F.r, F.n, F.s, F.e, y :: [⟨0, z, 0⟩]⟩ : Fl).out = sum := e1
      have e3 : (⟨F.r, F.n, F.s, F.e, y :: [⟨0, z, 0⟩]⟩ : Fl).any = true := rfl
      rw [e2, e3, Fl.srv_cons rfl, e1] at hsv
      have HSV := Lib.hid hsv
      clear hsv k1 HAR eL eS e1 e2 e3 hFr hFn hFl hfin hsum
      generalize (⟨F.r, F.n, F.s, F.e, y :: [⟨0, z, 0⟩]⟩ : Fl).hd = hd at *
      go_wp2_with fail
      refine HSV.out.mono ?_
      rintro e u2 ⟨rfl, O3, k2, -⟩
      have k3 := k2.only0 (w' := u2.alloc (.cells #[.int .i64 hd.f, .int .i64 hd.l, .int .i64 hd.m] 32)) ((Only.refl [] u2).alloc _)
      have K3 := Lib.hid k3
      obtain ⟨hFr, hFn, hFl, hfin, hsum⟩ := HF.out
      have hco := rcost_any z a0 (hs := hz2.1) (hs1 := hz2.2) (hr := hr.1) (hr1 := hr.2)
      have had := radd_any sum (costM z a0) (ha := hsum.1) (ha1 := hsum.2) (hb := (cost_word z a0 hr).1) (hb1 := (cost_word z a0 hr).2)
      have r1 := k3.only
      clear k2 k3 HSV hFr hFn hFl hfin r0 hsum
      obtain ⟨-, ad', e9, hbw, q0⟩ := W2.out p (by omega)
      injection e9 with e9
      subst e9
      rw [EZ.out] at q0
      have r0 := r1.stays q0
      clear q0 hbw r1
      go_wp2_with fail
      refine (hco _).mono ?_
      rintro e w' ⟨rfl, rfl⟩
      go_wp2_with fail
      refine (had _).mono ?_
      rintro e w' ⟨rfl, rfl⟩
      go_wp2_with fail
      go_roundg (len2 + 1 - (p + 1))
      case measure => omega
      case rel =>
        obtain ⟨hFr, hFn, hFl, hfin, hsum⟩ := HF.out
        refine ⟨p + 1, addM sum (costM z a0), by simp, rfl, by omega, by omega, by omega, _, O3, K3.out, hFr, hFn, ⟨_, rfl⟩, ?_, fin_word hsum z a0 hr⟩
        show addM sum (costM z F.r) = _
        rw [hFr]
    · have hcd : (decide ((p : Int) < (len2 : Int)) = false ∧ ¬ ((p : Int) < (len2 : Int))) ∨ ((p : Int) < (len2 : Int) ∧ decide ((p : Int) < 40) = false) := by
        have hce : ¬ p < len2 ∨ (p < len2 ∧ ¬ p < 40) := by omega
        rcases hce with h9 | h9
        · exact .inl ⟨decide_eq_false (by omega), by omega⟩
        · exact .inr ⟨by omega, decide_eq_false (by omega)⟩
      have hsv := hF.serve
      have hne : F.l ≠ [] := by rw [hFl]; simp
      have e1 : F.out = sum := by unfold Fl.out; rw [if_neg hne, hfin]
      rw [e1, Fl.any_cons hne, Fl.srv_cons hFl, hfin] at hsv
      have HSV := Lib.hid hsv
      generalize F.hd = hd at *
      clear hc hS hF hFl hfin hsum hsv hne e1 W2
      rcases hcd with ⟨h1, h2⟩ | ⟨h1, h2⟩
      all_goals
        go_wp2_with fail
        refine HSV.out.mono ?_
        rintro e u2 ⟨rfl, O3, k2, -⟩
        have k3 := k2.only0 (w' := u2.alloc (.cells #[.int .i64 hd.f, .int .i64 hd.l, .int .i64 hd.m] 32)) ((Only.refl [] u2).alloc _)
        have hfi := k3.finish
        simp only at hfi
        have K3 := Lib.hid k3
        clear k2 k3 HSV
        go_wp2_with fail
        refine hfi.mono ?_
        rintro e u3 ⟨rfl, rfl⟩
        go_wp2_with fail
        go_ret
        exact ⟨by simp, K3.out.only.below (Nat.le_refl _) (by simp)⟩

/-! ### The step from the walk to the statement -/
set_option maxRecDepth 100000 in
theorem lifted (os : Os) (started : os.Started) (H : Type) (enc : TypeId × Value → H) :
    ReturnsInHanded {} Try.checked os 7 .any (Rows.flowCostsSpec.pre6 enc Try.prog Try.f7 Rows.flowCostsRow.domain false) (Rows.flowCostsSpec.post enc Try.prog Try.f7 false true false false) := by
  refine returnsInHanded_of_change (C := Try.checked) own started (by kernel_rfl) Try.func7
    (ChangeSpec.witness6 (enc := enc) (C := Try.checked) false ⟨#[], #[.int .u64 0, .int .u64 0, .slice none 0 0], []⟩ 8 (by kernel_rfl) (by kernel_rfl) (by kernel_rfl) (by kernel_rfl)) ?_
  intro W base args ds gs before hval0 hW hcnd _
  have hval : ∀ (j : Nat) t v, Try.f7.params[j]? = some t → args[j]? = some v → Value.okWide Try.prog W .any base t v := hval0
  have hW' := hW
  obtain ⟨p, q, hA0, hV, rfl, hfz, hnd⟩ := hW
  have hA : DataW.TrodAll enc Try.prog W 0 (fun _ => true) true Try.f7.params.toList args.toList ds p := hA0
  rw [Try.params7] at hA hval
  obtain ⟨v0, vs0, d0, ds0, p0, q0, hargs, rfl, rfl, h0, r0⟩ := trodAll_cons hA
  obtain ⟨v1, vs1, d1, ds1, p1, q1, rfl, rfl, rfl, h1, r1⟩ := trodAll_cons r0
  obtain ⟨v2, vs2, d2, ds2, p2, q2, rfl, rfl, rfl, h2, r2⟩ := trodAll_cons r1
  obtain ⟨rfl, rfl, rfl⟩ := trodAll_nil r2
  obtain rfl : args = #[v0, v1, v2] := by cases args; simp_all
  obtain ⟨rfl, rfl⟩ := trodVars_none hV
  obtain ⟨a0, rfl, rfl, rfl, w0⟩ := open_int Try.underlying22 (hval 0 22 v0 rfl rfl) h0
  obtain ⟨a1, rfl, rfl, rfl, w1⟩ := open_int Try.underlying22 (hval 1 22 v1 rfl rfl) h1
  obtain ⟨a2, len2, cap2, rfl⟩ := okWide_slice Try.underlying49 (hval 2 49 v2 rfl rfl)
  have k2 := h2
  have lt2 : ∀ x ∈ p2, x.block < W.heap.size := by obtain ⟨m, hm⟩ := k2; exact DataW.trod_lt m _ _ _ hm
  obtain ⟨z2, w2⟩ : ∃ z, InNums .i64 W a2 len2 z := by
    obtain ⟨fuel, hf⟩ := h2
    exact open_numsF Try.underlying49 Try.underlying3 (by kernel_rfl) hf
  clear hA0 hval0
  refine (walk a0 a1 a2 len2 cap2 z2 W w0 w1 w2).mono fun e W' ⟨he, bel⟩ => ?_
  subst he
  exact ⟨_, rfl, _, _, _, [], _, [], hW', trodAll_mk1 (shut_bool Try.underlying4 _), (trodAll_cons_mk (shut_int Try.underlying22 w0) (trodAll_cons_mk (shut_int Try.underlying22 w1) (trodAll_cons_mk (Below.trod laidOut (by kernel_rfl) (of_decide_eq_true (by kernel_rfl)) k2 bel lt2) trodAll_mk0))), rfl, bel.frame _, fun h => by cases h⟩

theorem over : Rows.flowCostsRow.holds Try.pinned (OpenSpec.ofChange Rows.flowCostsSpec) :=
  OpenClaim.holds_of_wide 7 Try.f7 rfl rfl rfl rfl rfl rfl rfl ⟨rfl, rfl, rfl, rfl, rfl⟩ rfl rfl rfl rfl rfl (by kernel_rfl) Try.func7 (by kernel_rfl)
    (of_decide_eq_true (by kernel_rfl)) (by unfold Func.isWrapper; first | (rw [if_pos (by decide +kernel)]; kernel_rfl) | (rw [if_neg (by decide +kernel)]; exact ⟨rfl, rfl⟩))
    (fun os started H enc _ => lifted os started H enc)

/-- The statement. -/
theorem proved : Rows.FlowCostsSaid := over
#print axioms proved
end Go.Proofs.Ytgncjgjkfmpegaa.flowCosts
