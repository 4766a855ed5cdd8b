/-
  weighbridgelaw08.QueuePlays returns true for every input, and leaves its arguments as they were, where math/bits' table holds what the program's own text lays there (the card ties it). No other condition but that the arguments are values of their types.
-/
import Derived.Test.YtajhkdbldbifeaaGreatDoorRows
import Derived.Test.YtajhkdbldbifeaaGreatDoorTie
import Derived.Test.YtajhkdbldbifeaaGreatDoorCards
import Derived.Test.YtajhkdbldbifeaaGreatDoorQueueT
import Derived.ShutString
import Derived.ChangeOld
import Derived.Below
import Derived.SevenTiedAt
namespace Go.Proofs.YtajhkdbldbifeaaGreatDoor.queuePlays
open Go.ChangeShapes Go.WideShapes Go.ChangeAt Go.RowKit
set_option linter.unusedVariables false

set_option maxRecDepth 100000 in
set_option maxHeartbeats 8000000 in
theorem walk (a0 : Int) (a1 : Int) (a2 : Option Addr) (len2 cap2 : Nat) (z2 : Nat → Dd) (w : World) (w0 : (Lit.int .i64 a0).wf = true) (w1 : (Lit.int .i64 a1).wf = true) (w2 : InDeeds w a2 len2 z2) (hT : Tab w) :
    Calls Tryz.prog 3 #[.int .i64 a0, .int .i64 a1, .slice a2 len2 cap2] w fun e w' => e = .returned (.bool true) ∧ Below w.heap.size w w' := by
  have W2 := Lib.hid w2
  have HT := Lib.hid hT
  obtain ⟨qf, PL⟩ := kinds_are 8 (by omega) (by omega)
  have PL := Lib.hid PL
  clear w2 hT
  go_enter Tryz.func3, Tryz.ntmps3
  go_wp2_with fail
  refine (made_q w w (Only.refl [] w) a0 a1).mono ?_
  rintro e v1 ⟨qb, xb, rfl, n, wd, S1, T1, h1, -, -⟩
  have aw := hAwake8 v1 (HT.out.only0 h1.only)
  have n1 := h1.pair.ours.n1.1
  have n16 := h1.pair.ours.n1.2
  have H1 := Lib.hid h1
  clear h1
  go_wp2_with fail
  refine aw.mono ?_
  rintro e v2 ⟨rfl, o2⟩
  have H2 := Lib.hid (H1.out.only0 o2)
  clear H1 o2 aw
  go_wp2_with fail
  go_loopg [9] (len2 + 1) (fun gk si wr => ∃ (p : Nat) (S T : List Nat) (B : Nat → Int) (L : Nat → List It), si = .int .i64 (p : Int) ∧ p ≤ len2 ∧ p ≤ 80 ∧ len2 + 1 ≤ gk + p ∧ Hid (QSound w wr qb S xb T n wd B L ∧ ∀ i, (L i).length ≤ p))
  case atStart => exact ⟨0, S1, T1, _, _, rfl, by omega, by omega, by omega, H2.out, fun i => by simp⟩
  case round =>
    obtain ⟨p, S, T, B, L, rfl, hp, hp80, hg, hS⟩ := hrel
    clear H2
    by_cases hc : p < len2 ∧ p < 80
    · have c1 : (p : Int) < (len2 : Int) := by omega
      have c2 : (p : Int) < 80 := by omega
      obtain ⟨hdok, ad, b, o, s, rfl, hadd, hbw, q0, q1, q2⟩ := W2.out p hc.1
      obtain ⟨d, ed⟩ : ∃ d, z2 p = d := ⟨_, rfl⟩
      rw [ed] at q0 q1 q2 hdok
      have r0 := hS.out.1.only.stay q0
      have r1 := hS.out.1.only.stay q1
      have r2 := hS.out.1.only.stay q2
      have hst := hS.out.1.step HT.out (fun i => by have := hS.out.2 i; omega) d hdok PL.out
      clear q0 q1 q2 ed hbw hc
      go_wp2_with fail
      refine hst.mono ?_
      rintro e u1 ⟨rfl, B2, L2, hs2, S2, T2, h2, -, -, -⟩
      have hl2 : ∀ i, (L2 i).length ≤ p + 1 := fun i => Nat.le_trans (hs2.len i) (by have := hS.out.2 i; omega)
      have hcb := cat_bound h2 hl2 (by omega)
      have f1 := h2.len
      have HL2 := Lib.hid (And.intro hl2 hcb)
      have hml : (mergeM L2 n).length ≤ 16000 := by rw [merge_len]; exact hcb
      clear h2 hl2 hcb hst hs2 r0 r1 r2
      go_wp2_with fail
      refine f1.mono ?_
      rintro e u2 ⟨rfl, h3⟩
      have f2 := h3.refall (by have := HL2.out.2; omega)
      have H3 := Lib.hid h3
      clear h3 f1
      generalize (mergeM L2 n).length = m at *
      go_wp2_with fail
      refine f2.mono ?_
      rintro e u3 ⟨A3, cap3, rfl, -, o3⟩
      have h4 := H3.out.only0 o3
      have f3 := h4.bases
      have H4 := Lib.hid h4
      clear h4 f2 o3 H3
      go_wp2_with fail
      refine f3.mono ?_
      rintro e u4 ⟨g, rfl, a4, -, o4⟩
      have h5 := H4.out.only0 o4
      have f4 := h5.refbases
      have H5 := Lib.hid (And.intro h5 a4)
      clear h5 f3 o4 a4 H4
      go_wp2_with fail
      refine f4.mono ?_
      rintro e u5 ⟨A5, cap5, rfl, a5, o5⟩
      have f5 := uPlain _ _ n n cap5 (basesL B2 n) u5 (basesL_len B2 n) n1 (by omega) ((H5.out.2.only0 o5).uat) a5
      have H6 := Lib.hid (H5.out.1.only0 o5)
      clear f4 a5 o5 H5
      go_wp2_with fail
      refine f5.mono ?_
      rintro e u6 ⟨rfl, o6⟩
      have H7 := Lib.hid (H6.out.only0 o6)
      clear f5 o6 H6
      go_wp2_with fail
      go_roundg (len2 + 1 - (p + 1))
      case measure => omega
      case rel => exact ⟨p + 1, S2, T2, B2, L2, by simp, by omega, by omega, by omega, H7.out, HL2.out.1⟩
    · have hcb := cat_bound hS.out.1 hS.out.2 (by omega)
      have f1 := hS.out.1.all HT.out (by omega)
      have hml : (mergeM L n).length ≤ 16000 := by rw [merge_len]; exact hcb
      have hcd : (decide ((p : Int) < (len2 : Int)) = false ∧ ¬ ((p : Int) < (len2 : Int))) ∨ ((p : Int) < (len2 : Int) ∧ decide ((p : Int) < 80) = false) := by
        have hce : ¬ p < len2 ∨ (p < len2 ∧ ¬ p < 80) := by omega
        rcases hce with h9 | h9
        · exact .inl ⟨decide_eq_false (by omega), by omega⟩
        · exact .inr ⟨by omega, decide_eq_false (by omega)⟩
      clear hc hp
      rcases hcd with ⟨c1, c2⟩ | ⟨c1, c2⟩
      all_goals
        go_wp2_with fail
        refine f1.mono ?_
        rintro e u1 ⟨A1, cap1, rfl, r1, -, o1⟩
        have h2 := hS.out.1.only0 o1
        have f2 := h2.refall (by omega)
        have H2 := Lib.hid (And.intro h2 r1)
        clear h2 r1 o1 f1
        go_wp2_with fail
        refine f2.mono ?_
        rintro e u2 ⟨A2, cap2, rfl, r2, o2⟩
        have f3 := hPlain u2 _ _ (mergeM L n) (mergeM L n) (H2.out.2.only0 o2) r2 (by omega) (by omega)
        have O2 := Lib.hid (H2.out.1.only0 o2).only
        clear r2 o2 f2
        go_wp2_with fail
        refine f3.mono ?_
        rintro e u3 ⟨rfl, o3⟩
        go_wp2_with fail
        go_ret
        exact ⟨by simp, (O2.out.trans' o3).below (Nat.le_refl _) (by simp)⟩

/-! ### The step from the walk to the row -/
set_option maxRecDepth 100000 in
theorem lifted (os : Os) (started : os.Started) (H : Type) (enc : TypeId × Value → H) :
    ReturnsInHanded {} Tryz.checked os 3 .any (fun w args => (Rows.queuePlaysSpec.pre enc Tryz.prog Tryz.f3 [] false w args ∧ laidMetH Tryz.prog listed w) ∧ sizedMet enc Tryz.prog Tryz.f3 (OpenSpec.ofChange Rows.queuePlaysSpec) false w args)
      (Rows.queuePlaysSpec.post enc Tryz.prog Tryz.f3 false true false false) := by
  refine returnsInHanded_of_change_and (C := Tryz.checked) (X := fun w _ => laidMetH Tryz.prog listed w) (fun _ _ _ hh h => h.of_heap hh) own started (by kernel_rfl) Tryz.func3
    (ChangeSpec.witness_shaped (enc := enc) (C := Tryz.checked) (os := os) (X := fun w _ => laidMetH Tryz.prog listed w) false (World.doorLaid Tryz.prog 14 os) #[.int .i64 0, .int .i64 0, .slice none 0 0] 8 rfl (World.shaped_of_RefB (by kernel_rfl) (by kernel_rfl)) (by kernel_rfl) (by kernel_rfl) (by kernel_rfl) (door_met os _)) ?_
  intro W base args ds gs before hval0 hW _ _ hL _
  have hval : ∀ (j : Nat) t v, Tryz.f3.params[j]? = some t → args[j]? = some v → Value.okWide Tryz.prog W .any base t v := hval0
  have hW' := hW
  obtain ⟨p, q, hA0, hV, rfl, hfz, hnd⟩ := hW
  have hA : DataW.TrodAll enc Tryz.prog W 0 (fun _ => true) true Tryz.f3.params.toList args.toList ds p := hA0
  rw [Tryz.params3] at hA hval
  obtain ⟨v0, vs0, d0, ds0, p0, q0, hargs, rfl, rfl, h0, r0⟩ := trodAll_cons hA
  obtain ⟨v1, vs1, d1, ds1, p1, q1, rfl, rfl, rfl, h1, r1⟩ := trodAll_cons r0
  obtain ⟨v2, vs2, d2, ds2, p2, q2, rfl, rfl, rfl, h2, r2⟩ := trodAll_cons r1
  obtain ⟨rfl, rfl, rfl⟩ := trodAll_nil r2
  obtain rfl : args = #[v0, v1, v2] := by cases args; simp_all
  obtain ⟨rfl, rfl⟩ := trodVars_none hV
  obtain ⟨a0, rfl, rfl, rfl, w0⟩ := open_int Tryz.underlying3 (hval 0 3 v0 rfl rfl) h0
  obtain ⟨a1, rfl, rfl, rfl, w1⟩ := open_int Tryz.underlying3 (hval 1 3 v1 rfl rfl) h1
  obtain ⟨a2, len2, cap2, rfl⟩ := okWide_slice Tryz.underlying22 (hval 2 22 v2 rfl rfl)
  have k2 := h2
  have lt2 : ∀ x ∈ p2, x.block < W.heap.size := by obtain ⟨m, hm⟩ := k2; exact DataW.trod_lt m _ _ _ hm
  obtain ⟨z2, w2⟩ : ∃ z, InDeeds W a2 len2 z := by
    obtain ⟨fuel, hf⟩ := h2
    exact open_deeds hf
  clear hA0 hval0
  refine (walk a0 a1 a2 len2 cap2 z2 W w0 w1 w2 (tab_of_laid hL)).mono fun e W' ⟨he, bel⟩ => ?_
  subst he
  exact ⟨_, rfl, _, _, _, [], _, [], hW', trodAll_mk1 (shut_bool Tryz.underlying4 _), (trodAll_cons_mk (shut_int Tryz.underlying3 w0) (trodAll_cons_mk (shut_int Tryz.underlying3 w1) (trodAll_cons_mk (Below.trod laidOut (by kernel_rfl) (of_decide_eq_true (by kernel_rfl)) k2 bel lt2) trodAll_mk0))), rfl, bel.frame _, fun h => by cases h⟩

theorem over : Rows.queuePlaysRow.holds Tryz.pinned (OpenSpec.ofChange Rows.queuePlaysSpec) :=
  OpenClaim.holds_of_wide 3 Tryz.f3 rfl rfl rfl rfl rfl rfl rfl ⟨rfl, rfl, rfl, rfl, rfl⟩ rfl rfl rfl rfl rfl (by kernel_rfl) Tryz.func3 (by kernel_rfl)
    (of_decide_eq_true (by kernel_rfl)) (by unfold Func.isWrapper; first | (rw [if_pos (by decide +kernel)]; kernel_rfl) | (rw [if_neg (by decide +kernel)]; exact ⟨rfl, rfl⟩))
    (fun os started H enc _ => lifted os started H enc)

/-- The statement: the card, its listed variable tied to the program's text. -/
theorem proved : Rows.QueuePlaysCardSaid :=
  Claim7.holds_tied_plain_at .later [] [.data] true (true, "26507875017e3a76b118212d847f60c59ebd9d430d2b04233b1df170ce6b2d7f") false
    over (fun _ h => by cases h) (by kernel_rfl) (fun _ h => by cases h) queuePlays_row_tie rfl ⟨rfl, rfl⟩ (by kernel_rfl) rfl
    (fun f fn hf hfn => by
      obtain rfl : f = 3 := Option.some.inj ((show Tryz.prog.funcNamed "weighbridge/weighbridgelaw08.QueuePlays" = some 3 by kernel_rfl).symm.trans hf) |>.symm
      obtain rfl : fn = Tryz.f3 := (Option.some.inj (Tryz.func3.symm.trans hfn)).symm
      exact ⟨by kernel_rfl, fun j t ht => by
        rw [Tryz.params3] at ht
        have hm : t ∈ [3, 3, 22] := by simpa using Array.mem_of_getElem? ht
        have hall : ([3, 3, 22].all fun u => !Tryz.prog.wantsStandIn u) = true := by kernel_rfl
        exact (show Tryz.prog.wantsStandIn t = false by simpa using List.all_eq_true.1 hall t hm)⟩)
    (by kernel_rfl)
#print axioms proved
end Go.Proofs.YtajhkdbldbifeaaGreatDoor.queuePlays
