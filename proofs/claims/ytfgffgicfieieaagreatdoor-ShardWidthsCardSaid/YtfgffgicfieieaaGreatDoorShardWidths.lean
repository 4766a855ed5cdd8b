/-
  weighbridgelaw06.ShardWidths returns true for every input, and leaves its arguments as they were, where math/bits' table holds what the program's own text lays there (the card ties it). No other condition but that the arguments are values of their types.
-/
import Derived.Test.YtfgffgicfieieaaGreatDoorRows
import Derived.Test.YtfgffgicfieieaaGreatDoorTie
import Derived.Test.YtfgffgicfieieaaGreatDoorCards
import Derived.Test.YtfgffgicfieieaaGreatDoorShardT5
import Derived.ShutString
import Derived.ChangeOld
import Derived.Below
import Derived.SevenTiedAt
namespace Go.Proofs.YtfgffgicfieieaaGreatDoor.shardWidths
open Go.ChangeShapes Go.WideShapes Go.ChangeAt Go.RowKit
set_option linter.unusedVariables false

set_option maxRecDepth 100000 in
set_option maxHeartbeats 8000000 in
theorem walk (a0 : Int) (a1 : Int) (a2 : Option Addr) (len2 cap2 : Nat) (z2 : Nat → Dd) (w : World) (w0 : (Lit.int .i64 a0).wf = true) (w1 : (Lit.int .i64 a1).wf = true) (w2 : InDeeds w a2 len2 z2) (hT : Tab w) :
    Calls Tryz.prog 5 #[.int .i64 a0, .int .i64 a1, .slice a2 len2 cap2] w fun e w' => e = .returned (.bool true) ∧ Below w.heap.size w w' := by
  have W2 := Lib.hid w2
  have HT := Lib.hid hT
  obtain ⟨mf, qf, PL⟩ := plays_are
  have PL := Lib.hid PL
  obtain ⟨ma, hma, hmod1⟩ := hModN a0 41 (by omega) (by omega)
  obtain ⟨mb, hmb, hmod2⟩ := hModN a1 41 (by omega) (by omega)
  change ∀ w, Calls _ _ #[.int .i64 a0, .int .i64 41] w _ at hmod1
  change ∀ w, Calls _ _ #[.int .i64 a1, .int .i64 41] w _ at hmod2
  have mk1 : True := trivial
  have mk2 : True := trivial
  clear w2 hT
  go_enter Tryz.func5, Tryz.ntmps5
  go_wp2_with fail
  refine (hmod1 _).mono ?_
  rintro e w ⟨rfl, rfl⟩
  go_wp2_with fail
  refine (hmod2 _).mono ?_
  rintro e w ⟨rfl, rfl⟩
  go_wp2_with fail
  refine (sNewOf _ (ma : Int)).mono ?_
  rintro e v1 ⟨wb, S1, rfl, h1, f1, o1⟩
  rw [wid_nat (by omega)] at h1
  have H1 := Lib.hid (sound_new h1 f1 o1)
  have O1 := Lib.hid o1
  clear h1 f1 o1
  go_wp2_with fail
  refine (sNewOf _ (mb : Int)).mono ?_
  rintro e v2 ⟨vb, S2, rfl, h2, f2, o2⟩
  rw [wid_nat (by omega)] at h2
  have h3 := sound_new h2 f2 o2
  have H2 : Hid (Two w (v2.alloc (.cells #[.slice none 0 0, .int .u64 0, .int .i64 (mb : Int), .bool true] 37)) wb S1 v1.heap.size (iown v1.heap.size (.slice none 0 0)) ma 0 [] vb S2 v2.heap.size (iown v2.heap.size (.slice none 0 0)) mb 0 []) := by
    refine ⟨H1.out.only0 h3.only, ⟨h3.pair, fun b hb => Nat.le_trans H1.out.only.size (h3.newS b hb), fun b hb => Nat.le_trans H1.out.only.size (h3.newT b hb), H1.out.only.trans' h3.only⟩, fun x hx hc => ?_⟩
    have h8 := H1.out.ltS x hx
    rcases List.mem_append.1 hc with h9 | h9
    · have := h3.newS x h9; omega
    · have := h3.newT x h9; omega
  have aw := sAwake _ (H2.out.a.tab HT.out).1
  clear h2 f2 o2 h3 H1
  go_wp2_with fail
  refine aw.mono ?_
  rintro e v3 ⟨rfl, o3⟩
  have H3 := Lib.hid (H2.out.only0 o3)
  clear H2 o3 aw
  obtain ⟨xb, exb⟩ : ∃ xb, v1.heap.size = xb := ⟨_, rfl⟩
  obtain ⟨yb, eyb⟩ : ∃ yb, v2.heap.size = yb := ⟨_, rfl⟩
  rw [exb, eyb] at H3
  obtain ⟨T1, eT1⟩ : ∃ T1, iown xb (.slice none 0 0) = T1 := ⟨_, rfl⟩
  obtain ⟨T2, eT2⟩ : ∃ T2, iown yb (.slice none 0 0) = T2 := ⟨_, rfl⟩
  rw [eT1, eT2] at H3
  (try rw [exb, eyb])
  clear eT1 eT2
  go_wp2_with fail
  (try simp only [exb, eyb])
  go_loopg [11] (len2 + 1) (fun gk si wr => ∃ (p : Nat) (S T S' T' : List Nat) (base : Int) (l : List It), si = .int .i64 (p : Int) ∧ p ≤ len2 ∧ p ≤ 60 ∧ len2 + 1 ≤ gk + p ∧ l.length ≤ p ∧ Hid (Two w wr wb S xb T ma base l vb S' yb T' mb base l))
  case atStart => exact ⟨0, S1, T1, S2, T2, 0, [], rfl, by omega, by omega, by omega, by simp, H3⟩
  case round =>
    obtain ⟨p, S, T, S', T', base, l, rfl, hp, hp80, hg, hlp, hS⟩ := hrel
    clear H3
    by_cases hc : p < len2 ∧ p < 60
    · have c1 : (p : Int) < (len2 : Int) := by omega
      have c2 : (p : Int) < 60 := by omega
      obtain ⟨hdok, ad, b, o, s, rfl, hadd, hbw, q0, q1, q2⟩ := W2.out p hc.1
      obtain ⟨d, ed⟩ : ∃ d, z2 p = d := ⟨_, rfl⟩
      rw [ed] at q0 q1 q2 hdok
      have r0 := hS.out.a.only.stay q0
      have r1 := hS.out.a.only.stay q1
      have r2 := hS.out.a.only.stay q2
      have hst := hS.out.stepA HT.out (by omega) d hdok PL.out
      have hl3 : (stepM mf qf d base l).2.length ≤ l.length + 1 := stepTo_len _ _ _ _ _ _
      have hst2 : Hid (∀ u1 S3 T3 base3 l3, Two w u1 wb S3 xb T3 ma base3 l3 vb S' yb T' mb base l → Calls Tryz.prog 9 #[.pointer (some ⟨vb, 0, none⟩), .pointer (some ⟨yb, 0, none⟩), .agg #[.int .i64 d.a, .int .u64 d.b, .int .i64 d.c]] u1 fun e w' => e = .returned (.bool true) ∧ ∃ S4 T4, Two w w' vb S4 yb T4 mb (stepM mf qf d base l).1 (stepM mf qf d base l).2 wb S3 xb T3 ma base3 l3) := fun u1 S3 T3 base3 l3 h => h.swap.stepA HT.out (by omega) d hdok PL.out
      generalize (stepM mf qf d base l).1 = base3 at *
      generalize (stepM mf qf d base l).2 = l3 at *
      have G := Lib.hid (And.intro q0 (And.intro q1 q2))
      clear q0 q1 q2 ed hbw hc
      go_wp2_with fail
      refine hst.mono ?_
      rintro e u1 ⟨rfl, S3, T3, h3⟩
      have g0 := h3.a.only.stay G.out.1
      have g1 := h3.a.only.stay G.out.2.1
      have g2 := h3.a.only.stay G.out.2.2
      have hst3 := hst2.out u1 S3 T3 base3 l3 h3
      clear h3 hst r0 r1 r2
      go_wp2_with fail
      refine hst3.mono ?_
      rintro e u2 ⟨rfl, S4, T4, h4⟩
      have H4 := Lib.hid h4.swap
      have a1 := H4.out.a.base u2 (Only.refl [] u2)
      clear h4 hst2 hst3 g0 g1 g2
      go_wp2_with fail
      refine a1.mono ?_
      rintro e u3 ⟨rfl, rfl⟩
      have a2 := H4.out.b.base u3 (Only.refl [] u3)
      clear a1
      go_wp2_with fail
      refine a2.mono ?_
      rintro e u4 ⟨rfl, rfl⟩
      have a3 := H4.out.a.len u4 (Only.refl [] u4)
      clear a2
      go_wp2_with fail
      refine a3.mono ?_
      rintro e u5 ⟨rfl, o5⟩
      have H5 := Lib.hid (H4.out.only0 o5)
      have a4 := H5.out.b.len u5 (Only.refl [] u5)
      clear a3 o5 H4
      go_wp2_with fail
      refine a4.mono ?_
      rintro e u6 ⟨rfl, o6⟩
      have H6 := Lib.hid (H5.out.only0 o6)
      clear a4 o6 H5
      by_cases hab : ma ≤ mb
      · have hw := fars_wider hab base3 l3
        have a5 := H6.out.a.over u6 (Only.refl [] u6)
        have hab1 : (ma : Int) ≤ (mb : Int) := by omega
        have hab2 : decide ((ma : Int) ≤ (mb : Int)) = true := decide_eq_true hab1
        have hab3 : decide (ma ≤ mb) = true := decide_eq_true hab
        generalize ef1 : (fars ma base3 l3).length = n1 at *
        obtain ⟨n2, ef2⟩ : ∃ n2, (fars mb base3 l3).length = n2 := ⟨_, rfl⟩
        rw [ef2] at hw
        have EF := Lib.hid ef2
        clear ef1 ef2
        go_wp2_with fail
        refine a5.mono ?_
        rintro e u7 ⟨rfl, rfl⟩
        have a6 := H6.out.b.over u7 (Only.refl [] u7)
        rw [EF.out] at a6
        have hw1 : ¬ ((n1 : Int) < (n2 : Int)) := by omega
        have hw2 : decide ((n1 : Int) < (n2 : Int)) = false := decide_eq_false hw1
        have hw3 : ¬ (n1 < n2) := by omega
        clear a5
        go_wp2_with fail
        refine a6.mono ?_
        rintro e u8 ⟨rfl, rfl⟩
        clear a6
        go_wp2_with fail
        go_roundg (len2 + 1 - (p + 1))
        case measure => omega
        case rel => exact ⟨p + 1, S3, T3, S4, T4, base3, l3, by simp, by omega, by omega, by omega, by omega, H6⟩
      · have hab1 : ¬ ((ma : Int) ≤ (mb : Int)) := by omega
        have hab2 : decide ((ma : Int) ≤ (mb : Int)) = false := decide_eq_false hab1
        have hab3 : decide (ma ≤ mb) = false := decide_eq_false hab
        go_wp2_with fail
        go_roundg (len2 + 1 - (p + 1))
        case measure => omega
        case rel => exact ⟨p + 1, S3, T3, S4, T4, base3, l3, by simp, by omega, by omega, by omega, by omega, H6⟩
    · have hal := hS.out.a.all HT.out wr (Only.refl [] wr)
      have hcd : (decide ((p : Int) < (len2 : Int)) = false ∧ ¬ ((p : Int) < (len2 : Int))) ∨ ((p : Int) < (len2 : Int) ∧ decide ((p : Int) < 60) = false) := by
        have hce : ¬ p < len2 ∨ (p < len2 ∧ ¬ p < 60) := by omega
        rcases hce with h9 | h9
        · exact .inl ⟨decide_eq_false (by omega), by omega⟩
        · exact .inr ⟨by omega, decide_eq_false (by omega)⟩
      clear hc hp
      rcases hcd with ⟨c1, c2⟩ | ⟨c1, c2⟩
      all_goals
        go_wp2_with fail
        refine hal.mono ?_
        rintro e u1 ⟨A2, cap2, rfl, r2, v2, o2⟩
        have hbl := hS.out.b.all HT.out u1 o2
        have R2 := Lib.hid (And.intro r2 o2)
        clear r2 v2 o2 hal
        go_wp2_with fail
        refine hbl.mono ?_
        rintro e u3 ⟨A3, cap3, rfl, r3, v3, o3⟩
        have hpl := hPlain u3 _ _ l l (R2.out.1.keep (w' := u3) (fun g hg => o3.block g (R2.out.1.lt hg) (by simp))) r3 (by omega) (by omega)
        have R3 := Lib.hid (R2.out.2.trans' o3)
        clear r3 v3 o3 hbl R2
        go_wp2_with fail
        refine hpl.mono ?_
        rintro e u4 ⟨rfl, o4⟩
        have O4 := Lib.hid ((hS.out.a.only.trans' R3.out).trans' o4)
        clear o4 hpl R3
        go_wp2_with fail
        go_ret
        exact ⟨by simp, O4.out.below (Nat.le_refl _) (by simp)⟩

/-! ### The step from the walk to the row -/
set_option maxRecDepth 100000 in
theorem lifted (os : Os) (started : os.Started) (H : Type) (enc : TypeId × Value → H) :
    ReturnsInHanded {} Tryz.checked os 5 .any (fun w args => (Rows.shardWidthsSpec.pre enc Tryz.prog Tryz.f5 [] false w args ∧ laidMetH Tryz.prog listed w) ∧ sizedMet enc Tryz.prog Tryz.f5 (OpenSpec.ofChange Rows.shardWidthsSpec) false w args)
      (Rows.shardWidthsSpec.post enc Tryz.prog Tryz.f5 false true false false) := by
  refine returnsInHanded_of_change_and (C := Tryz.checked) (X := fun w _ => laidMetH Tryz.prog listed w) (fun _ _ _ hh h => h.of_heap hh) own started (by kernel_rfl) Tryz.func5
    (ChangeSpec.witness_shaped (enc := enc) (C := Tryz.checked) (os := os) (X := fun w _ => laidMetH Tryz.prog listed w) false (World.doorLaid Tryz.prog 14 os) #[.int .i64 0, .int .i64 0, .slice none 0 0] 8 rfl (World.shaped_of_RefB (by kernel_rfl) (by kernel_rfl)) (by kernel_rfl) (by kernel_rfl) (by kernel_rfl) (door_met os _)) ?_
  intro W base args ds gs before hval0 hW _ _ hL _
  have hval : ∀ (j : Nat) t v, Tryz.f5.params[j]? = some t → args[j]? = some v → Value.okWide Tryz.prog W .any base t v := hval0
  have hW' := hW
  obtain ⟨p, q, hA0, hV, rfl, hfz, hnd⟩ := hW
  have hA : DataW.TrodAll enc Tryz.prog W 0 (fun _ => true) true Tryz.f5.params.toList args.toList ds p := hA0
  rw [Tryz.params5] at hA hval
  obtain ⟨v0, vs0, d0, ds0, p0, q0, hargs, rfl, rfl, h0, r0⟩ := trodAll_cons hA
  obtain ⟨v1, vs1, d1, ds1, p1, q1, rfl, rfl, rfl, h1, r1⟩ := trodAll_cons r0
  obtain ⟨v2, vs2, d2, ds2, p2, q2, rfl, rfl, rfl, h2, r2⟩ := trodAll_cons r1
  obtain ⟨rfl, rfl, rfl⟩ := trodAll_nil r2
  obtain rfl : args = #[v0, v1, v2] := by cases args; simp_all
  obtain ⟨rfl, rfl⟩ := trodVars_none hV
  obtain ⟨a0, rfl, rfl, rfl, w0⟩ := open_int Tryz.underlying3 (hval 0 3 v0 rfl rfl) h0
  obtain ⟨a1, rfl, rfl, rfl, w1⟩ := open_int Tryz.underlying3 (hval 1 3 v1 rfl rfl) h1
  obtain ⟨a2, len2, cap2, rfl⟩ := okWide_slice Tryz.underlying22 (hval 2 22 v2 rfl rfl)
  have k2 := h2
  have lt2 : ∀ x ∈ p2, x.block < W.heap.size := by obtain ⟨m, hm⟩ := k2; exact DataW.trod_lt m _ _ _ hm
  obtain ⟨z2, w2⟩ : ∃ z, InDeeds W a2 len2 z := by
    obtain ⟨fuel, hf⟩ := h2
    exact open_deeds hf
  clear hA0 hval0
  refine (walk a0 a1 a2 len2 cap2 z2 W w0 w1 w2 (tab_of_laid hL)).mono fun e W' ⟨he, bel⟩ => ?_
  subst he
  exact ⟨_, rfl, _, _, _, [], _, [], hW', trodAll_mk1 (shut_bool Tryz.underlying4 _), (trodAll_cons_mk (shut_int Tryz.underlying3 w0) (trodAll_cons_mk (shut_int Tryz.underlying3 w1) (trodAll_cons_mk (Below.trod laidOut (by kernel_rfl) (of_decide_eq_true (by kernel_rfl)) k2 bel lt2) trodAll_mk0))), rfl, bel.frame _, fun h => by cases h⟩

theorem over : Rows.shardWidthsRow.holds Tryz.pinned (OpenSpec.ofChange Rows.shardWidthsSpec) :=
  OpenClaim.holds_of_wide 5 Tryz.f5 rfl rfl rfl rfl rfl rfl rfl ⟨rfl, rfl, rfl, rfl, rfl⟩ rfl rfl rfl rfl rfl (by kernel_rfl) Tryz.func5 (by kernel_rfl)
    (of_decide_eq_true (by kernel_rfl)) (by unfold Func.isWrapper; first | (rw [if_pos (by decide +kernel)]; kernel_rfl) | (rw [if_neg (by decide +kernel)]; exact ⟨rfl, rfl⟩))
    (fun os started H enc _ => lifted os started H enc)

/-- The statement: the card, its listed variable tied to the program's text. -/
theorem proved : Rows.ShardWidthsCardSaid :=
  Claim7.holds_tied_plain_at .later [] [.data] true (true, "54366cd7a8cab88fcfb17f69fae1922cb218978da292337e226842dc674c99a2") false
    over (fun _ h => by cases h) (by kernel_rfl) (fun _ h => by cases h) shardWidths_row_tie rfl ⟨rfl, rfl⟩ (by kernel_rfl) rfl
    (fun f fn hf hfn => by
      obtain rfl : f = 5 := Option.some.inj ((show Tryz.prog.funcNamed "weighbridge/weighbridgelaw06.ShardWidths" = some 5 by kernel_rfl).symm.trans hf) |>.symm
      obtain rfl : fn = Tryz.f5 := (Option.some.inj (Tryz.func5.symm.trans hfn)).symm
      exact ⟨by kernel_rfl, fun j t ht => by
        rw [Tryz.params5] at ht
        have hm : t ∈ [3, 3, 22] := by simpa using Array.mem_of_getElem? ht
        have hall : ([3, 3, 22].all fun u => !Tryz.prog.wantsStandIn u) = true := by kernel_rfl
        exact (show Tryz.prog.wantsStandIn t = false by simpa using List.all_eq_true.1 hall t hm)⟩)
    (by kernel_rfl)
#print axioms proved
end Go.Proofs.YtfgffgicfieieaaGreatDoor.shardWidths
