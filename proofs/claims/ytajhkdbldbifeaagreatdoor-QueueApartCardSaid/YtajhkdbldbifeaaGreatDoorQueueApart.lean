/-
  weighbridgelaw08.QueueApart returns true for every input, and leaves its arguments as they were, where math/bits' table holds what the program's own text lays there (the card ties it). No other condition but that the arguments are values of their types.
-/
import Derived.Test.YtajhkdbldbifeaaGreatDoorRows
import Derived.Test.YtajhkdbldbifeaaGreatDoorTie
import Derived.Test.YtajhkdbldbifeaaGreatDoorCards
import Derived.Test.YtajhkdbldbifeaaGreatDoorQueueU
import Derived.ShutString
import Derived.ChangeOld
import Derived.Below
import Derived.SevenTiedAt
namespace Go.Proofs.YtajhkdbldbifeaaGreatDoor.queueApart
open Go.ChangeShapes Go.WideShapes Go.ChangeAt Go.RowKit
set_option linter.unusedVariables false

set_option maxRecDepth 100000 in
set_option maxHeartbeats 8000000 in
theorem walk (a0 : Int) (a1 : Int) (a2 : Option Addr) (len2 cap2 : Nat) (z2 : Nat → Dd) (a3 : Option Addr) (len3 cap3 : Nat) (z3 : Nat → Dd) (w : World) (w0 : (Lit.int .i64 a0).wf = true) (w1 : (Lit.int .i64 a1).wf = true) (w2 : InDeeds w a2 len2 z2) (w3 : InDeeds w a3 len3 z3) (hT : Tab w) :
    Calls Tryz.prog 7 #[.int .i64 a0, .int .i64 a1, .slice a2 len2 cap2, .slice a3 len3 cap3] w fun e w' => e = .returned (.bool true) ∧ Below w.heap.size w w' := by
  have W2 := Lib.hid w2
  have W3 := Lib.hid w3
  have HT := Lib.hid hT
  obtain ⟨qf, PL⟩ := kinds_are 8 (by omega) (by omega)
  have PL := Lib.hid PL
  clear w2 w3 hT
  go_enter Tryz.func7, Tryz.ntmps7
  go_wp2_with fail
  refine (made_q w w (Only.refl [] w) a0 a1).mono ?_
  rintro e v1 ⟨qb, xb, rfl, n, wd, S1, T1, h1, -, -⟩
  have H1 := Lib.hid h1
  clear h1
  go_wp2_with fail
  refine (made_q w v1 H1.out.only a0 a1).mono ?_
  rintro e v2 ⟨vb, yb, rfl, n', wd', S2, T2, h2, hn2, o2⟩
  have aw := hAwake8 v2 (HT.out.only0 h2.only)
  have H2 : Hid (QTwo w v2 qb S1 xb T1 n wd (fun _ => 0) (fun _ => []) vb S2 yb T2 n' wd' (fun _ => 0) (fun _ => [])) := by
    refine ⟨H1.out.only0 o2, h2, fun x hx hc => ?_⟩
    have h8 := H1.out.lt x hx
    have h9 := hn2 x hc
    omega
  clear h2 H1 hn2 o2
  go_wp2_with fail
  refine aw.mono ?_
  rintro e v3 ⟨rfl, o3⟩
  have H3 := Lib.hid (H2.out.only0 o3)
  clear H2 o3 aw
  go_wp2_with fail
  go_loopg [13] (len2 + 1) (fun gk si wr => ∃ (p : Nat) (S T : List Nat) (B : Nat → Int) (L : Nat → List It) (S' T' : List Nat) (B' : Nat → Int) (L' : Nat → List It), si = .int .i64 (p : Int) ∧ p ≤ len2 ∧ p ≤ 40 ∧ len2 + 1 ≤ gk + p ∧ Hid (QTwo w wr qb S xb T n wd B L vb S' yb T' n' wd' B' L' ∧ (∀ i, (L i).length ≤ p) ∧ ∀ i, (L' i).length ≤ p))
  case atStart => exact ⟨0, S1, T1, _, _, S2, T2, _, _, rfl, by omega, by omega, by omega, H3.out, fun i => by simp, fun i => by simp⟩
  case round =>
    obtain ⟨p, S, T, B, L, S', T', B', L', rfl, hp, hp80, hg, hS⟩ := hrel
    clear H3
    by_cases hc : p < len2 ∧ p < 40
    · have c1 : (p : Int) < (len2 : Int) := by omega
      have c2 : (p : Int) < 40 := by omega
      obtain ⟨hdok, ad, b, o, s, rfl, hadd, hbw, q0, q1, q2⟩ := W2.out p hc.1
      obtain ⟨d, ed⟩ : ∃ d, z2 p = d := ⟨_, rfl⟩
      rw [ed] at q0 q1 q2 hdok
      have r0 := hS.out.1.a.only.stay q0
      have r1 := hS.out.1.a.only.stay q1
      have r2 := hS.out.1.a.only.stay q2
      have hst := hS.out.1.stepA HT.out (fun i => by have := hS.out.2.1 i; omega) d hdok PL.out
      clear q0 q1 q2 ed hbw
      by_cases hm : p < len3
      · have c3 : (p : Int) < (len3 : Int) := by omega
        obtain ⟨hdok', ad', b', o', s', rfl, hadd', hbw', g0, g1, g2⟩ := W3.out p hm
        obtain ⟨d', ed'⟩ : ∃ d', z3 p = d' := ⟨_, rfl⟩
        rw [ed'] at g0 g1 g2 hdok'
        have G := Lib.hid (And.intro g0 (And.intro g1 g2))
        clear g0 g1 g2 ed' hbw' hc hm
        go_wp2_with fail
        refine hst.mono ?_
        rintro e u1 ⟨rfl, B3, L3, S3, T3, hl3, h3⟩
        have g0 := h3.a.only.stay G.out.1
        have g1 := h3.a.only.stay G.out.2.1
        have g2 := h3.a.only.stay G.out.2.2
        have hst2 := h3.swap.stepA HT.out (fun i => by have := hS.out.2.2 i; omega) d' hdok' PL.out
        have HL3 : Hid (∀ i, (L3 i).length ≤ p + 1) := fun i => Nat.le_trans (hl3 i) (by have := hS.out.2.1 i; omega)
        clear h3 hst hl3 r0 r1 r2
        go_wp2_with fail
        refine hst2.mono ?_
        rintro e u2 ⟨rfl, B4, L4, S4, T4, hl4, h4⟩
        have HL4 : Hid (∀ i, (L4 i).length ≤ p + 1) := fun i => Nat.le_trans (hl4 i) (by have := hS.out.2.2 i; omega)
        have H5 := Lib.hid h4.swap
        have hcb := cat_bound H5.out.a HL3.out (by omega)
        clear h4 hst2 hl4 g0 g1 g2
        have f1 := H5.out.a.spoilAll HT.out hcb
        go_wp2_with fail
        refine f1.mono ?_
        rintro e u3 ⟨v, rfl, f2⟩
        clear f1
        go_wp2_with fail
        refine f2.mono ?_
        rintro e u4 ⟨rfl, o4⟩
        have H6 := Lib.hid (H5.out.only0 o4)
        clear f2 o4 H5
        have f3 := H6.out.a.spoilBases
        go_wp2_with fail
        refine f3.mono ?_
        rintro e u5 ⟨v, rfl, f4⟩
        clear f3
        go_wp2_with fail
        refine f4.mono ?_
        rintro e u6 ⟨rfl, o6⟩
        have H7 := Lib.hid (H6.out.only0 o6)
        clear f4 o6 H6
        have f5 := H7.out.a.spoilShard HT.out (by have := HL3.out 0; omega)
        go_wp2_with fail
        refine f5.mono ?_
        rintro e u7 ⟨v, rfl, f6⟩
        clear f5
        go_wp2_with fail
        refine f6.mono ?_
        rintro e u8 ⟨rfl, o8⟩
        have H8 := Lib.hid (H7.out.only0 o8)
        clear f6 o8 H7
        go_wp2_with fail
        go_roundg (len2 + 1 - (p + 1))
        case measure => omega
        case rel => exact ⟨p + 1, S3, T3, B3, L3, S4, T4, B4, L4, by simp, by omega, by omega, by omega, H8.out, HL3.out, HL4.out⟩
      · have c3 : decide ((p : Int) < (len3 : Int)) = false := decide_eq_false (by omega)
        have c4 : ¬ ((p : Int) < (len3 : Int)) := by omega
        clear hc hm
        go_wp2_with fail
        refine hst.mono ?_
        rintro e u1 ⟨rfl, B3, L3, S3, T3, hl3, h3⟩
        have HL3 : Hid (∀ i, (L3 i).length ≤ p + 1) := fun i => Nat.le_trans (hl3 i) (by have := hS.out.2.1 i; omega)
        have H5 := Lib.hid h3
        have hcb := cat_bound H5.out.a HL3.out (by omega)
        clear h3 hst hl3 r0 r1 r2
        have f1 := H5.out.a.spoilAll HT.out hcb
        go_wp2_with fail
        refine f1.mono ?_
        rintro e u3 ⟨v, rfl, f2⟩
        clear f1
        go_wp2_with fail
        refine f2.mono ?_
        rintro e u4 ⟨rfl, o4⟩
        have H6 := Lib.hid (H5.out.only0 o4)
        clear f2 o4 H5
        have f3 := H6.out.a.spoilBases
        go_wp2_with fail
        refine f3.mono ?_
        rintro e u5 ⟨v, rfl, f4⟩
        clear f3
        go_wp2_with fail
        refine f4.mono ?_
        rintro e u6 ⟨rfl, o6⟩
        have H7 := Lib.hid (H6.out.only0 o6)
        clear f4 o6 H6
        have f5 := H7.out.a.spoilShard HT.out (by have := HL3.out 0; omega)
        go_wp2_with fail
        refine f5.mono ?_
        rintro e u7 ⟨v, rfl, f6⟩
        clear f5
        go_wp2_with fail
        refine f6.mono ?_
        rintro e u8 ⟨rfl, o8⟩
        have H8 := Lib.hid (H7.out.only0 o8)
        clear f6 o8 H7
        go_wp2_with fail
        go_roundg (len2 + 1 - (p + 1))
        case measure => omega
        case rel => exact ⟨p + 1, S3, T3, B3, L3, S', T', B', L', by simp, by omega, by omega, by omega, H8.out, HL3.out, fun i => by have := hS.out.2.2 i; omega⟩
    · have hca := cat_bound hS.out.1.a hS.out.2.1 (by omega)
      have hcb := cat_bound hS.out.1.b hS.out.2.2 (by omega)
      have f1 := hS.out.1.a.alls HT.out hca
      have hcd : (decide ((p : Int) < (len2 : Int)) = false ∧ ¬ ((p : Int) < (len2 : Int))) ∨ ((p : Int) < (len2 : Int) ∧ decide ((p : Int) < 40) = false) := by
        have hce : ¬ p < len2 ∨ (p < len2 ∧ ¬ p < 40) := by omega
        rcases hce with h9 | h9
        · exact .inl ⟨decide_eq_false (by omega), by omega⟩
        · exact .inr ⟨by omega, decide_eq_false (by omega)⟩
      clear hc hp
      rcases hcd with ⟨c1, c2⟩ | ⟨c1, c2⟩
      all_goals
        go_wp2_with fail
        refine f1.mono ?_
        rintro e u1 ⟨v, rfl, f2⟩
        clear f1
        go_wp2_with fail
        refine f2.mono ?_
        rintro e u2 ⟨v', rfl, f3⟩
        clear f2
        go_wp2_with fail
        refine f3.mono ?_
        rintro e u3 ⟨rfl, o3⟩
        have H3 := Lib.hid (hS.out.1.only0 o3)
        clear f3 o3
        have f4 := H3.out.b.alls HT.out hcb
        go_wp2_with fail
        refine f4.mono ?_
        rintro e u4 ⟨v4, rfl, f5⟩
        clear f4
        go_wp2_with fail
        refine f5.mono ?_
        rintro e u5 ⟨v5, rfl, f6⟩
        clear f5
        go_wp2_with fail
        refine f6.mono ?_
        rintro e u6 ⟨rfl, o6⟩
        have H6 := Lib.hid (H3.out.only0 o6)
        clear f6 o6
        have f7 := H6.out.a.basess
        go_wp2_with fail
        refine f7.mono ?_
        rintro e u7 ⟨v7, rfl, f8⟩
        clear f7
        go_wp2_with fail
        refine f8.mono ?_
        rintro e u8 ⟨v8, rfl, f9⟩
        clear f8
        go_wp2_with fail
        refine f9.mono ?_
        rintro e u9 ⟨rfl, o9⟩
        go_wp2_with fail
        go_ret
        exact ⟨by simp, (H6.out.a.only.trans' o9).below (Nat.le_refl _) (by simp)⟩

/-! ### The step from the walk to the row -/
set_option maxRecDepth 100000 in
theorem lifted (os : Os) (started : os.Started) (H : Type) (enc : TypeId × Value → H) :
    ReturnsInHanded {} Tryz.checked os 7 .any (fun w args => (Rows.queueApartSpec.pre enc Tryz.prog Tryz.f7 [] false w args ∧ laidMetH Tryz.prog listed w) ∧ sizedMet enc Tryz.prog Tryz.f7 (OpenSpec.ofChange Rows.queueApartSpec) false w args)
      (Rows.queueApartSpec.post enc Tryz.prog Tryz.f7 false true false false) := by
  refine returnsInHanded_of_change_and (C := Tryz.checked) (X := fun w _ => laidMetH Tryz.prog listed w) (fun _ _ _ hh h => h.of_heap hh) own started (by kernel_rfl) Tryz.func7
    (ChangeSpec.witness_shaped (enc := enc) (C := Tryz.checked) (os := os) (X := fun w _ => laidMetH Tryz.prog listed w) false (World.doorLaid Tryz.prog 14 os) #[.int .i64 0, .int .i64 0, .slice none 0 0, .slice none 0 0] 8 rfl (World.shaped_of_RefB (by kernel_rfl) (by kernel_rfl)) (by kernel_rfl) (by kernel_rfl) (by kernel_rfl) (door_met os _)) ?_
  intro W base args ds gs before hval0 hW _ _ hL _
  have hval : ∀ (j : Nat) t v, Tryz.f7.params[j]? = some t → args[j]? = some v → Value.okWide Tryz.prog W .any base t v := hval0
  have hW' := hW
  obtain ⟨p, q, hA0, hV, rfl, hfz, hnd⟩ := hW
  have hA : DataW.TrodAll enc Tryz.prog W 0 (fun _ => true) true Tryz.f7.params.toList args.toList ds p := hA0
  rw [Tryz.params7] at hA hval
  obtain ⟨v0, vs0, d0, ds0, p0, q0, hargs, rfl, rfl, h0, r0⟩ := trodAll_cons hA
  obtain ⟨v1, vs1, d1, ds1, p1, q1, rfl, rfl, rfl, h1, r1⟩ := trodAll_cons r0
  obtain ⟨v2, vs2, d2, ds2, p2, q2, rfl, rfl, rfl, h2, r2⟩ := trodAll_cons r1
  obtain ⟨v3, vs3, d3, ds3, p3, q3, rfl, rfl, rfl, h3, r3⟩ := trodAll_cons r2
  obtain ⟨rfl, rfl, rfl⟩ := trodAll_nil r3
  obtain rfl : args = #[v0, v1, v2, v3] := by cases args; simp_all
  obtain ⟨rfl, rfl⟩ := trodVars_none hV
  obtain ⟨a0, rfl, rfl, rfl, w0⟩ := open_int Tryz.underlying3 (hval 0 3 v0 rfl rfl) h0
  obtain ⟨a1, rfl, rfl, rfl, w1⟩ := open_int Tryz.underlying3 (hval 1 3 v1 rfl rfl) h1
  obtain ⟨a2, len2, cap2, rfl⟩ := okWide_slice Tryz.underlying22 (hval 2 22 v2 rfl rfl)
  have k2 := h2
  have lt2 : ∀ x ∈ p2, x.block < W.heap.size := by obtain ⟨m, hm⟩ := k2; exact DataW.trod_lt m _ _ _ hm
  obtain ⟨z2, w2⟩ : ∃ z, InDeeds W a2 len2 z := by
    obtain ⟨fuel, hf⟩ := h2
    exact open_deeds hf
  obtain ⟨a3, len3, cap3, rfl⟩ := okWide_slice Tryz.underlying22 (hval 3 22 v3 rfl rfl)
  have k3 := h3
  have lt3 : ∀ x ∈ p3, x.block < W.heap.size := by obtain ⟨m, hm⟩ := k3; exact DataW.trod_lt m _ _ _ hm
  obtain ⟨z3, w3⟩ : ∃ z, InDeeds W a3 len3 z := by
    obtain ⟨fuel, hf⟩ := h3
    exact open_deeds hf
  clear hA0 hval0
  refine (walk a0 a1 a2 len2 cap2 z2 a3 len3 cap3 z3 W w0 w1 w2 w3 (tab_of_laid hL)).mono fun e W' ⟨he, bel⟩ => ?_
  subst he
  exact ⟨_, rfl, _, _, _, [], _, [], hW', trodAll_mk1 (shut_bool Tryz.underlying4 _), (trodAll_cons_mk (shut_int Tryz.underlying3 w0) (trodAll_cons_mk (shut_int Tryz.underlying3 w1) (trodAll_cons_mk (Below.trod laidOut (by kernel_rfl) (of_decide_eq_true (by kernel_rfl)) k2 bel lt2) (trodAll_cons_mk (Below.trod laidOut (by kernel_rfl) (of_decide_eq_true (by kernel_rfl)) k3 bel lt3) trodAll_mk0)))), rfl, bel.frame _, fun h => by cases h⟩

theorem over : Rows.queueApartRow.holds Tryz.pinned (OpenSpec.ofChange Rows.queueApartSpec) :=
  OpenClaim.holds_of_wide 7 Tryz.f7 rfl rfl rfl rfl rfl rfl rfl ⟨rfl, rfl, rfl, rfl, rfl⟩ rfl rfl rfl rfl rfl (by kernel_rfl) Tryz.func7 (by kernel_rfl)
    (of_decide_eq_true (by kernel_rfl)) (by unfold Func.isWrapper; first | (rw [if_pos (by decide +kernel)]; kernel_rfl) | (rw [if_neg (by decide +kernel)]; exact ⟨rfl, rfl⟩))
    (fun os started H enc _ => lifted os started H enc)

/-- The statement: the card, its listed variable tied to the program's text. -/
theorem proved : Rows.QueueApartCardSaid :=
  Claim7.holds_tied_plain_at .later [] [.data] true (true, "26507875017e3a76b118212d847f60c59ebd9d430d2b04233b1df170ce6b2d7f") false
    over (fun _ h => by cases h) (by kernel_rfl) (fun _ h => by cases h) queueApart_row_tie rfl ⟨rfl, rfl⟩ (by kernel_rfl) rfl
    (fun f fn hf hfn => by
      obtain rfl : f = 7 := Option.some.inj ((show Tryz.prog.funcNamed "weighbridge/weighbridgelaw08.QueueApart" = some 7 by kernel_rfl).symm.trans hf) |>.symm
      obtain rfl : fn = Tryz.f7 := (Option.some.inj (Tryz.func7.symm.trans hfn)).symm
      exact ⟨by kernel_rfl, fun j t ht => by
        rw [Tryz.params7] at ht
        have hm : t ∈ [3, 3, 22, 22] := by simpa using Array.mem_of_getElem? ht
        have hall : ([3, 3, 22, 22].all fun u => !Tryz.prog.wantsStandIn u) = true := by kernel_rfl
        exact (show Tryz.prog.wantsStandIn t = false by simpa using List.all_eq_true.1 hall t hm)⟩)
    (by kernel_rfl)
#print axioms proved
end Go.Proofs.YtajhkdbldbifeaaGreatDoor.queueApart
