/-
  weighbridgelaw09.FlowRises returns true for every input, and leaves its arguments as they were. No condition but that the arguments are values of their types.
-/
import Derived.Test.YtgncjgjkfmpegaaRows
import Derived.Test.YtgncjgjkfmpegaaFlowT
import Derived.WalkKit
import Derived.ProofKit
import Derived.OpenShut
import Derived.ChangeOld
import Derived.Below
namespace Go.Proofs.Ytgncjgjkfmpegaa.flowRises
open Go.ChangeShapes Go.WideShapes Go.ChangeAt Go.RowKit
set_option linter.unusedVariables false
set_option linter.unusedSimpArgs false

/-- What is kept of the tags: st0 the last start that was told. -/
def Tags (F : Fl) (st0 : Int) : Prop := (F.l ≠ [] → F.e ≤ F.s ∧ st0 ≤ F.s) ∧ (F.l = [] → st0 ≤ F.e)
theorem Tags.arr {F : Fl} {st0 : Int} (h : Tags F st0) (v : Int) (x : Pk) : Tags (F.arr v x) st0 ∧ F.e ≤ (F.arr v x).e := by
  rcases ht : F.takes with _ | _
  · rw [Fl.arr_full ht]
    exact ⟨h, Int.le_refl _⟩
  · rw [Fl.arr_in ht]
    refine ⟨⟨fun _ => ?_, fun h9 => absurd h9 (by simp)⟩, Int.le_refl _⟩
    show F.e ≤ (if F.l = [] then max v F.e else F.s) ∧ st0 ≤ (if F.l = [] then max v F.e else F.s)
    split
    · rename_i hl
      have := h.2 hl
      omega
    · rename_i hl
      exact h.1 hl
theorem Tags.srv {F : Fl} {st0 : Int} (h : Tags F st0) (hk : F.ok) : Tags F.srv st0 ∧ F.e ≤ F.srv.e := by
  rcases hl : F.l with _ | ⟨x, t⟩
  · rw [Fl.srv_nil hl]
    exact ⟨h, Int.le_refl _⟩
  · rw [Fl.srv_cons hl]
    have h1 := h.1 (by rw [hl]; simp)
    have h2 : F.s ≤ F.fin := add_ge hk.s.2 (cost_word F.hd.l F.r hk.r).1
    refine ⟨⟨fun _ => ⟨Int.le_refl _, ?_⟩, fun _ => ?_⟩, ?_⟩
    · show st0 ≤ F.fin; omega
    · show st0 ≤ F.fin; omega
    · show F.e ≤ F.fin; omega
set_option maxRecDepth 100000 in
set_option maxHeartbeats 8000000 in
theorem walk (a0 : Int) (a1 : Int) (a2 : Option Addr) (len2 cap2 : Nat) (z2 : Nat → Ak) (w : World) (w0 : (Lit.int .u64 a0).wf = true) (w1 : (Lit.int .i64 a1).wf = true) (w2 : InActs w a2 len2 z2) :
    Calls Try.prog 6 #[.int .u64 a0, .int .i64 a1, .slice a2 len2 cap2] w fun e w' => e = .returned (.bool true) ∧ Below w.heap.size w w' := by
  have W2 := Lib.hid w2
  have hm := made_sound a0 a1 (U64.of_wf w0) w
  clear w2 w0 w1
  go_enter Try.func6, Try.ntmps6
  go_wp2_with fail
  refine hm.mono ?_
  rintro e v1 ⟨b, c, rfl, r', n', h1⟩
  have H1 := Lib.hid h1.one
  clear h1 hm
  go_wp2_with fail
  refine (fAwake _).mono ?_
  rintro e v2 ⟨rfl, o2⟩
  have H2 : Hid (∃ F : Fl, ∃ O, FOne w v2 b F O ∧ F.e = 0 ∧ Tags F 0) := ⟨_, _, H1.out.only0 o2, rfl, fun h => absurd rfl h, fun _ => Int.le_refl _⟩
  clear o2 H1
  go_wp2_with fail
  go_loopg [11, 9, 10] (len2 + 1) (fun gk si ss sf wr => ∃ (p : Nat) (st0 fi0 : Int), si = .int .i64 (p : Int) ∧ ss = .int .u64 st0 ∧ sf = .int .u64 fi0 ∧ p ≤ len2 ∧ p ≤ 80 ∧ len2 + 1 ≤ gk + p ∧ Hid (∃ F : Fl, ∃ O, FOne w wr b F O ∧ F.e = fi0 ∧ Tags F st0))
  case atStart => exact ⟨0, 0, 0, rfl, rfl, rfl, by omega, by omega, by omega, H2⟩
  case round =>
    obtain ⟨p, st0, fi0, rfl, rfl, rfl, hp, hp80, hg, hS⟩ := hrel
    clear H2
    by_cases hc : p < len2 ∧ p < 80
    · have c1 : (p : Int) < (len2 : Int) := by omega
      have c2 : (p : Int) < 80 := by omega
      obtain ⟨F, O, hF, hFe, hT⟩ := hS.out
      obtain ⟨hdok, ad, bb, o, s, rfl, hadd, hbw, q0, q1, q2, q3, q4⟩ := W2.out p hc.1
      obtain ⟨d, ed⟩ : ∃ d, z2 p = d := ⟨_, rfl⟩
      rw [ed] at q0 q1 q2 q3 q4 hdok
      have r0 := hF.only.stays q0
      have r1 := hF.only.stays q1
      have r2 := hF.only.stays q2
      have r3 := hF.only.stays q3
      have r4 := hF.only.stays q4
      obtain ⟨qk, hqk, m1⟩ := fModN d.k 5 (by omega) (by omega)
      change ∀ w, Calls _ _ #[.int .i64 d.k, .int .i64 5] w _ at m1
      have hall : ∀ W, Only [] w W → W.cell? ⟨bb, o, s⟩ = some (.int .i64 d.k) ∧ W.cell? ⟨bb, o + 1, none⟩ = some (.int .u64 d.v) ∧ W.cell? ⟨bb, o + 2, none⟩ = some (.int .i64 d.p.f) ∧ W.cell? ⟨bb, o + 3, none⟩ = some (.int .i64 d.p.l) ∧ W.cell? ⟨bb, o + 4, none⟩ = some (.int .i64 d.p.m) := fun W hW => ⟨hW.stays q0, hW.stays q1, hW.stays q2, hW.stays q3, hW.stays q4⟩
      have OW := Lib.hid hF.only
      have HALL := Lib.hid hall
      -- what follows, whatever was done
      obtain ⟨vt, hvt, hv⟩ := aV d hdok
      obtain ⟨pk, hpk, hpa⟩ := aPacket d hdok
      have hA : Hid (∀ W, Only [] wr W → Calls Try.prog 14 #[.pointer (some ⟨b, 0, none⟩), .int .u64 vt, .agg #[.int .i64 pk.f, .int .i64 pk.l, .int .i64 pk.m]] W fun e U => e = .returned (.bool F.takes) ∧ ∃ G : Fl, ∃ O, FOne w U b G O ∧ fi0 ≤ G.e ∧ Tags G st0) := fun W hW =>
        ((hF.only0 hW).arrive vt hvt pk hpk).mono fun e U q => by
          obtain ⟨q1, O', q2, -⟩ := q
          exact ⟨q1, _, O', q2, hFe ▸ (hT.arr vt pk).2, (hT.arr vt pk).1⟩
      have hV : Hid (Calls Try.prog 16 #[.pointer (some ⟨b, 0, none⟩)] wr fun e U => e = .returned (.tuple #[.agg #[.int .i64 F.hd.f, .int .i64 F.hd.l, .int .i64 F.hd.m], .int .u64 F.out, .bool F.any]) ∧ ∃ G : Fl, ∃ O, FOne w U b G O ∧ fi0 ≤ G.e ∧ Tags G st0) :=
        hF.serve.mono fun e U q => by
          obtain ⟨q1, O', q2, -⟩ := q
          exact ⟨q1, _, O', q2, hFe ▸ (hT.srv hF.fl.1).2, (hT.srv hF.fl.1).1⟩
      have hv := Lib.hid hv
      have hpa := Lib.hid hpa
      clear q0 q1 q2 q3 q4 ed hbw hc hS hF hFe hT hall
      go_wp2_with fail
      refine (m1 _).mono ?_
      rintro e wr ⟨rfl, rfl⟩
      clear m1
      by_cases h3 : qk < 3
      · have h3' : (qk : Int) < 3 := by omega
        have st : Hid (Only [] wr wr.drew) := (Only.refl [] wr).drew
        clear hV h3
        go_wp2_with fail
        go_region_held3 (fun W => W.cell? ⟨bb, o, s⟩ = some (.int .i64 d.k) ∧ W.cell? ⟨bb, o + 1, none⟩ = some (.int .u64 d.v) ∧ W.cell? ⟨bb, o + 2, none⟩ = some (.int .i64 d.p.f) ∧ W.cell? ⟨bb, o + 3, none⟩ = some (.int .i64 d.p.l) ∧ W.cell? ⟨bb, o + 4, none⟩ = some (.int .i64 d.p.m))
          (first | (exact HALL.out _ R.out.choose_spec.choose_spec.1.only) | (exact HALL.out _ (OW.out.trans' st.out)) | go_keep)
          (first
            | (go_at_call 19; refine (hv.out _).mono ?_; rintro e u ⟨rfl, oo⟩; have st := Lib.hid (st.out.trans' oo); clear oo)
            | (go_at_call 20; refine (hpa.out _).mono ?_; rintro e u ⟨rfl, oo⟩; have st := Lib.hid (st.out.trans' oo); clear oo)
            | (go_at_call 14; refine (hA.out _ st.out).mono ?_; rintro e u ⟨rfl, oo⟩; have R := Lib.hid oo; clear oo))
        obtain ⟨G, O2, hG, hge, hT⟩ := R.out
        have hst := hG.start
        have hfi := hG.finish
        have g1 : ¬ (G.e < fi0) := by omega
        have g2 : decide (G.e < fi0) = false := decide_eq_false g1
        have HG := Lib.hid (And.intro hG hT)
        by_cases hl : G.l = []
        · have e1 := Fl.any_nil hl
          rw [e1] at hst
          clear hG hge hT R g1 hl e1
          go_wp2_with fail
          refine hst.mono ?_
          rintro e u3 ⟨rfl, rfl⟩
          go_wp2_with fail
          refine hfi.mono ?_
          rintro e u3 ⟨rfl, rfl⟩
          go_wp2_with fail
          refine hfi.mono ?_
          rintro e u3 ⟨rfl, rfl⟩
          go_wp2_with fail
          go_roundg (len2 + 1 - (p + 1))
          case measure => omega
          case rel => exact ⟨p + 1, st0, G.e, by simp, rfl, rfl, by omega, by omega, by omega, G, O2, HG.out.1, rfl, HG.out.2⟩
        · have e1 := Fl.any_cons hl
          have e2 : G.st = G.s := by unfold Fl.st; rw [if_neg hl]
          rw [e1, e2] at hst
          obtain ⟨t1, t2⟩ := hT.1 hl
          have g3 : ¬ (G.s < st0) := by omega
          have g4 : decide (G.s < st0) = false := decide_eq_false g3
          have g5 : ¬ (G.s < G.e) := by omega
          have g6 : decide (G.s < G.e) = false := decide_eq_false g5
          have HT : Hid (Tags G G.s) := ⟨fun _ => ⟨t1, Int.le_refl _⟩, fun h => absurd h hl⟩
          clear hG hge hT R g1 hl e1 e2 t1 t2 g3 g5
          go_wp2_with fail
          refine hst.mono ?_
          rintro e u3 ⟨rfl, rfl⟩
          go_wp2_with fail
          refine hfi.mono ?_
          rintro e u3 ⟨rfl, rfl⟩
          go_wp2_with fail
          refine hfi.mono ?_
          rintro e u3 ⟨rfl, rfl⟩
          go_wp2_with fail
          refine hfi.mono ?_
          rintro e u3 ⟨rfl, rfl⟩
          go_wp2_with fail
          go_roundg (len2 + 1 - (p + 1))
          case measure => omega
          case rel => exact ⟨p + 1, G.s, G.e, by simp, rfl, rfl, by omega, by omega, by omega, G, O2, HG.out.1, rfl, HT.out⟩
      · have h3' : ¬ ((qk : Int) < 3) := by omega
        have h3'' : decide ((qk : Int) < 3) = false := decide_eq_false h3'
        clear hA h3
        go_wp2_with fail
        refine hV.out.mono ?_
        rintro e u ⟨rfl, oo⟩
        have R := Lib.hid oo
        clear oo hV
        obtain ⟨G, O2, hG, hge, hT⟩ := R.out
        have hst := hG.start
        have hfi := hG.finish
        have g1 : ¬ (G.e < fi0) := by omega
        have g2 : decide (G.e < fi0) = false := decide_eq_false g1
        have HG := Lib.hid (And.intro hG hT)
        by_cases hl : G.l = []
        · have e1 := Fl.any_nil hl
          rw [e1] at hst
          clear hG hge hT R g1 hl e1
          go_wp2_with fail
          refine hst.mono ?_
          rintro e u3 ⟨rfl, rfl⟩
          go_wp2_with fail
          refine hfi.mono ?_
          rintro e u3 ⟨rfl, rfl⟩
          go_wp2_with fail
          refine hfi.mono ?_
          rintro e u3 ⟨rfl, rfl⟩
          go_wp2_with fail
          go_roundg (len2 + 1 - (p + 1))
          case measure => omega
          case rel => exact ⟨p + 1, st0, G.e, by simp, rfl, rfl, by omega, by omega, by omega, G, O2, HG.out.1, rfl, HG.out.2⟩
        · have e1 := Fl.any_cons hl
          have e2 : G.st = G.s := by unfold Fl.st; rw [if_neg hl]
          rw [e1, e2] at hst
          obtain ⟨t1, t2⟩ := hT.1 hl
          have g3 : ¬ (G.s < st0) := by omega
          have g4 : decide (G.s < st0) = false := decide_eq_false g3
          have g5 : ¬ (G.s < G.e) := by omega
          have g6 : decide (G.s < G.e) = false := decide_eq_false g5
          have HT : Hid (Tags G G.s) := ⟨fun _ => ⟨t1, Int.le_refl _⟩, fun h => absurd h hl⟩
          clear hG hge hT R g1 hl e1 e2 t1 t2 g3 g5
          go_wp2_with fail
          refine hst.mono ?_
          rintro e u3 ⟨rfl, rfl⟩
          go_wp2_with fail
          refine hfi.mono ?_
          rintro e u3 ⟨rfl, rfl⟩
          go_wp2_with fail
          refine hfi.mono ?_
          rintro e u3 ⟨rfl, rfl⟩
          go_wp2_with fail
          refine hfi.mono ?_
          rintro e u3 ⟨rfl, rfl⟩
          go_wp2_with fail
          go_roundg (len2 + 1 - (p + 1))
          case measure => omega
          case rel => exact ⟨p + 1, G.s, G.e, by simp, rfl, rfl, by omega, by omega, by omega, G, O2, HG.out.1, rfl, HT.out⟩
    · have hcd : (decide ((p : Int) < (len2 : Int)) = false ∧ ¬ ((p : Int) < (len2 : Int))) ∨ ((p : Int) < (len2 : Int) ∧ decide ((p : Int) < 80) = false) := by
        have hce : ¬ p < len2 ∨ (p < len2 ∧ ¬ p < 80) := by omega
        rcases hce with h9 | h9
        · exact .inl ⟨decide_eq_false (by omega), by omega⟩
        · exact .inr ⟨by omega, decide_eq_false (by omega)⟩
      clear hc
      rcases hcd with ⟨h1, h2⟩ | ⟨h1, h2⟩
      all_goals
        go_wp2_with fail
        go_ret
        obtain ⟨F, O, hF, -, -⟩ := hS.out
        exact ⟨rfl, hF.only.below (Nat.le_refl _) (by simp)⟩

/-! ### The step from the walk to the statement -/
set_option maxRecDepth 100000 in
theorem lifted (os : Os) (started : os.Started) (H : Type) (enc : TypeId × Value → H) :
    ReturnsInHanded {} Try.checked os 6 .any (Rows.flowRisesSpec.pre6 enc Try.prog Try.f6 Rows.flowRisesRow.domain false) (Rows.flowRisesSpec.post enc Try.prog Try.f6 false true false false) := by
  refine returnsInHanded_of_change (C := Try.checked) own started (by kernel_rfl) Try.func6
    (ChangeSpec.witness6 (enc := enc) (C := Try.checked) false ⟨#[], #[.int .u64 0, .int .i64 0, .slice none 0 0], []⟩ 8 (by kernel_rfl) (by kernel_rfl) (by kernel_rfl) (by kernel_rfl)) ?_
  intro W base args ds gs before hval0 hW hcnd _
  have hval : ∀ (j : Nat) t v, Try.f6.params[j]? = some t → args[j]? = some v → Value.okWide Try.prog W .any base t v := hval0
  have hW' := hW
  obtain ⟨p, q, hA0, hV, rfl, hfz, hnd⟩ := hW
  have hA : DataW.TrodAll enc Try.prog W 0 (fun _ => true) true Try.f6.params.toList args.toList ds p := hA0
  rw [Try.params6] at hA hval
  obtain ⟨v0, vs0, d0, ds0, p0, q0, hargs, rfl, rfl, h0, r0⟩ := trodAll_cons hA
  obtain ⟨v1, vs1, d1, ds1, p1, q1, rfl, rfl, rfl, h1, r1⟩ := trodAll_cons r0
  obtain ⟨v2, vs2, d2, ds2, p2, q2, rfl, rfl, rfl, h2, r2⟩ := trodAll_cons r1
  obtain ⟨rfl, rfl, rfl⟩ := trodAll_nil r2
  obtain rfl : args = #[v0, v1, v2] := by cases args; simp_all
  obtain ⟨rfl, rfl⟩ := trodVars_none hV
  obtain ⟨a0, rfl, rfl, rfl, w0⟩ := open_int Try.underlying22 (hval 0 22 v0 rfl rfl) h0
  obtain ⟨a1, rfl, rfl, rfl, w1⟩ := open_int Try.underlying3 (hval 1 3 v1 rfl rfl) h1
  obtain ⟨a2, len2, cap2, rfl⟩ := okWide_slice Try.underlying23 (hval 2 23 v2 rfl rfl)
  have k2 := h2
  have lt2 : ∀ x ∈ p2, x.block < W.heap.size := by obtain ⟨m, hm⟩ := k2; exact DataW.trod_lt m _ _ _ hm
  obtain ⟨z2, w2⟩ : ∃ z, InActs W a2 len2 z := by
    obtain ⟨fuel, hf⟩ := h2
    exact open_acts hf
  clear hA0 hval0
  refine (walk a0 a1 a2 len2 cap2 z2 W w0 w1 w2).mono fun e W' ⟨he, bel⟩ => ?_
  subst he
  exact ⟨_, rfl, _, _, _, [], _, [], hW', trodAll_mk1 (shut_bool Try.underlying4 _), (trodAll_cons_mk (shut_int Try.underlying22 w0) (trodAll_cons_mk (shut_int Try.underlying3 w1) (trodAll_cons_mk (Below.trod laidOut (by kernel_rfl) (of_decide_eq_true (by kernel_rfl)) k2 bel lt2) trodAll_mk0))), rfl, bel.frame _, fun h => by cases h⟩

theorem over : Rows.flowRisesRow.holds Try.pinned (OpenSpec.ofChange Rows.flowRisesSpec) :=
  OpenClaim.holds_of_wide 6 Try.f6 rfl rfl rfl rfl rfl rfl rfl ⟨rfl, rfl, rfl, rfl, rfl⟩ rfl rfl rfl rfl rfl (by kernel_rfl) Try.func6 (by kernel_rfl)
    (of_decide_eq_true (by kernel_rfl)) (by unfold Func.isWrapper; first | (rw [if_pos (by decide +kernel)]; kernel_rfl) | (rw [if_neg (by decide +kernel)]; exact ⟨rfl, rfl⟩))
    (fun os started H enc _ => lifted os started H enc)

/-- The statement. -/
theorem proved : Rows.FlowRisesSaid := over
#print axioms proved
end Go.Proofs.Ytgncjgjkfmpegaa.flowRises
