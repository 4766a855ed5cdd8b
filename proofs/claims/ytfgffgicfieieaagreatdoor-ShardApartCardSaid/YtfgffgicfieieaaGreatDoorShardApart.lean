/-
  weighbridgelaw06.ShardApart returns true for every input, and leaves its arguments as they were, where math/bits' table holds what the program's own text lays there (the card ties it). No other condition but that the arguments are values of their types.
-/
import Derived.Test.YtfgffgicfieieaaGreatDoorRows
import Derived.Test.YtfgffgicfieieaaGreatDoorTie
import Derived.Test.YtfgffgicfieieaaGreatDoorCards
import Derived.Test.YtfgffgicfieieaaGreatDoorShardT3
import Derived.ShutString
import Derived.ChangeOld
import Derived.Below
import Derived.SevenTiedAt
namespace Go.Proofs.YtfgffgicfieieaaGreatDoor.shardApart
open Go.ChangeShapes Go.WideShapes Go.ChangeAt Go.RowKit
set_option linter.unusedVariables false

set_option maxRecDepth 100000 in
set_option maxHeartbeats 8000000 in
theorem walk (a0 : Int) (a1 : Option Addr) (len1 cap1 : Nat) (z1 : Nat → Dd) (a2 : Option Addr) (len2 cap2 : Nat) (z2 : Nat → Dd) (w : World) (w0 : (Lit.int .i64 a0).wf = true) (w1 : InDeeds w a1 len1 z1) (w2 : InDeeds w a2 len2 z2) (hT : Tab w) :
    Calls Tryz.prog 6 #[.int .i64 a0, .slice a1 len1 cap1, .slice a2 len2 cap2] w fun e w' => e = .returned (.bool true) ∧ Below w.heap.size w w' := by
  have W1 := Lib.hid w1
  have W2 := Lib.hid w2
  have HT := Lib.hid hT
  obtain ⟨mf, qf, PL⟩ := plays_are
  have PL := Lib.hid PL
  clear w1 w2 hT
  go_enter Tryz.func6, Tryz.ntmps6
  go_wp2_with fail
  refine (made_sound a0 _).mono ?_
  rintro e v1 ⟨wb, S1, xb, T1, wd, rfl, h1⟩
  have H1 := Lib.hid h1
  clear h1
  go_wp2_with fail
  refine (made_sound a0 _).mono ?_
  rintro e v2 ⟨vb, S2, yb, T2, wd', rfl, h2⟩
  have aw := sAwake v2 (HT.out.only0 (H1.out.only.trans' h2.only))
  have H2 : Hid (Two w v2 wb S1 xb T1 wd 0 [] vb S2 yb T2 wd' 0 []) := by
    refine ⟨H1.out.only0 h2.only, ⟨h2.pair, fun b hb => Nat.le_trans H1.out.only.size (h2.newS b hb), fun b hb => Nat.le_trans H1.out.only.size (h2.newT b hb), H1.out.only.trans' h2.only⟩, fun x hx hc => ?_⟩
    have h8 := H1.out.ltS x hx
    rcases List.mem_append.1 hc with h9 | h9
    · have := h2.newS x h9; omega
    · have := h2.newT x h9; omega
  clear h2 H1
  go_wp2_with fail
  refine aw.mono ?_
  rintro e v3 ⟨rfl, o3⟩
  have H3 := Lib.hid (H2.out.only0 o3)
  clear H2 o3 aw
  go_wp2_with fail
  go_loopg [11] (len1 + 1) (fun gk si wr => ∃ (p : Nat) (S T : List Nat) (base : Int) (l : List It) (S' T' : List Nat) (base' : Int) (l' : List It), si = .int .i64 (p : Int) ∧ p ≤ len1 ∧ p ≤ 40 ∧ len1 + 1 ≤ gk + p ∧ l.length ≤ p ∧ l'.length ≤ p ∧ Hid (Two w wr wb S xb T wd base l vb S' yb T' wd' base' l'))
  case atStart => exact ⟨0, S1, T1, 0, [], S2, T2, 0, [], rfl, by omega, by omega, by omega, by simp, by simp, H3⟩
  case round =>
    obtain ⟨p, S, T, base, l, S', T', base', l', rfl, hp, hp80, hg, hlp, hlp', hS⟩ := hrel
    clear H3
    by_cases hc : p < len1 ∧ p < 40
    · have c1 : (p : Int) < (len1 : Int) := by omega
      have c2 : (p : Int) < 40 := by omega
      obtain ⟨hdok, ad, b, o, s, rfl, hadd, hbw, q0, q1, q2⟩ := W1.out p hc.1
      obtain ⟨d, ed⟩ : ∃ d, z1 p = d := ⟨_, rfl⟩
      rw [ed] at q0 q1 q2 hdok
      have r0 := hS.out.a.only.stay q0
      have r1 := hS.out.a.only.stay q1
      have r2 := hS.out.a.only.stay q2
      have hst := hS.out.stepA HT.out (by omega) d hdok PL.out
      have hl3 : (stepM mf qf d base l).2.length ≤ l.length + 1 := stepTo_len _ _ _ _ _ _
      generalize (stepM mf qf d base l).1 = base3 at *
      generalize (stepM mf qf d base l).2 = l3 at *
      clear q0 q1 q2 ed hbw
      by_cases hm : p < len2
      · have c3 : (p : Int) < (len2 : Int) := by omega
        obtain ⟨hdok', ad', b', o', s', rfl, hadd', hbw', g0, g1, g2⟩ := W2.out p hm
        obtain ⟨d', ed'⟩ : ∃ d', z2 p = d' := ⟨_, rfl⟩
        rw [ed'] at g0 g1 g2 hdok'
        have G := Lib.hid (And.intro g0 (And.intro g1 g2))
        clear g0 g1 g2 ed' hbw' hc hm
        go_wp2_with fail
        refine hst.mono ?_
        rintro e u1 ⟨rfl, S3, T3, h3⟩
        have g0 := h3.a.only.stay G.out.1
        have g1 := h3.a.only.stay G.out.2.1
        have g2 := h3.a.only.stay G.out.2.2
        have hst2 := h3.swap.stepA HT.out (by omega) d' hdok' PL.out
        have hl4 : (stepM mf qf d' base' l').2.length ≤ l'.length + 1 := stepTo_len _ _ _ _ _ _
        generalize (stepM mf qf d' base' l').1 = base4 at *
        generalize (stepM mf qf d' base' l').2 = l4 at *
        clear h3 hst
        go_wp2_with fail
        refine hst2.mono ?_
        rintro e u2 ⟨rfl, S4, T4, h4⟩
        have f1 := h4.swap.swap_again (by omega) HT.out
        clear h4 hst2 g0 g1 g2
        go_wp2_with fail
        refine f1.mono ?_
        rintro e u3 ⟨v, rfl, f2⟩
        clear f1
        go_wp2_with fail
        refine f2.mono ?_
        rintro e u4 ⟨rfl, h5⟩
        have f3 := h5.swap.swap_again (by omega) HT.out
        clear h5 f2
        go_wp2_with fail
        refine f3.mono ?_
        rintro e u5 ⟨v', rfl, f4⟩
        clear f3
        go_wp2_with fail
        refine f4.mono ?_
        rintro e u6 ⟨rfl, h6⟩
        have HS6 := Lib.hid h6.swap
        clear h6 f4
        go_wp2_with fail
        go_roundg (len1 + 1 - (p + 1))
        case measure => omega
        case rel => exact ⟨p + 1, S3, T3, base3, l3, S4, T4, base4, l4, by simp, by omega, by omega, by omega, by omega, by omega, HS6⟩
      · have c3 : decide ((p : Int) < (len2 : Int)) = false := decide_eq_false (by omega)
        have c4 : ¬ ((p : Int) < (len2 : Int)) := by omega
        clear hc hm
        go_wp2_with fail
        refine hst.mono ?_
        rintro e u1 ⟨rfl, S3, T3, h3⟩
        have f1 := h3.swap_again (by omega) HT.out
        clear h3 hst
        go_wp2_with fail
        refine f1.mono ?_
        rintro e u3 ⟨v, rfl, f2⟩
        clear f1
        go_wp2_with fail
        refine f2.mono ?_
        rintro e u4 ⟨rfl, h5⟩
        have f3 := h5.swap.swap_again (by omega) HT.out
        clear h5 f2
        go_wp2_with fail
        refine f3.mono ?_
        rintro e u5 ⟨v', rfl, f4⟩
        clear f3
        go_wp2_with fail
        refine f4.mono ?_
        rintro e u6 ⟨rfl, h6⟩
        have HS6 := Lib.hid h6.swap
        clear h6 f4
        go_wp2_with fail
        go_roundg (len1 + 1 - (p + 1))
        case measure => omega
        case rel => exact ⟨p + 1, S3, T3, base3, l3, S', T', base', l', by simp, by omega, by omega, by omega, by omega, by omega, HS6⟩
    · obtain ⟨Ax, capx, x0, xr, -, -⟩ := hS.out.a.refs
      obtain ⟨Ay, capy, y0, yr, -, -⟩ := hS.out.b.refs
      have HXR := Lib.hid xr
      have HYR := Lib.hid yr
      have hal := Lib.hid (hS.out.a.all HT.out wr.drew (Only.refl [] wr).drew)
      have hbl : Hid (∀ W, Only [] wr W → Calls Tryz.prog 15 #[.pointer (some ⟨vb, 0, none⟩)] W fun e w' => ∃ A cap, e = .returned (.slice A l'.length cap) ∧ RowIs w' (.slice A l'.length cap) l' ∧ (∀ k, (Value.slice A l'.length cap).ownBlock = some k → W.heap.size ≤ k) ∧ Only [] W w') := fun W oW => hS.out.b.all HT.out W oW
      have hov : Hid (∀ W, Only [] wr W → Calls Tryz.prog 12 #[.pointer (some ⟨wb, 0, none⟩)] W fun e w' => e = .returned (.int .i64 ((fars wd base l).length : Int)) ∧ w' = W) := fun W oW => hS.out.a.over W oW
      have hro : Hid (∀ W, Only [] wr W → Calls Tryz.prog 13 #[.pointer (some ⟨xb, 0, none⟩)] W fun e w' => e = .returned (.int .i64 ((fars wd base l).length : Int)) ∧ Only [] W w') := fun W oW => hS.out.a.refover W oW
      have mk1 : True := trivial
      have mk2 : True := trivial
      have hcd : (decide ((p : Int) < (len1 : Int)) = false ∧ ¬ ((p : Int) < (len1 : Int))) ∨ ((p : Int) < (len1 : Int) ∧ decide ((p : Int) < 40) = false) := by
        have hce : ¬ p < len1 ∨ (p < len1 ∧ ¬ p < 40) := by omega
        rcases hce with h9 | h9
        · exact .inl ⟨decide_eq_false (by omega), by omega⟩
        · exact .inr ⟨by omega, decide_eq_false (by omega)⟩
      clear hc hp xr yr
      rcases hcd with ⟨c1, c2⟩ | ⟨c1, c2⟩
      all_goals
        go_wp2_with fail
        go_region_held3 (fun w' => w'.cell? ⟨xb, 0, none⟩ = some (.slice Ax l.length capx) ∧ w'.cell? ⟨yb, 0, none⟩ = some (.slice Ay l'.length capy))
          (first | go_keep | (exact ⟨k0, k1⟩) | (exact ⟨k2, k3⟩) | (exact ⟨k4, k5⟩) | (exact ⟨k6, k7⟩) | (exact ⟨k8, k9⟩))
          (first
            | (go_at_call 15; clear mk1; refine hal.out.mono ?_; rintro e u1 ⟨A2, cap2, rfl, r2, v2, o2⟩; have k0 := o2.stay (p := ⟨xb, 0, none⟩) (v := .slice Ax l.length capx) (by exact x0); have k1 := o2.stay (p := ⟨yb, 0, none⟩) (v := .slice Ay l'.length capy) (by exact y0); have O2 := Lib.hid ((Only.refl [] wr).drew.trans' o2); have R2 := Lib.hid (And.intro r2 (HXR.out.keep (w' := u1) (fun g hg => ((Only.refl [] wr).drew.trans' o2).block g (HXR.out.lt hg) (by simp)))); clear r2 v2 o2)
            | (go_at_call 14; clear mk2; refine (hPlain _ _ _ l l (by exact R2.out.1) (by exact R2.out.2) (by omega) (by omega)).mono ?_; rintro e u2 ⟨rfl, o3⟩; have k2 := o3.stay k0; have k3 := o3.stay k1; have O3 := Lib.hid (O2.out.trans' o3); clear o3 R2)
            | (go_at_call 15; refine (hbl.out _ O3.out).mono ?_; rintro e u3 ⟨A4, cap4, rfl, r4, v4, o4⟩; have k4 := o4.stay k2; have k5 := o4.stay k3; have O4 := Lib.hid (O3.out.trans' o4); have R4 := Lib.hid (And.intro r4 (HYR.out.keep (w' := u3) (fun g hg => (O4.out).block g (HYR.out.lt hg) (by simp)))); clear r4 v4 o4)
            | (go_at_call 14; refine (hPlain _ _ _ l' l' (by exact R4.out.1) (by exact R4.out.2) (by omega) (by omega)).mono ?_; rintro e u4 ⟨rfl, o5⟩; have k6 := o5.stay k4; have k7 := o5.stay k5; have O5 := Lib.hid (O4.out.trans' o5); clear o5)
            | (go_at_call 12; refine (hov.out _ O5.out).mono ?_; rintro e w' ⟨rfl, rfl⟩)
            | (go_at_call 13; refine (hro.out _ O5.out).mono ?_; rintro e u5 ⟨rfl, o6⟩; have k8 := o6.stay k6; have k9 := o6.stay k7; have O6 := Lib.hid (O5.out.trans' o6); clear o6))
        go_wp2_with fail
        go_ret
        exact ⟨by simp, (hS.out.a.only.trans' O6.out).below (Nat.le_refl _) (by simp)⟩

/-! ### The step from the walk to the row -/
set_option maxRecDepth 100000 in
theorem lifted (os : Os) (started : os.Started) (H : Type) (enc : TypeId × Value → H) :
    ReturnsInHanded {} Tryz.checked os 6 .any (fun w args => (Rows.shardApartSpec.pre enc Tryz.prog Tryz.f6 [] false w args ∧ laidMetH Tryz.prog listed w) ∧ sizedMet enc Tryz.prog Tryz.f6 (OpenSpec.ofChange Rows.shardApartSpec) false w args)
      (Rows.shardApartSpec.post enc Tryz.prog Tryz.f6 false true false false) := by
  refine returnsInHanded_of_change_and (C := Tryz.checked) (X := fun w _ => laidMetH Tryz.prog listed w) (fun _ _ _ hh h => h.of_heap hh) own started (by kernel_rfl) Tryz.func6
    (ChangeSpec.witness_shaped (enc := enc) (C := Tryz.checked) (os := os) (X := fun w _ => laidMetH Tryz.prog listed w) false (World.doorLaid Tryz.prog 14 os) #[.int .i64 0, .slice none 0 0, .slice none 0 0] 8 rfl (World.shaped_of_RefB (by kernel_rfl) (by kernel_rfl)) (by kernel_rfl) (by kernel_rfl) (by kernel_rfl) (door_met os _)) ?_
  intro W base args ds gs before hval0 hW _ _ hL _
  have hval : ∀ (j : Nat) t v, Tryz.f6.params[j]? = some t → args[j]? = some v → Value.okWide Tryz.prog W .any base t v := hval0
  have hW' := hW
  obtain ⟨p, q, hA0, hV, rfl, hfz, hnd⟩ := hW
  have hA : DataW.TrodAll enc Tryz.prog W 0 (fun _ => true) true Tryz.f6.params.toList args.toList ds p := hA0
  rw [Tryz.params6] at hA hval
  obtain ⟨v0, vs0, d0, ds0, p0, q0, hargs, rfl, rfl, h0, r0⟩ := trodAll_cons hA
  obtain ⟨v1, vs1, d1, ds1, p1, q1, rfl, rfl, rfl, h1, r1⟩ := trodAll_cons r0
  obtain ⟨v2, vs2, d2, ds2, p2, q2, rfl, rfl, rfl, h2, r2⟩ := trodAll_cons r1
  obtain ⟨rfl, rfl, rfl⟩ := trodAll_nil r2
  obtain rfl : args = #[v0, v1, v2] := by cases args; simp_all
  obtain ⟨rfl, rfl⟩ := trodVars_none hV
  obtain ⟨a0, rfl, rfl, rfl, w0⟩ := open_int Tryz.underlying3 (hval 0 3 v0 rfl rfl) h0
  obtain ⟨a1, len1, cap1, rfl⟩ := okWide_slice Tryz.underlying22 (hval 1 22 v1 rfl rfl)
  have k1 := h1
  have lt1 : ∀ x ∈ p1, x.block < W.heap.size := by obtain ⟨m, hm⟩ := k1; exact DataW.trod_lt m _ _ _ hm
  obtain ⟨z1, w1⟩ : ∃ z, InDeeds W a1 len1 z := by
    obtain ⟨fuel, hf⟩ := h1
    exact open_deeds hf
  obtain ⟨a2, len2, cap2, rfl⟩ := okWide_slice Tryz.underlying22 (hval 2 22 v2 rfl rfl)
  have k2 := h2
  have lt2 : ∀ x ∈ p2, x.block < W.heap.size := by obtain ⟨m, hm⟩ := k2; exact DataW.trod_lt m _ _ _ hm
  obtain ⟨z2, w2⟩ : ∃ z, InDeeds W a2 len2 z := by
    obtain ⟨fuel, hf⟩ := h2
    exact open_deeds hf
  clear hA0 hval0
  refine (walk a0 a1 len1 cap1 z1 a2 len2 cap2 z2 W w0 w1 w2 (tab_of_laid hL)).mono fun e W' ⟨he, bel⟩ => ?_
  subst he
  exact ⟨_, rfl, _, _, _, [], _, [], hW', trodAll_mk1 (shut_bool Tryz.underlying4 _), (trodAll_cons_mk (shut_int Tryz.underlying3 w0) (trodAll_cons_mk (Below.trod laidOut (by kernel_rfl) (of_decide_eq_true (by kernel_rfl)) k1 bel lt1) (trodAll_cons_mk (Below.trod laidOut (by kernel_rfl) (of_decide_eq_true (by kernel_rfl)) k2 bel lt2) trodAll_mk0))), rfl, bel.frame _, fun h => by cases h⟩

theorem over : Rows.shardApartRow.holds Tryz.pinned (OpenSpec.ofChange Rows.shardApartSpec) :=
  OpenClaim.holds_of_wide 6 Tryz.f6 rfl rfl rfl rfl rfl rfl rfl ⟨rfl, rfl, rfl, rfl, rfl⟩ rfl rfl rfl rfl rfl (by kernel_rfl) Tryz.func6 (by kernel_rfl)
    (of_decide_eq_true (by kernel_rfl)) (by unfold Func.isWrapper; first | (rw [if_pos (by decide +kernel)]; kernel_rfl) | (rw [if_neg (by decide +kernel)]; exact ⟨rfl, rfl⟩))
    (fun os started H enc _ => lifted os started H enc)

/-- The statement: the card, its listed variable tied to the program's text. -/
theorem proved : Rows.ShardApartCardSaid :=
  Claim7.holds_tied_plain_at .later [] [.data] true (true, "54366cd7a8cab88fcfb17f69fae1922cb218978da292337e226842dc674c99a2") false
    over (fun _ h => by cases h) (by kernel_rfl) (fun _ h => by cases h) shardApart_row_tie rfl ⟨rfl, rfl⟩ (by kernel_rfl) rfl
    (fun f fn hf hfn => by
      obtain rfl : f = 6 := Option.some.inj ((show Tryz.prog.funcNamed "weighbridge/weighbridgelaw06.ShardApart" = some 6 by kernel_rfl).symm.trans hf) |>.symm
      obtain rfl : fn = Tryz.f6 := (Option.some.inj (Tryz.func6.symm.trans hfn)).symm
      exact ⟨by kernel_rfl, fun j t ht => by
        rw [Tryz.params6] at ht
        have hm : t ∈ [3, 22, 22] := by simpa using Array.mem_of_getElem? ht
        have hall : ([3, 22, 22].all fun u => !Tryz.prog.wantsStandIn u) = true := by kernel_rfl
        exact (show Tryz.prog.wantsStandIn t = false by simpa using List.all_eq_true.1 hall t hm)⟩)
    (by kernel_rfl)
#print axioms proved
end Go.Proofs.YtfgffgicfieieaaGreatDoor.shardApart
