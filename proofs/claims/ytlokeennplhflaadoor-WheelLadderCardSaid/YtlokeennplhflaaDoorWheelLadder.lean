/-
  weighbridgelaw05.WheelLadder returns true for every input, and leaves its arguments as they were, where math/bits' table holds what the program's own text lays there (the card ties it). No other condition but that the arguments are values of their types.
-/
import Derived.Test.YtlokeennplhflaaDoorRows
import Derived.Test.YtlokeennplhflaaDoorTie
import Derived.Test.YtlokeennplhflaaDoorCards
import Derived.Test.YtlokeennplhflaaDoorWheelT6
import Derived.ShutString
import Derived.ChangeOld
import Derived.Below
import Derived.SevenTiedAt
namespace Go.Proofs.YtlokeennplhflaaDoor.wheelLadder
open Go.ChangeShapes Go.WideShapes Go.ChangeAt Go.RowKit
set_option linter.unusedVariables false

set_option maxRecDepth 100000 in
set_option maxHeartbeats 8000000 in
theorem walk (a0 : Int) (a1 : Option Addr) (len1 cap1 : Nat) (z1 : Nat → Dd) (w : World) (w0 : (Lit.int .i64 a0).wf = true) (w1 : InDeeds w a1 len1 z1) (hT : Tab w) :
    Calls Tryd.prog 7 #[.int .i64 a0, .slice a1 len1 cap1] w fun e w' => e = .returned (.bool true) ∧ Below w.heap.size w w' := by
  have W1 := Lib.hid w1
  have HT := Lib.hid hT
  clear w1 hT
  go_enter Tryd.func7, Tryd.ntmps7
  go_wp2_with fail
  refine (made_sound a0 _).mono ?_
  rintro e v1 ⟨wb, S1, xb, T1, wd, rfl, h1⟩
  have aw := wAwake v1 (h1.tab HT.out).1
  have H1 := Lib.hid h1
  clear h1
  go_wp2_with fail
  refine aw.mono ?_
  rintro e v2 ⟨rfl, o2⟩
  have H2 := Lib.hid (H1.out.only0 o2)
  clear H1 o2 aw
  go_wp2_with fail
  go_loopg [7] (len1 + 1) (fun gk si wr => ∃ (p : Nat) (S T : List Nat) (base : Int) (l : List It), si = .int .i64 (p : Int) ∧ p ≤ len1 ∧ p ≤ 60 ∧ len1 + 1 ≤ gk + p ∧ l.length ≤ p ∧ Hid (Sound w wr wb S xb T wd base l))
  case atStart => exact ⟨0, S1, T1, 0, [], rfl, by omega, by omega, by omega, by simp, H2⟩
  case round =>
    obtain ⟨p, S, T, base, l, rfl, hp, hp80, hg, hlp, hS⟩ := hrel
    clear H2
    by_cases hc : p < len1 ∧ p < 60
    · have c1 : (p : Int) < (len1 : Int) := by omega
      have c2 : (p : Int) < 60 := by omega
      obtain ⟨hdok, ad, b, o, s, rfl, hadd, hbw, q0, q1, q2⟩ := W1.out p hc.1
      obtain ⟨d, ed⟩ : ∃ d, z1 p = d := ⟨_, rfl⟩
      rw [ed] at q0 q1 q2 hdok
      have r0 := hS.out.only.stay q0
      have r1 := hS.out.only.stay q1
      have r2 := hS.out.only.stay q2
      have hst := hS.out.step HT.out (by omega) d hdok wr (Only.refl [] wr)
      clear q0 q1 q2 ed hbw hc
      go_wp2_with fail
      refine hst.mono ?_
      rintro e u1 ⟨rfl, S2, T2, base2, l2, hs2, hl2⟩
      have HS2 := Lib.hid hs2
      clear hs2 hst
      go_wp2_with fail
      go_roundg (len1 + 1 - (p + 1))
      case measure => omega
      case rel => exact ⟨p + 1, S2, T2, base2, l2, by simp, by omega, by omega, by omega, by omega, HS2⟩
    · have hcd : (decide ((p : Int) < (len1 : Int)) = false ∧ ¬ ((p : Int) < (len1 : Int))) ∨ ((p : Int) < (len1 : Int) ∧ decide ((p : Int) < 60) = false) := by
        have hce : ¬ p < len1 ∨ (p < len1 ∧ ¬ p < 60) := by omega
        rcases hce with h9 | h9
        · exact .inl ⟨decide_eq_false (by omega), by omega⟩
        · exact .inr ⟨by omega, decide_eq_false (by omega)⟩
      clear hc hp
      have hal := hS.out.all HT.out wr (Only.refl [] wr)
      rcases hcd with ⟨c1, c2⟩ | ⟨c1, c2⟩
      all_goals
        go_wp2_with fail
        refine hal.mono ?_
        rintro e x1 ⟨A2, cap2, rfl, r2, v2, o2⟩
        have hB : Hid (Beside w x1 wb S xb T wd base l (.slice A2 l.length cap2)) := ⟨hS.out.only0 o2, r2⟩
        clear r2 v2 o2 hal hS
        go_wp2_with fail
        go_loopg [9] (l.length + 1) (fun gk s9 wv => ∃ i : Nat, s9 = .int .i64 (i : Int) ∧ i ≤ l.length ∧ l.length + 1 ≤ gk + i ∧ Hid (Beside w wv wb S xb T wd base l (.slice A2 l.length cap2)))
        case atStart => exact ⟨0, rfl, by omega, by omega, hB⟩
        case round =>
          obtain ⟨i, rfl, hi, hgi, hV⟩ := hrel
          clear hB
          by_cases hil : i < l.length
          · have cil : (i : Int) < (l.length : Int) := by omega
            obtain ⟨g, cap', e9, -⟩ := hV.out.row.at_ (by omega)
            cases e9
            obtain ⟨k, L, b, ek, k0, k1, hPl, hpl⟩ := hV.out.placed hil
            have ck := hV.out.key hil
            rw [ek] at ck
            have HPl := Lib.hid (And.intro hPl hpl)
            obtain ⟨-, -, -, -, -, cw⟩ := hV.out.sound.refs
            have hba : Hid (∀ W, Only [] wr W → Calls Tryd.prog 23 #[.pointer (some ⟨wb, 0, none⟩)] W fun e w' => e = .returned (.int .u64 base) ∧ w' = W) := fun W oW => hV.out.sound.base W oW
            have hlv := Lib.hid (fun W => hV.out.level k0 k1 hPl W)
            have hbk := Lib.hid (fun W => hV.out.bucket k0 k1 hPl W)
            have l3 : ¬ ((L : Int) > 2) := by have := hPl.l3; omega
            have l0 : ¬ ((L : Int) < 0) := by omega
            have EK := Lib.hid ek
            clear ek hPl hpl
            go_wp2_with fail
            go_quiet (first | (go_at_call 23; exact Calls.quiet_of_same (hba.out _ ((Only.refl [] wr).drewN _))) | (go_at_call 14; exact Calls.quiet_of_same (hlv.out _)))
            have hV2 := Lib.hid (hV.out.only0 ((Only.refl [] wr).drewN nq))
            generalize wr.drewN nq = wl at *
            have ck2 := hV2.out.key hil
            rw [EK.out] at ck2
            obtain ⟨-, -, -, -, -, cw2⟩ := hV2.out.sound.refs
            clear hV hba hlv
            go_wp2_with fail
            go_quiet ((go_at_call 16; exact Calls.quiet_of_same (hbk.out _)))
            have hV3 := Lib.hid (hV2.out.only0 ((Only.refl [] wl).drewN nq))
            generalize wl.drewN nq = wm at *
            clear hV2 hbk ck cw ck2 cw2
            by_cases i0 : i = 0
            · subst i0
              go_wp2_with fail
              go_loopg [12] (L + 1) (fun gk s12 wv => ∃ q : Nat, s12 = .int .i64 (q : Int) ∧ q ≤ L ∧ L + 1 ≤ gk + q ∧ Hid (Beside w wv wb S xb T wd base l (.slice (some ⟨g, 0, none⟩) l.length cap2)))
              case atStart => exact ⟨0, rfl, by omega, by omega, hV3⟩
              case round =>
                obtain ⟨q, rfl, hq, hgq, hX⟩ := hrel
                clear hV3
                by_cases hqL : q < L
                · have cq : (q : Int) < (L : Int) := by omega
                  have mp := hX.out.low HPl.out.1.l3 HPl.out.2 hqL wr (Only.refl [] wr)
                  go_wp2_with fail
                  refine mp.mono ?_
                  rintro e y1 ⟨rfl, rfl⟩
                  go_wp2_with fail
                  go_roundg (L + 1 - (q + 1))
                  case measure => omega
                  case rel => exact ⟨q + 1, by simp, by omega, by omega, hX⟩
                · have cq : decide ((q : Int) < (L : Int)) = false := decide_eq_false (by omega)
                  have cq2 : ¬ ((q : Int) < (L : Int)) := by omega
                  have mp := hX.out.here (by omega) HPl.out.1.l3 HPl.out.1.b64 HPl.out.2 wr (Only.refl [] wr)
                  go_wp2_with fail
                  refine mp.mono ?_
                  rintro e y1 ⟨m, rfl, rfl, bm⟩
                  go_wp2_with fail
                  refine bm.mono ?_
                  rintro e y2 ⟨g2, n2, cp2, rfl, cb, o9⟩
                  have hX2 := Lib.hid (hX.out.only0 o9)
                  have hn2 : ¬ (((n2 + 1 : Nat) : Int) = 0) := by omega
                  have hn3 : (0 : Int) < ((n2 + 1 : Nat) : Int) := by omega
                  clear bm mp o9
                  go_wp2_with fail
                  go_roundg (l.length + 1 - 1)
                  case measure => omega
                  case rel => exact ⟨1, by simp, by omega, by omega, hX2⟩
            · obtain ⟨j, hj⟩ : ∃ j, i = j + 1 := ⟨i - 1, by omega⟩
              have hjl : j < l.length := by omega
              obtain ⟨k', L', b', ek', k0', k1', hPl', hpl'⟩ := hV3.out.placed hjl
              have hle := hV3.out.lies.le (show j < i by omega) hil
              rw [hpl', HPl.out.2] at hle
              have hb9 := HPl.out.1.b64
              have hb8 := hPl'.b64
              have ck := hV3.out.key hjl
              rw [ek'] at ck
              obtain ⟨-, -, -, -, -, cw⟩ := hV3.out.sound.refs
              have hba : Hid (∀ W, Only [] wm W → Calls Tryd.prog 23 #[.pointer (some ⟨wb, 0, none⟩)] W fun e w' => e = .returned (.int .u64 base) ∧ w' = W) := fun W oW => hV3.out.sound.base W oW
              have hlv := Lib.hid (fun W => hV3.out.level k0' k1' hPl' W)
              have hbk := Lib.hid (fun W => hV3.out.bucket k0' k1' hPl' W)
              have hi0 : ¬ ((i : Int) = 0) := by omega
              have hcs : (L' < L ∧ ¬ ((L' : Int) > (L : Int)) ∧ ¬ ((L' : Int) = (L : Int))) ∨ (L' = L ∧ ¬ ((b' : Int) > (b : Int))) := by
                rcases Nat.lt_trichotomy L' L with h9 | h9 | h9
                · exact .inl ⟨h9, by omega, by omega⟩
                · exact .inr ⟨h9, by omega⟩
                · exfalso; omega
              have EJ := Lib.hid (And.intro ek' (And.intro hj (And.intro hle hpl')))
              have hij : (i : Int) - 1 = (j : Int) := by omega
              have hiw : IntKind.i64.wrap ((i : Int) - 1) = (j : Int) := by rw [hij]; exact IntWalk.i64_in _ (by omega)
              have hjl2 : (j : Int) < (l.length : Int) := by omega
              clear ek' hj hle hpl' hb9 hb8 hPl'
              go_wp2_with fail
              go_quiet (first | (go_at_call 23; exact Calls.quiet_of_same (hba.out _ ((Only.refl [] wm).drewN _))) | (go_at_call 14; exact Calls.quiet_of_same (hlv.out _)))
              have hV4 := Lib.hid (hV3.out.only0 ((Only.refl [] wm).drewN nq))
              generalize wm.drewN nq = wn at *
              clear ck cw hV3 hba hlv
              have ck := hV4.out.key hjl
              rw [EJ.out.1] at ck
              obtain ⟨-, -, -, -, -, cw⟩ := hV4.out.sound.refs
              rcases hcs with ⟨s1, s2, s3⟩ | ⟨s1, s2⟩
              · have s4 : ¬ L' = L := by omega
                have s5 : ¬ L < L' := by omega
                have s6 : ((L' : Int) == (L : Int)) = false := by rw [beq_eq_false_iff_ne]; omega
                have s7 : decide ((L' : Int) > (L : Int)) = false := decide_eq_false (by omega)
                have s8 : decide ((L' : Int) = (L : Int)) = false := decide_eq_false (by omega)
                go_wp2_with fail
                go_quiet (fail)
                have hV5 := Lib.hid (hV4.out.only0 ((Only.refl [] wn).drewN nq))
                generalize wn.drewN nq = wo at *
                clear hV4 ck cw hiw hij
                go_wp2_with fail
                go_roundg (l.length + 1 - (i + 1))
                case measure => omega
                case rel => exact ⟨i + 1, by simp, by omega, by omega, hV5⟩
              · subst s1
                go_wp2_with fail
                go_quiet ((go_at_call 16; exact Calls.quiet_of_same (hbk.out _)))
                have hV5 := Lib.hid (hV4.out.only0 ((Only.refl [] wn).drewN nq))
                generalize wn.drewN nq = wo at *
                clear hV4 ck cw hiw hij
                go_wp2_with fail
                go_roundg (l.length + 1 - (i + 1))
                case measure => omega
                case rel => exact ⟨i + 1, by simp, by omega, by omega, hV5⟩
          · have cil : decide ((i : Int) < (l.length : Int)) = false := decide_eq_false (by omega)
            have cil2 : ¬ ((i : Int) < (l.length : Int)) := by omega
            obtain ⟨Ax, capx, cx, -, -, -⟩ := hV.out.sound.refs
            go_wp2_with fail
            go_ret
            exact ⟨by simp, hV.out.sound.only.below (Nat.le_refl _) (by simp)⟩

/-! ### The step from the walk to the row -/
set_option maxRecDepth 100000 in
theorem lifted (os : Os) (started : os.Started) (H : Type) (enc : TypeId × Value → H) :
    ReturnsInHanded {} Tryd.checked os 7 .any (fun w args => (Rows.wheelLadderSpec.pre enc Tryd.prog Tryd.f7 [] false w args ∧ laidMetH Tryd.prog listed w) ∧ sizedMet enc Tryd.prog Tryd.f7 (OpenSpec.ofChange Rows.wheelLadderSpec) false w args)
      (Rows.wheelLadderSpec.post enc Tryd.prog Tryd.f7 false true false false) := by
  refine returnsInHanded_of_change_and (C := Tryd.checked) (X := fun w _ => laidMetH Tryd.prog listed w) (fun _ _ _ hh h => h.of_heap hh) own started (by kernel_rfl) Tryd.func7
    (ChangeSpec.witness_shaped (enc := enc) (C := Tryd.checked) (os := os) (X := fun w _ => laidMetH Tryd.prog listed w) false (World.doorLaid Tryd.prog 14 os) #[.int .i64 0, .slice none 0 0] 8 rfl (World.shaped_of_RefB (by kernel_rfl) (by kernel_rfl)) (by kernel_rfl) (by kernel_rfl) (by kernel_rfl) (door_met os _)) ?_
  intro W base args ds gs before hval0 hW _ _ hL _
  have hval : ∀ (j : Nat) t v, Tryd.f7.params[j]? = some t → args[j]? = some v → Value.okWide Tryd.prog W .any base t v := hval0
  have hW' := hW
  obtain ⟨p, q, hA0, hV, rfl, hfz, hnd⟩ := hW
  have hA : DataW.TrodAll enc Tryd.prog W 0 (fun _ => true) true Tryd.f7.params.toList args.toList ds p := hA0
  rw [Tryd.params7] at hA hval
  obtain ⟨v0, vs0, d0, ds0, p0, q0, hargs, rfl, rfl, h0, r0⟩ := trodAll_cons hA
  obtain ⟨v1, vs1, d1, ds1, p1, q1, rfl, rfl, rfl, h1, r1⟩ := trodAll_cons r0
  obtain ⟨rfl, rfl, rfl⟩ := trodAll_nil r1
  obtain rfl : args = #[v0, v1] := by cases args; simp_all
  obtain ⟨rfl, rfl⟩ := trodVars_none hV
  obtain ⟨a0, rfl, rfl, rfl, w0⟩ := open_int Tryd.underlying3 (hval 0 3 v0 rfl rfl) h0
  obtain ⟨a1, len1, cap1, rfl⟩ := okWide_slice Tryd.underlying37 (hval 1 37 v1 rfl rfl)
  have k1 := h1
  have lt1 : ∀ x ∈ p1, x.block < W.heap.size := by obtain ⟨m, hm⟩ := k1; exact DataW.trod_lt m _ _ _ hm
  obtain ⟨z1, w1⟩ : ∃ z, InDeeds W a1 len1 z := by
    obtain ⟨fuel, hf⟩ := h1
    exact open_deeds hf
  clear hA0 hval0
  refine (walk a0 a1 len1 cap1 z1 W w0 w1 (tab_of_laid hL)).mono fun e W' ⟨he, bel⟩ => ?_
  subst he
  exact ⟨_, rfl, _, _, _, [], _, [], hW', trodAll_mk1 (shut_bool Tryd.underlying4 _), (trodAll_cons_mk (shut_int Tryd.underlying3 w0) (trodAll_cons_mk (Below.trod laidOut (by kernel_rfl) (of_decide_eq_true (by kernel_rfl)) k1 bel lt1) trodAll_mk0)), rfl, bel.frame _, fun h => by cases h⟩

theorem over : Rows.wheelLadderRow.holds Tryd.pinned (OpenSpec.ofChange Rows.wheelLadderSpec) :=
  OpenClaim.holds_of_wide 7 Tryd.f7 rfl rfl rfl rfl rfl rfl rfl ⟨rfl, rfl, rfl, rfl, rfl⟩ rfl rfl rfl rfl rfl (by kernel_rfl) Tryd.func7 (by kernel_rfl)
    (of_decide_eq_true (by kernel_rfl)) (by unfold Func.isWrapper; first | (rw [if_pos (by decide +kernel)]; kernel_rfl) | (rw [if_neg (by decide +kernel)]; exact ⟨rfl, rfl⟩))
    (fun os started H enc _ => lifted os started H enc)

/-- The statement: the card, its listed variable tied to the program's text. -/
theorem proved : Rows.WheelLadderCardSaid :=
  Claim7.holds_tied_plain_at .later [] [.data] true (true, "c1baca7e8a45fd53add94cf52a5f971d519e3f9f1c46d631b42e2657d54dce93") false
    over (fun _ h => by cases h) (by kernel_rfl) (fun _ h => by cases h) wheelLadder_row_tie rfl ⟨rfl, rfl⟩ (by kernel_rfl) rfl
    (fun f fn hf hfn => by
      obtain rfl : f = 7 := Option.some.inj ((show Tryd.prog.funcNamed "weighbridge/weighbridgelaw05.WheelLadder" = some 7 by kernel_rfl).symm.trans hf) |>.symm
      obtain rfl : fn = Tryd.f7 := (Option.some.inj (Tryd.func7.symm.trans hfn)).symm
      exact ⟨by kernel_rfl, fun j t ht => by
        rw [Tryd.params7] at ht
        have hm : t ∈ [3, 37] := by simpa using Array.mem_of_getElem? ht
        have hall : ([3, 37].all fun u => !Tryd.prog.wantsStandIn u) = true := by kernel_rfl
        exact (show Tryd.prog.wantsStandIn t = false by simpa using List.all_eq_true.1 hall t hm)⟩)
    (by kernel_rfl)
#print axioms proved
end Go.Proofs.YtlokeennplhflaaDoor.wheelLadder
