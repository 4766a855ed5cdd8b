/-
  weighbridgelaw05.WheelMaps returns true for every input, and leaves its arguments as they were, where math/bits' table holds what the program's own text lays there (the card ties it). No other condition but that the arguments are values of their types.
-/
import Derived.Test.YtlokeennplhflaaDoorRows
import Derived.Test.YtlokeennplhflaaDoorTie
import Derived.Test.YtlokeennplhflaaDoorCards
import Derived.Test.YtlokeennplhflaaDoorWheelT5
import Derived.ShutString
import Derived.ChangeOld
import Derived.Below
import Derived.SevenTiedAt
namespace Go.Proofs.YtlokeennplhflaaDoor.wheelMaps
open Go.ChangeShapes Go.WideShapes Go.ChangeAt Go.RowKit
set_option linter.unusedVariables false

set_option maxRecDepth 100000 in
set_option maxHeartbeats 8000000 in
theorem walk (a0 : Int) (a1 : Option Addr) (len1 cap1 : Nat) (z1 : Nat → Dd) (a2 : Int) (w : World) (w0 : (Lit.int .i64 a0).wf = true) (w1 : InDeeds w a1 len1 z1) (w2 : (Lit.int .i64 a2).wf = true) (hT : Tab w) :
    Calls Tryd.prog 6 #[.int .i64 a0, .slice a1 len1 cap1, .int .i64 a2] w fun e w' => e = .returned (.bool true) ∧ Below w.heap.size w w' := by
  have W1 := Lib.hid w1
  have HT := Lib.hid hT
  clear w1 hT
  go_enter Tryd.func6, Tryd.ntmps6
  go_wp2_with fail
  refine (made_sound a0 _).mono ?_
  rintro e v1 ⟨wb, S1, xb, T1, wd, rfl, h1⟩
  have aw := wAwake v1 (h1.tab HT.out).1
  have H1 := Lib.hid h1
  clear h1
  go_wp2_with fail
  refine aw.mono ?_
  rintro e v2 ⟨rfl, o2⟩
  have H2 := Lib.hid (H1.out.only0 o2)
  clear H1 o2 aw
  go_wp2_with fail
  go_loopg [9] (len1 + 1) (fun gk si wr => ∃ (p : Nat) (S T : List Nat) (base : Int) (l : List It), si = .int .i64 (p : Int) ∧ p ≤ len1 ∧ p ≤ 40 ∧ len1 + 1 ≤ gk + p ∧ l.length ≤ p ∧ Hid (Sound w wr wb S xb T wd base l))
  case atStart => exact ⟨0, S1, T1, 0, [], rfl, by omega, by omega, by omega, by simp, H2⟩
  case round =>
    obtain ⟨p, S, T, base, l, rfl, hp, hp80, hg, hlp, hS⟩ := hrel
    clear H2
    by_cases hc : p < len1 ∧ p < 40
    · have c1 : (p : Int) < (len1 : Int) := by omega
      have c2 : (p : Int) < 40 := by omega
      obtain ⟨hdok, ad, b, o, s, rfl, hadd, hbw, q0, q1, q2⟩ := W1.out p hc.1
      obtain ⟨d, ed⟩ : ∃ d, z1 p = d := ⟨_, rfl⟩
      rw [ed] at q0 q1 q2 hdok
      have r0 := hS.out.only.stay q0
      have r1 := hS.out.only.stay q1
      have r2 := hS.out.only.stay q2
      have hst := hS.out.step HT.out (by omega) d hdok wr (Only.refl [] wr)
      clear q0 q1 q2 ed hbw hc
      go_wp2_with fail
      refine hst.mono ?_
      rintro e u1 ⟨rfl, S2, T2, base2, l2, hs2, hl2⟩
      have HS2 := Lib.hid hs2
      clear hs2 hst
      go_wp2_with fail
      go_loopg [10] 4 (fun gk sk wv => ∃ k : Nat, sk = .int .i64 (k : Int) ∧ k ≤ 3 ∧ 4 ≤ gk + k ∧ Hid (Sound w wv wb S2 xb T2 wd base2 l2))
      case atStart => exact ⟨0, rfl, by omega, by omega, HS2⟩
      case round =>
        obtain ⟨k, rfl, hk, hgk, hV⟩ := hrel
        clear HS2
        by_cases hk3 : k < 3
        · have ck : (k : Int) < 3 := by omega
          obtain ⟨m, ma, mb⟩ := hV.out.maps (k : Int)
          have ma := ma wr (Only.refl [] wr)
          have mb := mb wr (Only.refl [] wr)
          go_wp2_with fail
          refine ma.mono ?_
          rintro e x1 ⟨rfl, rfl⟩
          go_wp2_with fail
          refine mb.mono ?_
          rintro e x2 ⟨rfl, o9⟩
          have hV2 := Lib.hid (hV.out.only0 o9)
          clear ma mb o9
          go_wp2_with fail
          go_roundg (4 - (k + 1))
          case measure => omega
          case rel => exact ⟨k + 1, by simp, by omega, by omega, hV2⟩
        · have ck : decide ((k : Int) < 3) = false := decide_eq_false (by omega)
          have ck2 : ¬ ((k : Int) < 3) := by omega
          go_wp2_with fail
          go_roundg (len1 + 1 - (p + 1))
          case measure => omega
          case rel => exact ⟨p + 1, S2, T2, base2, l2, by simp, by omega, by omega, by omega, by omega, hV⟩
    · have hcd : (decide ((p : Int) < (len1 : Int)) = false ∧ ¬ ((p : Int) < (len1 : Int))) ∨ ((p : Int) < (len1 : Int) ∧ decide ((p : Int) < 40) = false) := by
        have hce : ¬ p < len1 ∨ (p < len1 ∧ ¬ p < 40) := by omega
        rcases hce with h9 | h9
        · exact .inl ⟨decide_eq_false (by omega), by omega⟩
        · exact .inr ⟨by omega, decide_eq_false (by omega)⟩
      clear hc hp
      obtain ⟨m, ma, mb⟩ := hS.out.maps a2
      have ma := ma wr (Only.refl [] wr)
      have mb := mb wr (Only.refl [] wr)
      rcases hcd with ⟨c1, c2⟩ | ⟨c1, c2⟩
      all_goals
        go_wp2_with fail
        refine ma.mono ?_
        rintro e x1 ⟨rfl, rfl⟩
        go_wp2_with fail
        refine mb.mono ?_
        rintro e x2 ⟨rfl, o9⟩
        go_wp2_with fail
        go_ret
        exact ⟨by simp, (hS.out.only.trans' o9).below (Nat.le_refl _) (by simp)⟩

/-! ### The step from the walk to the row -/
set_option maxRecDepth 100000 in
theorem lifted (os : Os) (started : os.Started) (H : Type) (enc : TypeId × Value → H) :
    ReturnsInHanded {} Tryd.checked os 6 .any (fun w args => (Rows.wheelMapsSpec.pre enc Tryd.prog Tryd.f6 [] false w args ∧ laidMetH Tryd.prog listed w) ∧ sizedMet enc Tryd.prog Tryd.f6 (OpenSpec.ofChange Rows.wheelMapsSpec) false w args)
      (Rows.wheelMapsSpec.post enc Tryd.prog Tryd.f6 false true false false) := by
  refine returnsInHanded_of_change_and (C := Tryd.checked) (X := fun w _ => laidMetH Tryd.prog listed w) (fun _ _ _ hh h => h.of_heap hh) own started (by kernel_rfl) Tryd.func6
    (ChangeSpec.witness_shaped (enc := enc) (C := Tryd.checked) (os := os) (X := fun w _ => laidMetH Tryd.prog listed w) false (World.doorLaid Tryd.prog 14 os) #[.int .i64 0, .slice none 0 0, .int .i64 0] 8 rfl (World.shaped_of_RefB (by kernel_rfl) (by kernel_rfl)) (by kernel_rfl) (by kernel_rfl) (by kernel_rfl) (door_met os _)) ?_
  intro W base args ds gs before hval0 hW _ _ hL _
  have hval : ∀ (j : Nat) t v, Tryd.f6.params[j]? = some t → args[j]? = some v → Value.okWide Tryd.prog W .any base t v := hval0
  have hW' := hW
  obtain ⟨p, q, hA0, hV, rfl, hfz, hnd⟩ := hW
  have hA : DataW.TrodAll enc Tryd.prog W 0 (fun _ => true) true Tryd.f6.params.toList args.toList ds p := hA0
  rw [Tryd.params6] at hA hval
  obtain ⟨v0, vs0, d0, ds0, p0, q0, hargs, rfl, rfl, h0, r0⟩ := trodAll_cons hA
  obtain ⟨v1, vs1, d1, ds1, p1, q1, rfl, rfl, rfl, h1, r1⟩ := trodAll_cons r0
  obtain ⟨v2, vs2, d2, ds2, p2, q2, rfl, rfl, rfl, h2, r2⟩ := trodAll_cons r1
  obtain ⟨rfl, rfl, rfl⟩ := trodAll_nil r2
  obtain rfl : args = #[v0, v1, v2] := by cases args; simp_all
  obtain ⟨rfl, rfl⟩ := trodVars_none hV
  obtain ⟨a0, rfl, rfl, rfl, w0⟩ := open_int Tryd.underlying3 (hval 0 3 v0 rfl rfl) h0
  obtain ⟨a1, len1, cap1, rfl⟩ := okWide_slice Tryd.underlying37 (hval 1 37 v1 rfl rfl)
  have k1 := h1
  have lt1 : ∀ x ∈ p1, x.block < W.heap.size := by obtain ⟨m, hm⟩ := k1; exact DataW.trod_lt m _ _ _ hm
  obtain ⟨z1, w1⟩ : ∃ z, InDeeds W a1 len1 z := by
    obtain ⟨fuel, hf⟩ := h1
    exact open_deeds hf
  obtain ⟨a2, rfl, rfl, rfl, w2⟩ := open_int Tryd.underlying3 (hval 2 3 v2 rfl rfl) h2
  clear hA0 hval0
  refine (walk a0 a1 len1 cap1 z1 a2 W w0 w1 w2 (tab_of_laid hL)).mono fun e W' ⟨he, bel⟩ => ?_
  subst he
  exact ⟨_, rfl, _, _, _, [], _, [], hW', trodAll_mk1 (shut_bool Tryd.underlying4 _), (trodAll_cons_mk (shut_int Tryd.underlying3 w0) (trodAll_cons_mk (Below.trod laidOut (by kernel_rfl) (of_decide_eq_true (by kernel_rfl)) k1 bel lt1) (trodAll_cons_mk (shut_int Tryd.underlying3 w2) trodAll_mk0))), rfl, bel.frame _, fun h => by cases h⟩

theorem over : Rows.wheelMapsRow.holds Tryd.pinned (OpenSpec.ofChange Rows.wheelMapsSpec) :=
  OpenClaim.holds_of_wide 6 Tryd.f6 rfl rfl rfl rfl rfl rfl rfl ⟨rfl, rfl, rfl, rfl, rfl⟩ rfl rfl rfl rfl rfl (by kernel_rfl) Tryd.func6 (by kernel_rfl)
    (of_decide_eq_true (by kernel_rfl)) (by unfold Func.isWrapper; first | (rw [if_pos (by decide +kernel)]; kernel_rfl) | (rw [if_neg (by decide +kernel)]; exact ⟨rfl, rfl⟩))
    (fun os started H enc _ => lifted os started H enc)

/-- The statement: the card, its listed variable tied to the program's text. -/
theorem proved : Rows.WheelMapsCardSaid :=
  Claim7.holds_tied_plain_at .later [] [.data] true (true, "c1baca7e8a45fd53add94cf52a5f971d519e3f9f1c46d631b42e2657d54dce93") false
    over (fun _ h => by cases h) (by kernel_rfl) (fun _ h => by cases h) wheelMaps_row_tie rfl ⟨rfl, rfl⟩ (by kernel_rfl) rfl
    (fun f fn hf hfn => by
      obtain rfl : f = 6 := Option.some.inj ((show Tryd.prog.funcNamed "weighbridge/weighbridgelaw05.WheelMaps" = some 6 by kernel_rfl).symm.trans hf) |>.symm
      obtain rfl : fn = Tryd.f6 := (Option.some.inj (Tryd.func6.symm.trans hfn)).symm
      exact ⟨by kernel_rfl, fun j t ht => by
        rw [Tryd.params6] at ht
        have hm : t ∈ [3, 37, 3] := by simpa using Array.mem_of_getElem? ht
        have hall : ([3, 37, 3].all fun u => !Tryd.prog.wantsStandIn u) = true := by kernel_rfl
        exact (show Tryd.prog.wantsStandIn t = false by simpa using List.all_eq_true.1 hall t hm)⟩)
    (by kernel_rfl)
#print axioms proved
end Go.Proofs.YtlokeennplhflaaDoor.wheelMaps
