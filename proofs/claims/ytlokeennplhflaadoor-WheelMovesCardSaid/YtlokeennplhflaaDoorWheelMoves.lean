/-
  weighbridgelaw05.WheelMoves returns true for every input, and leaves its arguments as they were, where math/bits' table holds what the program's own text lays there (the card ties it). No other condition but that the arguments are values of their types.
-/
import Derived.Test.YtlokeennplhflaaDoorRows
import Derived.Test.YtlokeennplhflaaDoorTie
import Derived.Test.YtlokeennplhflaaDoorCards
import Derived.Test.YtlokeennplhflaaDoorWheelT4
import Derived.ShutString
import Derived.ChangeOld
import Derived.Below
import Derived.SevenTiedAt
namespace Go.Proofs.YtlokeennplhflaaDoor.wheelMoves
open Go.ChangeShapes Go.WideShapes Go.ChangeAt Go.RowKit
set_option linter.unusedVariables false

set_option maxRecDepth 100000 in
set_option maxHeartbeats 8000000 in
theorem walk (a0 : Int) (a1 : Option Addr) (len1 cap1 : Nat) (z1 : Nat → Dd) (a2 : Int) (w : World) (w0 : (Lit.int .i64 a0).wf = true) (w1 : InDeeds w a1 len1 z1) (w2 : (Lit.int .u64 a2).wf = true) (hT : Tab w) :
    Calls Tryd.prog 9 #[.int .i64 a0, .slice a1 len1 cap1, .int .u64 a2] w fun e w' => e = .returned (.bool true) ∧ Below w.heap.size w w' := by
  obtain ⟨t0, t1⟩ := u64ok_to w2
  have W1 := Lib.hid w1
  have HT := Lib.hid hT
  clear w1 hT
  go_enter Tryd.func9, Tryd.ntmps9
  go_wp2_with fail
  refine (made_sound a0 _).mono ?_
  rintro e v1 ⟨wb, S1, xb, T1, wd, rfl, h1⟩
  have aw := wAwake v1 (h1.tab HT.out).1
  have H1 := Lib.hid h1
  clear h1
  go_wp2_with fail
  refine aw.mono ?_
  rintro e v2 ⟨rfl, o2⟩
  have H2 := Lib.hid (H1.out.only0 o2)
  clear H1 o2 aw
  go_wp2_with fail
  go_loopg [9] (len1 + 1) (fun gk si wr => ∃ (p : Nat) (S T : List Nat) (base : Int) (l : List It), si = .int .i64 (p : Int) ∧ p ≤ len1 ∧ p ≤ 40 ∧ len1 + 1 ≤ gk + p ∧ l.length ≤ p ∧ Hid (Sound w wr wb S xb T wd base l))
  case atStart => exact ⟨0, S1, T1, 0, [], rfl, by omega, by omega, by omega, by simp, H2⟩
  case round =>
    obtain ⟨p, S, T, base, l, rfl, hp, hp80, hg, hlp, hS⟩ := hrel
    clear H2
    by_cases hc : p < len1 ∧ p < 40
    · have c1 : (p : Int) < (len1 : Int) := by omega
      have c2 : (p : Int) < 40 := by omega
      obtain ⟨hdok, ad, b, o, s, rfl, hadd, hbw, q0, q1, q2⟩ := W1.out p hc.1
      obtain ⟨d, ed⟩ : ∃ d, z1 p = d := ⟨_, rfl⟩
      rw [ed] at q0 q1 q2 hdok
      have r0 := hS.out.only.stay q0
      have r1 := hS.out.only.stay q1
      have r2 := hS.out.only.stay q2
      have hst := hS.out.step HT.out (by omega) d hdok wr (Only.refl [] wr)
      clear q0 q1 q2 ed hbw hc
      go_wp2_with fail
      refine hst.mono ?_
      rintro e u1 ⟨rfl, S2, T2, base2, l2, hs2, hl2⟩
      have HS2 := Lib.hid hs2
      clear hs2 hst
      go_wp2_with fail
      go_roundg (len1 + 1 - (p + 1))
      case measure => omega
      case rel => exact ⟨p + 1, S2, T2, base2, l2, by simp, by omega, by omega, by omega, by omega, HS2⟩
    · have hcd : (decide ((p : Int) < (len1 : Int)) = false ∧ ¬ ((p : Int) < (len1 : Int))) ∨ ((p : Int) < (len1 : Int) ∧ decide ((p : Int) < 40) = false) := by
        have hce : ¬ p < len1 ∨ (p < len1 ∧ ¬ p < 40) := by omega
        rcases hce with h9 | h9
        · exact .inl ⟨decide_eq_false (by omega), by omega⟩
        · exact .inr ⟨by omega, decide_eq_false (by omega)⟩
      clear hc hp
      have hbs := hS.out.base wr (Only.refl [] wr)
      have hal := hS.out.all HT.out wr (Only.refl [] wr)
      rcases hcd with ⟨c1, c2⟩ | ⟨c1, c2⟩
      all_goals
        go_wp2_with fail
        refine hbs.mono ?_
        rintro e u0 ⟨rfl, rfl⟩
        go_wp2_with fail
        refine hal.mono ?_
        rintro e u1 ⟨A2, cap2, rfl, r2, v2, o2⟩
        have hA := Lib.hid (hS.out.alone o2 r2 v2)
        clear r2 v2 o2 hbs hal
        have hll : l.length ≤ 1000 := by omega
        by_cases h0 : 0 < l.length
        · obtain ⟨f0, f1⟩ := hA.out.first_in h0
          obtain ⟨b0, b1⟩ := hA.out.ours.bases
          obtain ⟨g, cap, ev, hcell⟩ := hA.out.at_ h0
          cases ev
          obtain ⟨k, hk⟩ : ∃ k, (first l).k = k := ⟨_, rfl⟩
          have HK := Lib.hid hk
          rw [hk] at f0 f1 hcell
          have hne : ¬ ((l.length : Int) = 0) := by omega
          have hkb : ¬ (k < base) := by omega
          have hn0 : (0 : Int) < (l.length : Int) := by omega
          clear hk
          go_upto_region 14 with fail
          go_cut [99] (fun s99 wx => s99 = .bool false ∧ ∃ Sb, Hid (Alone w wx wb Sb wd base l (.slice (some ⟨g, 0, none⟩) l.length cap2)))
          case first =>
            by_cases cT : k < 18446744073709551615
            · have m1 := hA.out.no HT.out (k + 1) (by omega) (by omega) (mayGo_no h0 (.inr (by rw [HK.out]; omega)))
              go_wp2_with fail
              refine m1.mono ?_
              rintro e x2 ⟨rfl, Sa, ha⟩
              have hB := Lib.hid ha
              clear ha m1 hA hcell
              by_cases cP : base > 0
              · have m2 := hB.out.no HT.out (base - 1) (by omega) (by omega) (mayGo_no h0 (.inl (by omega)))
                go_wp2_with fail
                refine m2.mono ?_
                rintro e x3 ⟨rfl, Sb, hb⟩
                have m3 := hb.tells
                have hC := Lib.hid hb
                clear hb m2 hB
                go_wp2_with fail
                refine m3.mono ?_
                rintro e x4 ⟨rfl, rfl⟩
                go_wp2_with fail
                go_meet
                exact ⟨by simp, Sb, hC⟩
              · have m3 := hB.out.tells
                go_wp2_with fail
                refine m3.mono ?_
                rintro e x4 ⟨rfl, rfl⟩
                go_wp2_with fail
                go_meet
                exact ⟨by simp, Sa, hB⟩
            · by_cases cP : base > 0
              · have m2 := hA.out.no HT.out (base - 1) (by omega) (by omega) (mayGo_no h0 (.inl (by omega)))
                go_wp2_with fail
                refine m2.mono ?_
                rintro e x3 ⟨rfl, Sb, hb⟩
                have m3 := hb.tells
                have hC := Lib.hid hb
                clear hb m2
                go_wp2_with fail
                refine m3.mono ?_
                rintro e x4 ⟨rfl, rfl⟩
                go_wp2_with fail
                go_meet
                exact ⟨by simp, Sb, hC⟩
              · have m3 := hA.out.tells
                go_wp2_with fail
                refine m3.mono ?_
                rintro e x4 ⟨rfl, rfl⟩
                go_wp2_with fail
                go_meet
                exact ⟨by simp, S, hA⟩
          case rest =>
            obtain ⟨rfl, Sb, hC⟩ := hcut
            clear hA hcell
            have hC4 := hC.out.cell h0 HK.out
            go_upto_if 106 with fail
            go_cut [12] (fun s12 wx => ∃ mid : Int, s12 = .int .u64 mid ∧ base ≤ mid ∧ mid ≤ k ∧ wx = wc)
            case first =>
              by_cases cU : k > base
              · obtain ⟨D, hD⟩ : ∃ D, k - base = D := ⟨_, rfl⟩
                have hD0 : 0 < D := by omega
                obtain ⟨r, hr⟩ : ∃ r, a2 % D = r := ⟨_, rfl⟩
                have hr0 : 0 ≤ r := by rw [← hr]; exact Int.emod_nonneg _ (by omega)
                have hr1 : r < D := by rw [← hr]; exact Int.emod_lt_of_pos _ hD0
                have hwD : IntKind.u64.wrap D = D := by rw [IntKind.wrap_u64]; omega
                have hDne : ¬ D = 0 := by omega
                obtain ⟨kk, hkk⟩ : ∃ kk, base + r = kk := ⟨_, rfl⟩
                have hwk : IntKind.u64.wrap kk = kk := by rw [IntKind.wrap_u64]; omega
                go_wp2_with fail
                go_meet
                exact ⟨kk, rfl, by omega, by omega, rfl⟩
              · go_wp2_with fail
                go_meet
                exact ⟨base, rfl, by omega, by omega, rfl⟩
            case rest =>
              obtain ⟨mid, rfl, hm0, hm1, rfl⟩ := hcut
              clear hC4
              have hC4 := hC.out.cell h0 HK.out
              have M1 := Lib.hid ((hC.out.only0 (Only.refl [] wc).drew).yes HT.out mid (by omega) (by omega) (mayGo_yes (by omega) (by rw [HK.out]; omega)))
              have hgo2 := Lib.hid (mayGo_yes (l := l) (base := mid) (tt := k) (by omega) (by rw [HK.out]; omega))
              have mk1 : True := trivial
              have mk2 : True := trivial
              have mk3 : True := trivial
              have mk4 : True := trivial
              clear hC
              go_wp2_with fail
              go_region_held3 (fun w' => w'.cell? ⟨g, 0, none⟩ = some (.int .u64 k))
                (first | go_keep | (exact n1) | (exact n3) | (exact n4) | (exact n5) | (exact n7) | (exact n8))
                (first
                  | (go_at_call 29; clear mk1; refine M1.out.mono ?_; rintro e x5 ⟨rfl, Sd, hd⟩; have n1 := hd.cell h0 HK.out; have HD := Lib.hid hd; clear hd M1)
                  | (go_at_call 23; clear mk2; refine HD.out.tells.mono ?_; rintro e x6 ⟨rfl, rfl⟩)
                  | (go_at_call 26; clear mk3; refine (HD.out.plain HT.out).mono ?_; rintro e x7 ⟨v7, rfl, h7, m7⟩; have n3 := h7.cell h0 HK.out; have M7 := Lib.hid m7; clear h7 m7)
                  | (go_at_call 25; clear mk4; refine M7.out.mono ?_; rintro e x8 ⟨rfl, h8⟩; have n4 := h8.cell h0 HK.out; have H8 := Lib.hid h8; clear h8 M7)
                  | (go_at_call 29; refine (H8.out.yes HT.out k (by omega) (by omega) hgo2.out).mono ?_; rintro e x9 ⟨rfl, Se, h9⟩; have n5 := h9.cell h0 HK.out; have H9 := Lib.hid h9; clear h9)
                  | (go_at_call 26; refine (H9.out.plain HT.out).mono ?_; rintro e x10 ⟨v10, rfl, h10, m10⟩; have n7 := h10.cell h0 HK.out; have M10 := Lib.hid m10; clear h10 m10)
                  | (go_at_call 25; refine M10.out.mono ?_; rintro e x11 ⟨rfl, h11⟩; have n8 := h11.cell h0 HK.out; have H11 := Lib.hid h11; clear h11 M10)
                  | (go_at_call 23; refine H11.out.tells.mono ?_; rintro e x12 ⟨rfl, rfl⟩))
              all_goals
                go_wp2_with fail
                go_ret
                exact ⟨by simp, H11.out.only.below (Nat.le_refl _) (by simp)⟩
        · have hl0 : l = [] := by
            cases l with
            | nil => rfl
            | cons x r => simp at h0
          subst hl0
          have hmv := wMove u1 wb S wd base [] hA.out.ours (hA.out.tab HT.out) a2 t0 t1
          rw [mayGo_nil] at hmv
          simp only [List.length_nil]
          go_wp2_with fail
          refine hmv.mono ?_
          rintro e u3 ⟨rfl, S3, h3, m3⟩
          have hb := wBaseOf u3 wb S3 wd _ [] h3
          have hO := Lib.hid (hA.out.moved h3 m3).only
          clear hmv h3 m3
          by_cases hto : base ≤ a2
          · have hgo : a2 ≥ base := hto
            have hmx : max base a2 = a2 := by omega
            simp only [hto, decide_true, if_true] at hb ⊢
            go_wp2_with fail
            refine hb.mono ?_
            rintro e u4 ⟨rfl, rfl⟩
            go_wp2_with fail
            go_ret
            exact ⟨by simp, hO.out.below (Nat.le_refl _) (by simp)⟩
          · have hgo : ¬ a2 ≥ base := hto
            have hmx : max base a2 = base := by omega
            simp only [hto, decide_false] at hb ⊢
            go_wp2_with fail
            refine hb.mono ?_
            rintro e u4 ⟨rfl, rfl⟩
            go_wp2_with fail
            go_ret
            exact ⟨by simp, hO.out.below (Nat.le_refl _) (by simp)⟩

/-! ### The step from the walk to the row -/
set_option maxRecDepth 100000 in
theorem lifted (os : Os) (started : os.Started) (H : Type) (enc : TypeId × Value → H) :
    ReturnsInHanded {} Tryd.checked os 9 .any (fun w args => (Rows.wheelMovesSpec.pre enc Tryd.prog Tryd.f9 [] false w args ∧ laidMetH Tryd.prog listed w) ∧ sizedMet enc Tryd.prog Tryd.f9 (OpenSpec.ofChange Rows.wheelMovesSpec) false w args)
      (Rows.wheelMovesSpec.post enc Tryd.prog Tryd.f9 false true false false) := by
  refine returnsInHanded_of_change_and (C := Tryd.checked) (X := fun w _ => laidMetH Tryd.prog listed w) (fun _ _ _ hh h => h.of_heap hh) own started (by kernel_rfl) Tryd.func9
    (ChangeSpec.witness_shaped (enc := enc) (C := Tryd.checked) (os := os) (X := fun w _ => laidMetH Tryd.prog listed w) false (World.doorLaid Tryd.prog 14 os) #[.int .i64 0, .slice none 0 0, .int .u64 0] 8 rfl (World.shaped_of_RefB (by kernel_rfl) (by kernel_rfl)) (by kernel_rfl) (by kernel_rfl) (by kernel_rfl) (door_met os _)) ?_
  intro W base args ds gs before hval0 hW _ _ hL _
  have hval : ∀ (j : Nat) t v, Tryd.f9.params[j]? = some t → args[j]? = some v → Value.okWide Tryd.prog W .any base t v := hval0
  have hW' := hW
  obtain ⟨p, q, hA0, hV, rfl, hfz, hnd⟩ := hW
  have hA : DataW.TrodAll enc Tryd.prog W 0 (fun _ => true) true Tryd.f9.params.toList args.toList ds p := hA0
  rw [Tryd.params9] at hA hval
  obtain ⟨v0, vs0, d0, ds0, p0, q0, hargs, rfl, rfl, h0, r0⟩ := trodAll_cons hA
  obtain ⟨v1, vs1, d1, ds1, p1, q1, rfl, rfl, rfl, h1, r1⟩ := trodAll_cons r0
  obtain ⟨v2, vs2, d2, ds2, p2, q2, rfl, rfl, rfl, h2, r2⟩ := trodAll_cons r1
  obtain ⟨rfl, rfl, rfl⟩ := trodAll_nil r2
  obtain rfl : args = #[v0, v1, v2] := by cases args; simp_all
  obtain ⟨rfl, rfl⟩ := trodVars_none hV
  obtain ⟨a0, rfl, rfl, rfl, w0⟩ := open_int Tryd.underlying3 (hval 0 3 v0 rfl rfl) h0
  obtain ⟨a1, len1, cap1, rfl⟩ := okWide_slice Tryd.underlying37 (hval 1 37 v1 rfl rfl)
  have k1 := h1
  have lt1 : ∀ x ∈ p1, x.block < W.heap.size := by obtain ⟨m, hm⟩ := k1; exact DataW.trod_lt m _ _ _ hm
  obtain ⟨z1, w1⟩ : ∃ z, InDeeds W a1 len1 z := by
    obtain ⟨fuel, hf⟩ := h1
    exact open_deeds hf
  obtain ⟨a2, rfl, rfl, rfl, w2⟩ := open_int Tryd.underlying22 (hval 2 22 v2 rfl rfl) h2
  clear hA0 hval0
  refine (walk a0 a1 len1 cap1 z1 a2 W w0 w1 w2 (tab_of_laid hL)).mono fun e W' ⟨he, bel⟩ => ?_
  subst he
  exact ⟨_, rfl, _, _, _, [], _, [], hW', trodAll_mk1 (shut_bool Tryd.underlying4 _), (trodAll_cons_mk (shut_int Tryd.underlying3 w0) (trodAll_cons_mk (Below.trod laidOut (by kernel_rfl) (of_decide_eq_true (by kernel_rfl)) k1 bel lt1) (trodAll_cons_mk (shut_int Tryd.underlying22 w2) trodAll_mk0))), rfl, bel.frame _, fun h => by cases h⟩

theorem over : Rows.wheelMovesRow.holds Tryd.pinned (OpenSpec.ofChange Rows.wheelMovesSpec) :=
  OpenClaim.holds_of_wide 9 Tryd.f9 rfl rfl rfl rfl rfl rfl rfl ⟨rfl, rfl, rfl, rfl, rfl⟩ rfl rfl rfl rfl rfl (by kernel_rfl) Tryd.func9 (by kernel_rfl)
    (of_decide_eq_true (by kernel_rfl)) (by unfold Func.isWrapper; first | (rw [if_pos (by decide +kernel)]; kernel_rfl) | (rw [if_neg (by decide +kernel)]; exact ⟨rfl, rfl⟩))
    (fun os started H enc _ => lifted os started H enc)

/-- The statement: the card, its listed variable tied to the program's text. -/
theorem proved : Rows.WheelMovesCardSaid :=
  Claim7.holds_tied_plain_at .later [] [.data] true (true, "c1baca7e8a45fd53add94cf52a5f971d519e3f9f1c46d631b42e2657d54dce93") false
    over (fun _ h => by cases h) (by kernel_rfl) (fun _ h => by cases h) wheelMoves_row_tie rfl ⟨rfl, rfl⟩ (by kernel_rfl) rfl
    (fun f fn hf hfn => by
      obtain rfl : f = 9 := Option.some.inj ((show Tryd.prog.funcNamed "weighbridge/weighbridgelaw05.WheelMoves" = some 9 by kernel_rfl).symm.trans hf) |>.symm
      obtain rfl : fn = Tryd.f9 := (Option.some.inj (Tryd.func9.symm.trans hfn)).symm
      exact ⟨by kernel_rfl, fun j t ht => by
        rw [Tryd.params9] at ht
        have hm : t ∈ [3, 37, 22] := by simpa using Array.mem_of_getElem? ht
        have hall : ([3, 37, 22].all fun u => !Tryd.prog.wantsStandIn u) = true := by kernel_rfl
        exact (show Tryd.prog.wantsStandIn t = false by simpa using List.all_eq_true.1 hall t hm)⟩)
    (by kernel_rfl)
#print axioms proved
end Go.Proofs.YtlokeennplhflaaDoor.wheelMoves
