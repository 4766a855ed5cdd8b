/-
  weighbridgelaw08.QueueShards returns true for every input, and leaves its arguments as they were, where math/bits' table holds what the program's own text lays there (the card ties it). No other condition but that the arguments are values of their types.
-/
import Derived.Test.YtajhkdbldbifeaaGreatDoorRows
import Derived.Test.YtajhkdbldbifeaaGreatDoorTie
import Derived.Test.YtajhkdbldbifeaaGreatDoorCards
import Derived.Test.YtajhkdbldbifeaaGreatDoorQueueT
import Derived.ShutString
import Derived.ChangeOld
import Derived.Below
import Derived.SevenTiedAt
namespace Go.Proofs.YtajhkdbldbifeaaGreatDoor.queueShards
open Go.ChangeShapes Go.WideShapes Go.ChangeAt Go.RowKit
set_option linter.unusedVariables false

set_option maxRecDepth 100000 in
set_option maxHeartbeats 8000000 in
theorem walk (a0 : Int) (a1 : Int) (a2 : Option Addr) (len2 cap2 : Nat) (z2 : Nat → Dd) (a3 : Int) (w : World) (w0 : (Lit.int .i64 a0).wf = true) (w1 : (Lit.int .i64 a1).wf = true) (w2 : InDeeds w a2 len2 z2) (w3 : (Lit.int .i64 a3).wf = true) (hT : Tab w) :
    Calls Tryz.prog 4 #[.int .i64 a0, .int .i64 a1, .slice a2 len2 cap2, .int .i64 a3] w fun e w' => e = .returned (.bool true) ∧ Below w.heap.size w w' := by
  have W2 := Lib.hid w2
  have HT := Lib.hid hT
  obtain ⟨qf, PL⟩ := kinds_are 8 (by omega) (by omega)
  have PL := Lib.hid PL
  clear w2 hT
  go_enter Tryz.func4, Tryz.ntmps4
  go_wp2_with fail
  refine (made_q w w (Only.refl [] w) a0 a1).mono ?_
  rintro e v1 ⟨qb, xb, rfl, n, wd, S1, T1, h1, -, -⟩
  have aw := hAwake8 v1 (HT.out.only0 h1.only)
  have n1 := h1.pair.ours.n1.1
  have n16 := h1.pair.ours.n1.2
  have H1 := Lib.hid h1
  clear h1
  go_wp2_with fail
  refine aw.mono ?_
  rintro e v2 ⟨rfl, o2⟩
  have H2 := Lib.hid (H1.out.only0 o2)
  clear H1 o2 aw
  go_wp2_with fail
  go_loopg [11] (len2 + 1) (fun gk si wr => ∃ (p : Nat) (S T : List Nat) (B : Nat → Int) (L : Nat → List It), si = .int .i64 (p : Int) ∧ p ≤ len2 ∧ p ≤ 60 ∧ len2 + 1 ≤ gk + p ∧ Hid (QSound w wr qb S xb T n wd B L ∧ ∀ i, (L i).length ≤ p))
  case atStart => exact ⟨0, S1, T1, _, _, rfl, by omega, by omega, by omega, H2.out, fun i => by simp⟩
  case round =>
    obtain ⟨p, S, T, B, L, rfl, hp, hp80, hg, hS⟩ := hrel
    clear H2
    by_cases hc : p < len2 ∧ p < 60
    · have c1 : (p : Int) < (len2 : Int) := by omega
      have c2 : (p : Int) < 60 := by omega
      obtain ⟨hdok, ad, b, o, s, rfl, hadd, hbw, q0, q1, q2⟩ := W2.out p hc.1
      obtain ⟨d, ed⟩ : ∃ d, z2 p = d := ⟨_, rfl⟩
      rw [ed] at q0 q1 q2 hdok
      have r0 := hS.out.1.only.stay q0
      have r1 := hS.out.1.only.stay q1
      have r2 := hS.out.1.only.stay q2
      have hst := hS.out.1.step HT.out (fun i => by have := hS.out.2 i; omega) d hdok PL.out
      clear q0 q1 q2 ed hbw hc
      go_wp2_with fail
      refine hst.mono ?_
      rintro e u1 ⟨rfl, B2, L2, hs2, S2, T2, h2, -, -, -⟩
      have HL2 : Hid (QSound w u1 qb S2 xb T2 n wd B2 L2 ∧ ∀ i, (L2 i).length ≤ p + 1) := ⟨h2, fun i => Nat.le_trans (hs2.len i) (by have := hS.out.2 i; omega)⟩
      clear h2 hst hs2 r0 r1 r2
      go_wp2_with fail
      go_roundg (len2 + 1 - (p + 1))
      case measure => omega
      case rel => exact ⟨p + 1, S2, T2, B2, L2, by simp, by omega, by omega, by omega, HL2⟩
    · have hcb := cat_bound hS.out.1 hS.out.2 (by omega)
      have hsm : Hid (∀ k, k ≤ n → (catL L k).length ≤ 16000) := fun k hk => Nat.le_trans (catL_mono L hk) hcb
      have hll : Hid (∀ i, (L i).length ≤ 1000) := fun i => by have := hS.out.2 i; omega
      have H0 := Lib.hid hS.out.1
      have hcd : (decide ((p : Int) < (len2 : Int)) = false ∧ ¬ ((p : Int) < (len2 : Int))) ∨ ((p : Int) < (len2 : Int) ∧ decide ((p : Int) < 60) = false) := by
        have hce : ¬ p < len2 ∨ (p < len2 ∧ ¬ p < 60) := by omega
        rcases hce with h9 | h9
        · exact .inl ⟨decide_eq_false (by omega), by omega⟩
        · exact .inr ⟨by omega, decide_eq_false (by omega)⟩
      clear hc hp hcb hS
      rcases hcd with ⟨c1, c2⟩ | ⟨c1, c2⟩
      all_goals
        go_wp2_with fail
        go_loopg [12, 13] (n + 1) (fun gz sn sk wr => ∃ k : Nat, sn = .int .i64 ((catL L k).length : Int) ∧ sk = .int .i64 (k : Int) ∧ k ≤ n ∧ n + 1 ≤ gz + k ∧ Hid (QSound w wr qb S xb T n wd B L))
        case atStart => exact ⟨0, rfl, rfl, by omega, by omega, H0⟩
        case round =>
          obtain ⟨k, rfl, rfl, hk, hgz, hS⟩ := hrel
          clear H0
          obtain ⟨ab, cap, P, TT, eT, hR⟩ := hS.out.pair.ref
          have x0 := hR.c0
          by_cases hkl : k < n
          · have hkl' : (k : Int) < (n : Int) := by omega
            have hI : (0 : Int) ≤ (k : Int) ∧ (k : Int) < (n : Int) := by omega
            have di := hR.at_ hkl
            obtain ⟨A, ca, k0, hr⟩ := refOf_row (hR.sh k hkl)
            have hsd : Hid (∀ W, Only [] wr W → Calls Tryz.prog 18 #[.pointer (some ⟨qb, 0, none⟩), .int .i64 (k : Int)] W fun e w' => ∃ A cap, e = .returned (.slice A (L k).length cap) ∧ RowIs w' (.slice A (L k).length cap) (L k) ∧ (∀ g, (Value.slice A (L k).length cap).ownBlock = some g → W.heap.size ≤ g) ∧ Only [] W w') := fun W oW => qShardIn W qb S n wd B L (hS.out.pair.ours.only0 oW) ((HT.out.only0 hS.out.only).only0 oW) k hkl
            have hcl := catL_len L k
            have h1 := hsm.out k hk
            have h2 := hsm.out (k + 1) hkl
            have h3 := hll.out k
            have HR := Lib.hid hr
            obtain ⟨m, em⟩ : ∃ m, (L k).length = m := ⟨_, rfl⟩
            obtain ⟨c, ec⟩ : ∃ c, (catL L (k + 1)).length = c := ⟨_, rfl⟩
            obtain ⟨a, ea⟩ : ∃ a, (catL L k).length = a := ⟨_, rfl⟩
            rw [em] at k0 hsd HR hcl h3
            rw [ec] at hcl h2
            rw [ea] at hcl h1 ⊢
            have EM := Lib.hid em
            have EC := Lib.hid ec
            clear em ec ea hr hR eT
            go_wp2_with fail
            go_region_held3 (fun w' => w'.cell? ⟨xb, 0, none⟩ = some (.slice (some ⟨ab, 0, none⟩) n cap) ∧ w'.cell? ⟨ab, k, none⟩ = some (.pointer (some ⟨P k, 0, none⟩)) ∧ w'.cell? ⟨P k, 0, none⟩ = some (.slice A m ca))
              (first | go_keep | (exact ⟨i0, i1, i2⟩) | (exact ⟨i3, i4, i5⟩))
              (first
                | (go_at_call 18; refine (hsd.out _ (Only.refl [] wr).drew).mono ?_; rintro e u1 ⟨A1, cap1, rfl, r1, -, o1⟩; have i0 := o1.stay (p := ⟨xb, 0, none⟩) (v := .slice (some ⟨ab, 0, none⟩) n cap) (by exact x0); have i1 := o1.stay (p := ⟨ab, k, none⟩) (v := .pointer (some ⟨P k, 0, none⟩)) (by exact di); have i2 := o1.stay (p := ⟨P k, 0, none⟩) (v := .slice A m ca) (by exact k0); have O1 := Lib.hid ((Only.refl [] wr).drew.trans' o1); have R1 := Lib.hid (And.intro r1 (HR.out.only0 ((Only.refl [] wr).drew.trans' o1))); clear r1 o1)
                | (go_at_call 16; refine (hPlain _ _ _ (L k) (L k) (by exact R1.out.1) (by exact R1.out.2) (by have := hll.out k; omega) (by have := hll.out k; omega)).mono ?_; rintro e u2 ⟨rfl, o2⟩; have i3 := o2.stay i0; have i4 := o2.stay i1; have i5 := o2.stay i2; have O2 := Lib.hid (O1.out.trans' o2); clear o2))
            all_goals
              go_wp2_with fail
              refine (hsd.out _ O2.out).mono ?_
              rintro e u3 ⟨A3, cap3, rfl, -, -, o3⟩
              have H3 := Lib.hid ((hS.out.only0 O2.out).only0 o3)
              clear o3
              go_wp2_with fail
              go_roundg (n + 1 - (k + 1))
              case measure => omega
              case rel => exact ⟨k + 1, by rw [EC.out, hcl]; simp, by simp, by omega, by omega, H3⟩
          · have hke : k = n := by omega
            subst hke
            have hkl' : ¬ ((k : Int) < (k : Int)) := by omega
            have hlen := qLen wr qb S k wd B L hS.out.pair.ours
            have hout : Hid (∀ W, Only [] wr W → ∀ i : Int, i < 0 ∨ (k : Int) ≤ i → Calls Tryz.prog 18 #[.pointer (some ⟨qb, 0, none⟩), .int .i64 i] W fun e w' => e = .returned (.slice none 0 0) ∧ w' = W) := fun W oW i hi => qShardOut W qb S k wd B L (hS.out.pair.ours.only0 oW) i hi
            have h1 := hsm.out k hk
            have HX : Hid (∀ W, Only [] wr W → W.cell? ⟨xb, 0, none⟩ = some (.slice (some ⟨ab, 0, none⟩) k cap)) := fun W oW => oW.stay x0
            generalize (catL L k).length = m at *
            clear hR eT
            have hcase : a3 < 0 ∨ (¬ a3 < 0 ∧ (k : Int) ≤ a3) ∨ (¬ a3 < 0 ∧ ¬ (k : Int) ≤ a3) := by omega
            rcases hcase with g1 | ⟨g1, g2⟩ | ⟨g1, g2⟩
            · go_wp2_with fail
              refine (hout.out _ (Only.refl [] wr) a3 (.inl g1)).mono ?_
              rintro e wr ⟨rfl, rfl⟩
              go_wp2_with fail
              refine hlen.mono ?_
              rintro e u2 ⟨rfl, o2⟩
              have y0 := HX.out _ o2
              have O2 := Lib.hid o2
              clear o2
              go_wp2_with fail
              refine (hout.out _ O2.out (-1) (.inl (by omega))).mono ?_
              rintro e u2 ⟨rfl, rfl⟩
              go_wp2_with fail
              refine (hout.out _ O2.out (k : Int) (.inr (by omega))).mono ?_
              rintro e u2 ⟨rfl, rfl⟩
              go_wp2_with fail
              go_ret
              exact ⟨by simp, (hS.out.only.trans' O2.out).below (Nat.le_refl _) (by simp)⟩
            · have g1' : decide (a3 < 0) = false := decide_eq_false g1
              go_wp2_with fail
              refine (hout.out _ (Only.refl [] wr) a3 (.inr g2)).mono ?_
              rintro e wr ⟨rfl, rfl⟩
              go_wp2_with fail
              refine hlen.mono ?_
              rintro e u2 ⟨rfl, o2⟩
              have y0 := HX.out _ o2
              have O2 := Lib.hid o2
              clear o2
              go_wp2_with fail
              refine (hout.out _ O2.out (-1) (.inl (by omega))).mono ?_
              rintro e u2 ⟨rfl, rfl⟩
              go_wp2_with fail
              refine (hout.out _ O2.out (k : Int) (.inr (by omega))).mono ?_
              rintro e u2 ⟨rfl, rfl⟩
              go_wp2_with fail
              go_ret
              exact ⟨by simp, (hS.out.only.trans' O2.out).below (Nat.le_refl _) (by simp)⟩
            · have g1' : decide (a3 < 0) = false := decide_eq_false g1
              have g2' : decide ((k : Int) ≤ a3) = false := decide_eq_false g2
              go_wp2_with fail
              refine hlen.mono ?_
              rintro e u2 ⟨rfl, o2⟩
              have y0 := HX.out _ o2
              have O2 := Lib.hid o2
              clear o2
              go_wp2_with fail
              refine (hout.out _ O2.out (-1) (.inl (by omega))).mono ?_
              rintro e u2 ⟨rfl, rfl⟩
              go_wp2_with fail
              refine (hout.out _ O2.out (k : Int) (.inr (by omega))).mono ?_
              rintro e u2 ⟨rfl, rfl⟩
              go_wp2_with fail
              go_ret
              exact ⟨by simp, (hS.out.only.trans' O2.out).below (Nat.le_refl _) (by simp)⟩

/-! ### The step from the walk to the row -/
set_option maxRecDepth 100000 in
theorem lifted (os : Os) (started : os.Started) (H : Type) (enc : TypeId × Value → H) :
    ReturnsInHanded {} Tryz.checked os 4 .any (fun w args => (Rows.queueShardsSpec.pre enc Tryz.prog Tryz.f4 [] false w args ∧ laidMetH Tryz.prog listed w) ∧ sizedMet enc Tryz.prog Tryz.f4 (OpenSpec.ofChange Rows.queueShardsSpec) false w args)
      (Rows.queueShardsSpec.post enc Tryz.prog Tryz.f4 false true false false) := by
  refine returnsInHanded_of_change_and (C := Tryz.checked) (X := fun w _ => laidMetH Tryz.prog listed w) (fun _ _ _ hh h => h.of_heap hh) own started (by kernel_rfl) Tryz.func4
    (ChangeSpec.witness_shaped (enc := enc) (C := Tryz.checked) (os := os) (X := fun w _ => laidMetH Tryz.prog listed w) false (World.doorLaid Tryz.prog 14 os) #[.int .i64 0, .int .i64 0, .slice none 0 0, .int .i64 0] 8 rfl (World.shaped_of_RefB (by kernel_rfl) (by kernel_rfl)) (by kernel_rfl) (by kernel_rfl) (by kernel_rfl) (door_met os _)) ?_
  intro W base args ds gs before hval0 hW _ _ hL _
  have hval : ∀ (j : Nat) t v, Tryz.f4.params[j]? = some t → args[j]? = some v → Value.okWide Tryz.prog W .any base t v := hval0
  have hW' := hW
  obtain ⟨p, q, hA0, hV, rfl, hfz, hnd⟩ := hW
  have hA : DataW.TrodAll enc Tryz.prog W 0 (fun _ => true) true Tryz.f4.params.toList args.toList ds p := hA0
  rw [Tryz.params4] at hA hval
  obtain ⟨v0, vs0, d0, ds0, p0, q0, hargs, rfl, rfl, h0, r0⟩ := trodAll_cons hA
  obtain ⟨v1, vs1, d1, ds1, p1, q1, rfl, rfl, rfl, h1, r1⟩ := trodAll_cons r0
  obtain ⟨v2, vs2, d2, ds2, p2, q2, rfl, rfl, rfl, h2, r2⟩ := trodAll_cons r1
  obtain ⟨v3, vs3, d3, ds3, p3, q3, rfl, rfl, rfl, h3, r3⟩ := trodAll_cons r2
  obtain ⟨rfl, rfl, rfl⟩ := trodAll_nil r3
  obtain rfl : args = #[v0, v1, v2, v3] := by cases args; simp_all
  obtain ⟨rfl, rfl⟩ := trodVars_none hV
  obtain ⟨a0, rfl, rfl, rfl, w0⟩ := open_int Tryz.underlying3 (hval 0 3 v0 rfl rfl) h0
  obtain ⟨a1, rfl, rfl, rfl, w1⟩ := open_int Tryz.underlying3 (hval 1 3 v1 rfl rfl) h1
  obtain ⟨a2, len2, cap2, rfl⟩ := okWide_slice Tryz.underlying22 (hval 2 22 v2 rfl rfl)
  have k2 := h2
  have lt2 : ∀ x ∈ p2, x.block < W.heap.size := by obtain ⟨m, hm⟩ := k2; exact DataW.trod_lt m _ _ _ hm
  obtain ⟨z2, w2⟩ : ∃ z, InDeeds W a2 len2 z := by
    obtain ⟨fuel, hf⟩ := h2
    exact open_deeds hf
  obtain ⟨a3, rfl, rfl, rfl, w3⟩ := open_int Tryz.underlying3 (hval 3 3 v3 rfl rfl) h3
  clear hA0 hval0
  refine (walk a0 a1 a2 len2 cap2 z2 a3 W w0 w1 w2 w3 (tab_of_laid hL)).mono fun e W' ⟨he, bel⟩ => ?_
  subst he
  exact ⟨_, rfl, _, _, _, [], _, [], hW', trodAll_mk1 (shut_bool Tryz.underlying4 _), (trodAll_cons_mk (shut_int Tryz.underlying3 w0) (trodAll_cons_mk (shut_int Tryz.underlying3 w1) (trodAll_cons_mk (Below.trod laidOut (by kernel_rfl) (of_decide_eq_true (by kernel_rfl)) k2 bel lt2) (trodAll_cons_mk (shut_int Tryz.underlying3 w3) trodAll_mk0)))), rfl, bel.frame _, fun h => by cases h⟩

theorem over : Rows.queueShardsRow.holds Tryz.pinned (OpenSpec.ofChange Rows.queueShardsSpec) :=
  OpenClaim.holds_of_wide 4 Tryz.f4 rfl rfl rfl rfl rfl rfl rfl ⟨rfl, rfl, rfl, rfl, rfl⟩ rfl rfl rfl rfl rfl (by kernel_rfl) Tryz.func4 (by kernel_rfl)
    (of_decide_eq_true (by kernel_rfl)) (by unfold Func.isWrapper; first | (rw [if_pos (by decide +kernel)]; kernel_rfl) | (rw [if_neg (by decide +kernel)]; exact ⟨rfl, rfl⟩))
    (fun os started H enc _ => lifted os started H enc)

/-- The statement: the card, its listed variable tied to the program's text. -/
theorem proved : Rows.QueueShardsCardSaid :=
  Claim7.holds_tied_plain_at .later [] [.data] true (true, "26507875017e3a76b118212d847f60c59ebd9d430d2b04233b1df170ce6b2d7f") false
    over (fun _ h => by cases h) (by kernel_rfl) (fun _ h => by cases h) queueShards_row_tie rfl ⟨rfl, rfl⟩ (by kernel_rfl) rfl
    (fun f fn hf hfn => by
      obtain rfl : f = 4 := Option.some.inj ((show Tryz.prog.funcNamed "weighbridge/weighbridgelaw08.QueueShards" = some 4 by kernel_rfl).symm.trans hf) |>.symm
      obtain rfl : fn = Tryz.f4 := (Option.some.inj (Tryz.func4.symm.trans hfn)).symm
      exact ⟨by kernel_rfl, fun j t ht => by
        rw [Tryz.params4] at ht
        have hm : t ∈ [3, 3, 22, 3] := by simpa using Array.mem_of_getElem? ht
        have hall : ([3, 3, 22, 3].all fun u => !Tryz.prog.wantsStandIn u) = true := by kernel_rfl
        exact (show Tryz.prog.wantsStandIn t = false by simpa using List.all_eq_true.1 hall t hm)⟩)
    (by kernel_rfl)
#print axioms proved
end Go.Proofs.YtajhkdbldbifeaaGreatDoor.queueShards
