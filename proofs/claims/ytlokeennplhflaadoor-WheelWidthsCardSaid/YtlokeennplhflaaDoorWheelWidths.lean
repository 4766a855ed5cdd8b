/-
  weighbridgelaw05.WheelWidths returns true for every input, and leaves its arguments as they were, where math/bits' table holds what the program's own text lays there (the card ties it). No other condition but that the arguments are values of their types.
-/
import Derived.Test.YtlokeennplhflaaDoorRows
import Derived.Test.YtlokeennplhflaaDoorTie
import Derived.Test.YtlokeennplhflaaDoorCards
import Derived.Test.YtlokeennplhflaaDoorWheelH
import Derived.Test.YtlokeennplhflaaDoorWheelF
import Derived.Test.YtlokeennplhflaaDoorWheelO
import Derived.ShutString
import Derived.ChangeOld
import Derived.Below
import Derived.SevenTiedAt
namespace Go.Proofs.YtlokeennplhflaaDoor.wheelWidths
open Go.ChangeShapes Go.WideShapes Go.ChangeAt Go.RowKit
set_option linter.unusedVariables false

theorem map_one {wd : Nat} {base : Int} {l : List It} {L m m' : Nat} (h : mapM wd base l L m) (h' : mapM wd base l L m') : m = m' := by
  apply Nat.eq_of_testBit_eq
  intro i
  rcases Nat.lt_or_ge i 64 with hi | hi
  · rw [h.2 i hi, h'.2 i hi]
  · rw [upper_bit m i h.1 hi, upper_bit m' i h'.1 hi]

set_option maxRecDepth 100000 in
set_option maxHeartbeats 2000000 in
theorem walk (a0 : Int) (a1 : Int) (a2 : Int) (a3 : Int) (w : World) (w0 : (Lit.int .u64 a0).wf = true) (w1 : (Lit.int .u64 a1).wf = true) (w2 : (Lit.int .i64 a2).wf = true) (w3 : (Lit.int .i64 a3).wf = true) (hT : Tab w) :
    Calls Tryd.prog 4 #[.int .u64 a0, .int .u64 a1, .int .i64 a2, .int .i64 a3] w fun e w' => e = .returned (.bool true) ∧ Below w.heap.size w w' := by
  obtain ⟨b0, b1⟩ := u64ok_to w0
  obtain ⟨k0, k1⟩ := u64ok_to w1
  have hwi := wid_is a2
  have hwl := wid_le a2
  have i1 : i64ok 1 := i64ok_of (by omega)
  have hx1 : It.ok ⟨a1, 1⟩ := ⟨w1, i1⟩
  have hlv := level_any a0 a1 a2 b0 b1 k0 k1
  have hlv2 := level_any a0 a1 (wid a2 : Int) b0 b1 k0 k1
  rw [wid_wid] at hlv2
  have bk : ∃ v, (∀ w, Calls Tryd.prog 16 #[.int .u64 a1, .int .i64 a3, .int .i64 a2] w fun e w' => e = .returned (.int .i64 v) ∧ w = w') ∧ ∀ w, Calls Tryd.prog 16 #[.int .u64 a1, .int .i64 a3, .int .i64 (wid a2 : Int)] w fun e w' => e = .returned (.int .i64 v) ∧ w = w' := by
    by_cases hl : 0 ≤ a3 ∧ a3 ≤ 2
    · obtain ⟨L, rfl⟩ := Int.eq_ofNat_of_zero_le hl.1
      refine ⟨_, fun w => bucket_in a1 a2 L (by omega) k0 k1 w, fun w => ?_⟩
      have := bucket_in a1 (wid a2 : Int) L (by omega) k0 k1 w
      rw [wid_wid] at this
      exact this
    · exact ⟨-1, fun w => bucket_out a1 a2 a3 (by omega) w, fun w => bucket_out a1 (wid a2 : Int) a3 (by omega) w⟩
  obtain ⟨u1, p1, p2⟩ := bk
  have n1 := wNewOf w a2
  have n2 : ∀ W, Calls Tryd.prog 18 #[.int .i64 (wid a2 : Int)] W fun e w' => ∃ wb S, e = .returned (.pointer (some ⟨wb, 0, none⟩)) ∧ WheelOf w' wb S (wid a2) 0 [] ∧ (∀ b ∈ S, W.heap.size ≤ b) ∧ Only [] W w' := fun W => by
    have := wNewOf W (wid a2 : Int)
    rw [wid_wid] at this
    exact this
  have HT := Lib.hid hT
  have HX := Lib.hid hx1
  clear hT hx1
  generalize levM (wid a2) a0 a1 = x1 at *
  generalize wid a2 = wd at *
  go_enter Tryd.func4, Tryd.ntmps4
  go_wp2_with fail
  refine n1.mono ?_
  rintro e v1 ⟨wb, S, rfl, h1, f1, o1⟩
  have R1 := Lib.hid (And.intro h1 (And.intro f1 o1))
  clear h1 f1 o1 n1
  go_wp2_with fail
  refine (n2 _).mono ?_
  rintro e v2 ⟨xb, T, rfl, h2, f2, o2⟩
  have aw := wAwake v2 (HT.out.only0 (R1.out.2.2.trans' o2))
  have R2 := Lib.hid (And.intro h2 (And.intro f2 o2))
  clear h2 f2 o2 n2
  go_wp2_with fail
  refine aw.mono ?_
  rintro e v3 ⟨rfl, o3⟩
  have R3 := Lib.hid o3
  clear o3 aw
  go_wp2_with fail
  have bX : Hid (Box (v3.alloc (.cells #[.int .u64 a1, .int .i64 1] 34)) v3.heap.size ⟨a1, 1⟩) := Box.new v3 ⟨a1, 1⟩
  obtain ⟨V, eV⟩ : ∃ V, v3.alloc (.cells #[.int .u64 a1, .int .i64 1] 34) = V := ⟨_, rfl⟩
  have oV : Only [] v3 V := by rw [← eV]; exact (Only.refl [] v3).alloc _
  obtain ⟨N, eN⟩ : ∃ N, v3.heap.size = N := ⟨_, rfl⟩
  simp only [eV, eN] at bX ⊢
  have c0 := bX.out.c0
  have c1 := bX.out.c1
  simp only at c0 c1
  have hW : Hid (WheelOf V wb S wd 0 [] ∧ WheelOf V xb T wd 0 [] ∧ (∀ b ∈ S, b ∉ T) ∧ N ∉ S ∧ N ∉ T ∧ Only [] w V ∧ (∀ b ∈ S, w.heap.size ≤ b) ∧ (∀ b ∈ T, w.heap.size ≤ b)) := by
    have o13 := R2.out.2.2.trans' R3.out
    refine ⟨R1.out.1.only0 (o13.trans' oV), R2.out.1.only0 (R3.out.trans' oV), fun b hb hc => ?_, fun hc => ?_, fun hc => ?_, ((R1.out.2.2.trans' o13).trans' oV), R1.out.2.1, fun b hb => Nat.le_trans R1.out.2.2.size (R2.out.2.1 b hb)⟩
    · have := R1.out.1.lt b hb
      have := R2.out.2.1 b hc
      omega
    · have := R1.out.1.lt N hc
      have := o13.size
      omega
    · have := R2.out.1.lt N hc
      have := R3.out.size
      omega
  obtain ⟨bb, hbb⟩ : ∃ bb, (!hasId (It.i ⟨a1, 1⟩) [] && inR wd 0 (It.k ⟨a1, 1⟩)) = bb := ⟨_, rfl⟩
  obtain ⟨ll, hll⟩ : ∃ ll : List It, (if bb = true then ins ⟨a1, 1⟩ [] else []) = ll := ⟨_, rfl⟩
  have hpu : Hid (∀ W ub U, WheelOf W ub U wd 0 [] → Calls Tryd.prog 19 #[.pointer (some ⟨ub, 0, none⟩), .agg #[.int .u64 a1, .int .i64 1]] W fun e w' => e = .returned (.bool bb) ∧ ∃ S', WheelOf w' ub S' wd 0 ll ∧ Moved W U w' S') := fun W ub U hU => by
    have := wPush W ub U wd 0 [] hU ⟨a1, 1⟩ HX.out (by simp)
    rw [hbb, hll] at this
    exact this
  clear oV eV eN hbb hll R1 R2 R3
  have mk1 := trivial
  have mk2 := trivial
  have mk3 := trivial
  have mk4 := trivial
  go_region_held3 (fun w' => w'.cell? ⟨N, 0, none⟩ = some (.int .u64 a1) ∧ w'.cell? ⟨N, 1, none⟩ = some (.int .i64 1))
    (first | go_keep | (exact ⟨k0, k1⟩) | (exact ⟨k2, k3⟩))
    (first
      | (go_at_call 14; first | (clear mk1; refine (hlv _).mono ?_; rintro e w' ⟨rfl, rfl⟩) | (refine (hlv2 _).mono ?_; rintro e w' ⟨rfl, rfl⟩))
      | (go_at_call 16; first | (clear mk2; refine (p1 _).mono ?_; rintro e w' ⟨rfl, rfl⟩) | (refine (p2 _).mono ?_; rintro e w' ⟨rfl, rfl⟩))
      | (go_at_call 19; first
          | (clear mk3; refine (hpu.out _ wb S (hW.out.1.only0 (Only.refl [] V).drew)).mono ?_; rintro e u1 ⟨rfl, S1, q1, q2⟩; have b1 := (bX.out.only (Only.refl [] V).drew (by simp)).moved q2 hW.out.2.2.2.1; have k0 := b1.1.c0; have k1 := b1.1.c1; simp only at k0 k1; have Q1 := Lib.hid (And.intro q1 (And.intro q2 b1)); clear q1 q2 b1)
          | (refine (hpu.out _ xb T ((hW.out.2.1.only0 (Only.refl [] V).drew).only Q1.out.2.1.1 (fun b hb hc => hW.out.2.2.1 b hc hb))).mono ?_; rintro e u2 ⟨rfl, T1, q1, q2⟩; have b1 := Q1.out.2.2.1.moved q2 hW.out.2.2.2.2.1; have k2 := b1.1.c0; have k3 := b1.1.c1; simp only at k2 k3; obtain ⟨m1, e1, g1⟩ := wMapOf u2 wb S1 wd 0 ll (Q1.out.1.only q2.1 (fun b hb hc => by rcases Q1.out.2.1.2 b hb with h9 | h9; exact hW.out.2.2.1 b h9 hc; have := hW.out.2.1.lt b hc; simp at h9; omega)) 2 (by omega); obtain ⟨m2, e2, g2⟩ := wMapOf u2 xb T1 wd 0 ll q1 2 (by omega); obtain rfl := map_one e1 e2; have g1 := g1 _ (Only.refl [] u2); have g2 := g2 _ (Only.refl [] u2); have Q2 := Lib.hid (And.intro q1 q2); clear q1 q2 b1 e1 e2))
      | (go_at_call 20; first | (clear mk4; refine g1.mono ?_; rintro e w' ⟨rfl, rfl⟩) | (refine g2.mono ?_; rintro e w' ⟨rfl, rfl⟩)))
  have hOO : Hid (Only [] w w') := ((hW.out.2.2.2.2.2.1.drew.trans Q1.out.2.1.1 (fun k hk => .inr (hW.out.2.2.2.2.2.2.1 k hk))).trans Q2.out.2.1 (fun k hk => .inr (hW.out.2.2.2.2.2.2.2 k hk)))
  go_wp2_with fail
  go_ret
  exact ⟨by simp, hOO.out.below (Nat.le_refl _) (by simp)⟩

/-! ### The step from the walk to the row -/
set_option maxRecDepth 100000 in
theorem lifted (os : Os) (started : os.Started) (H : Type) (enc : TypeId × Value → H) :
    ReturnsInHanded {} Tryd.checked os 4 .any (fun w args => (Rows.wheelWidthsSpec.pre enc Tryd.prog Tryd.f4 [] false w args ∧ laidMetH Tryd.prog listed w) ∧ sizedMet enc Tryd.prog Tryd.f4 (OpenSpec.ofChange Rows.wheelWidthsSpec) false w args)
      (Rows.wheelWidthsSpec.post enc Tryd.prog Tryd.f4 false true false false) := by
  refine returnsInHanded_of_change_and (C := Tryd.checked) (X := fun w _ => laidMetH Tryd.prog listed w) (fun _ _ _ hh h => h.of_heap hh) own started (by kernel_rfl) Tryd.func4
    (ChangeSpec.witness_shaped (enc := enc) (C := Tryd.checked) (os := os) (X := fun w _ => laidMetH Tryd.prog listed w) false (World.doorLaid Tryd.prog 14 os) #[.int .u64 0, .int .u64 0, .int .i64 0, .int .i64 0] 8 rfl (World.shaped_of_RefB (by kernel_rfl) (by kernel_rfl)) (by kernel_rfl) (by kernel_rfl) (by kernel_rfl) (door_met os _)) ?_
  intro W base args ds gs before hval0 hW _ _ hL _
  have hval : ∀ (j : Nat) t v, Tryd.f4.params[j]? = some t → args[j]? = some v → Value.okWide Tryd.prog W .any base t v := hval0
  have hW' := hW
  obtain ⟨p, q, hA0, hV, rfl, hfz, hnd⟩ := hW
  have hA : DataW.TrodAll enc Tryd.prog W 0 (fun _ => true) true Tryd.f4.params.toList args.toList ds p := hA0
  rw [Tryd.params4] at hA hval
  obtain ⟨v0, vs0, d0, ds0, p0, q0, hargs, rfl, rfl, h0, r0⟩ := trodAll_cons hA
  obtain ⟨v1, vs1, d1, ds1, p1, q1, rfl, rfl, rfl, h1, r1⟩ := trodAll_cons r0
  obtain ⟨v2, vs2, d2, ds2, p2, q2, rfl, rfl, rfl, h2, r2⟩ := trodAll_cons r1
  obtain ⟨v3, vs3, d3, ds3, p3, q3, rfl, rfl, rfl, h3, r3⟩ := trodAll_cons r2
  obtain ⟨rfl, rfl, rfl⟩ := trodAll_nil r3
  obtain rfl : args = #[v0, v1, v2, v3] := by cases args; simp_all
  obtain ⟨rfl, rfl⟩ := trodVars_none hV
  obtain ⟨a0, rfl, rfl, rfl, w0⟩ := open_int Tryd.underlying22 (hval 0 22 v0 rfl rfl) h0
  obtain ⟨a1, rfl, rfl, rfl, w1⟩ := open_int Tryd.underlying22 (hval 1 22 v1 rfl rfl) h1
  obtain ⟨a2, rfl, rfl, rfl, w2⟩ := open_int Tryd.underlying3 (hval 2 3 v2 rfl rfl) h2
  obtain ⟨a3, rfl, rfl, rfl, w3⟩ := open_int Tryd.underlying3 (hval 3 3 v3 rfl rfl) h3
  clear hA0 hval0
  refine (walk a0 a1 a2 a3 W w0 w1 w2 w3 (tab_of_laid hL)).mono fun e W' ⟨he, bel⟩ => ?_
  subst he
  exact ⟨_, rfl, _, _, _, [], _, [], hW', trodAll_mk1 (shut_bool Tryd.underlying4 _), (trodAll_cons_mk (shut_int Tryd.underlying22 w0) (trodAll_cons_mk (shut_int Tryd.underlying22 w1) (trodAll_cons_mk (shut_int Tryd.underlying3 w2) (trodAll_cons_mk (shut_int Tryd.underlying3 w3) trodAll_mk0)))), rfl, bel.frame _, fun h => by cases h⟩

theorem over : Rows.wheelWidthsRow.holds Tryd.pinned (OpenSpec.ofChange Rows.wheelWidthsSpec) :=
  OpenClaim.holds_of_wide 4 Tryd.f4 rfl rfl rfl rfl rfl rfl rfl ⟨rfl, rfl, rfl, rfl, rfl⟩ rfl rfl rfl rfl rfl (by kernel_rfl) Tryd.func4 (by kernel_rfl)
    (of_decide_eq_true (by kernel_rfl)) (by unfold Func.isWrapper; first | (rw [if_pos (by decide +kernel)]; kernel_rfl) | (rw [if_neg (by decide +kernel)]; exact ⟨rfl, rfl⟩))
    (fun os started H enc _ => lifted os started H enc)

/-- The statement: the card, its listed variable tied to the program's text. -/
theorem proved : Rows.WheelWidthsCardSaid :=
  Claim7.holds_tied_plain_at .later [] [.data] true (true, "c1baca7e8a45fd53add94cf52a5f971d519e3f9f1c46d631b42e2657d54dce93") false
    over (fun _ h => by cases h) (by kernel_rfl) (fun _ h => by cases h) wheelWidths_row_tie rfl ⟨rfl, rfl⟩ (by kernel_rfl) rfl
    (fun f fn hf hfn => by
      obtain rfl : f = 4 := Option.some.inj ((show Tryd.prog.funcNamed "weighbridge/weighbridgelaw05.WheelWidths" = some 4 by kernel_rfl).symm.trans hf) |>.symm
      obtain rfl : fn = Tryd.f4 := (Option.some.inj (Tryd.func4.symm.trans hfn)).symm
      exact ⟨by kernel_rfl, fun j t ht => by
        rw [Tryd.params4] at ht
        have hm : t ∈ [22, 22, 3, 3] := by simpa using Array.mem_of_getElem? ht
        have hall : ([22, 22, 3, 3].all fun u => !Tryd.prog.wantsStandIn u) = true := by kernel_rfl
        exact (show Tryd.prog.wantsStandIn t = false by simpa using List.all_eq_true.1 hall t hm)⟩)
    (by kernel_rfl)
#print axioms proved
end Go.Proofs.YtlokeennplhflaaDoor.wheelWidths
