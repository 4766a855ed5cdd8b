/-
  weighbridgelaw03.BitsFar returns true for every input, and leaves its arguments as they were, where math/bits' table holds what the program's own text lays there (the card ties it). No other condition but that the arguments are values of their types.
-/
import Derived.Test.YtifglncofbkcpaaDoorRows
import Derived.Test.YtifglncofbkcpaaDoorTie
import Derived.Test.YtifglncofbkcpaaDoorCards
import Derived.Test.YtifglncofbkcpaaDoorBitsG
import Derived.ShutString
import Derived.ChangeOld
import Derived.Below
import Derived.SevenTiedAt
namespace Go.Proofs.YtifglncofbkcpaaDoor.bitsFar
open Go.ChangeShapes Go.WideShapes Go.ChangeAt Go.RowKit
set_option linter.unusedVariables false

set_option maxHeartbeats 1000000 in
theorem walk (a0 : Int) (a1 : Int) (w : World) (w0 : (Lit.int .u64 a0).wf = true) (w1 : (Lit.int .i64 a1).wf = true) (hT : Tab w) :
    Calls Tryd.prog 6 #[.int .u64 a0, .int .i64 a1] w fun e w' => e = .returned (.bool true) ∧ Below w.heap.size w w' := by
  obtain ⟨b0, c0⟩ := bounds_u64 w0
  obtain ⟨b, rfl⟩ := Int.eq_ofNat_of_zero_le b0
  have hb : b < 18446744073709551616 := by omega
  obtain ⟨f0, f1⟩ := bounds_i64 w1
  clear w0 w1 b0 c0
  have hl := upTo_len b 64
  obtain ⟨lo, hlo, elo⟩ : ∃ lo : Int, (-9223372036854775808 ≤ lo ∧ lo ≤ -1) ∧ min a1 (-1) = lo := ⟨_, by omega, rfl⟩
  obtain ⟨hi, hhi, ehi⟩ : ∃ hi : Int, (64 ≤ hi) ∧ max a1 64 = hi := ⟨_, by omega, rfl⟩
  have n2 := far_next b hi hhi
  have n3 := low_last b lo hlo.2
  by_cases hn : upTo b 64 = []
  · have n1 := none_next b lo hn
    have n4 := none_last b hi hn
    go_enter Tryd.func6, Tryd.ntmps6
    go_wp2_with fail
    refine (rbits_any b w hb).mono ?_
    rintro e w1 ⟨a2, cap1, rfl, h1, B1⟩
    rw [hn]
    clear h1
    go_wp2_with fail
    refine (bawake w1 (hT.below B1)).mono ?_
    rintro e w2 ⟨rfl, B2⟩
    have B3 := B1.trans (B2.mono B1.size)
    have T := hT.below B3
    clear B1 B2 hT
    go_wp2_with fail
    refine (next_any b lo w2 hb T).mono ?_
    rintro e w' ⟨rfl, rfl⟩
    go_wp2_with fail
    refine (next_any b hi w2 hb T).mono ?_
    rintro e w' ⟨rfl, rfl⟩
    go_wp2_with fail
    refine (last_any b lo w2 hb hlo.1).mono ?_
    rintro e w' ⟨rfl, rfl⟩
    go_wp2_with fail
    refine (last_any b hi w2 hb (by omega)).mono ?_
    rintro e w' ⟨rfl, rfl⟩
    go_wp2
    go_ret
    exact ⟨by simp, B3⟩
  · obtain ⟨m, hm⟩ : ∃ m, (upTo b 64).length = m + 1 := by
      cases e : upTo b 64 with
      | nil => exact absurd e hn
      | cons x l => exact ⟨l.length, rfl⟩
    have n1 := low_next b lo hlo.2 hn
    have n4 := far_last b hi hhi m hm
    go_enter Tryd.func6, Tryd.ntmps6
    go_wp2_with fail
    refine (rbits_any b w hb).mono ?_
    rintro e w1 ⟨a2, cap1, rfl, h1, B1⟩
    obtain ⟨g, rfl, hg, hc⟩ := h1 hn
    have q0 := hc 0 (by omega)
    have q1 := hc m (by omega)
    rw [hm]
    clear hc
    generalize (upTo b 64).getD 0 0 = x0 at *
    generalize (upTo b 64).getD m 0 = x1 at *
    have hm64 : m < 64 := by omega
    clear hm hl hn
    go_wp2_with fail
    go_quiet (fail)
    have B2 : Below w.heap.size w (w1.drewN nq) := below_drewN B1 _
    clear q0 q1 h1 hg B1
    generalize w1.drewN nq = w3 at *
    go_wp2_with fail
    refine (bawake w3 (hT.below B2)).mono ?_
    rintro e w2 ⟨rfl, B4⟩
    have B3 := B2.trans (B4.mono B2.size)
    have T := hT.below B3
    clear B2 B4 hT
    go_wp2_with fail
    refine (next_any b lo w2 hb T).mono ?_
    rintro e w' ⟨rfl, rfl⟩
    go_wp2_with fail
    refine (next_any b hi w2 hb T).mono ?_
    rintro e w' ⟨rfl, rfl⟩
    go_wp2_with fail
    refine (last_any b lo w2 hb hlo.1).mono ?_
    rintro e w' ⟨rfl, rfl⟩
    go_wp2_with fail
    refine (last_any b hi w2 hb (by omega)).mono ?_
    rintro e w' ⟨rfl, rfl⟩
    go_wp2
    go_ret
    exact ⟨by simp, B3⟩

/-! ### The step from the walk to the row -/
set_option maxRecDepth 100000 in
theorem lifted (os : Os) (started : os.Started) (H : Type) (enc : TypeId × Value → H) :
    ReturnsInHanded {} Tryd.checked os 6 .any (fun w args => (Rows.bitsFarSpec.pre enc Tryd.prog Tryd.f6 [] false w args ∧ laidMetH Tryd.prog listed w) ∧ sizedMet enc Tryd.prog Tryd.f6 (OpenSpec.ofChange Rows.bitsFarSpec) false w args)
      (Rows.bitsFarSpec.post enc Tryd.prog Tryd.f6 false true false false) := by
  refine returnsInHanded_of_change_and (C := Tryd.checked) (X := fun w _ => laidMetH Tryd.prog listed w) (fun _ _ _ hh h => h.of_heap hh) own started (by kernel_rfl) Tryd.func6
    (ChangeSpec.witness_shaped (enc := enc) (C := Tryd.checked) (os := os) (X := fun w _ => laidMetH Tryd.prog listed w) false (World.doorLaid Tryd.prog 14 os) #[.int .u64 0, .int .i64 0] 8 rfl (World.shaped_of_RefB (by kernel_rfl) (by kernel_rfl)) (by kernel_rfl) (by kernel_rfl) (by kernel_rfl) (door_met os _)) ?_
  intro W base args ds gs before hval0 hW _ _ hL _
  have hval : ∀ (j : Nat) t v, Tryd.f6.params[j]? = some t → args[j]? = some v → Value.okWide Tryd.prog W .any base t v := hval0
  have hW' := hW
  obtain ⟨p, q, hA0, hV, rfl, hfz, hnd⟩ := hW
  have hA : DataW.TrodAll enc Tryd.prog W 0 (fun _ => true) true Tryd.f6.params.toList args.toList ds p := hA0
  rw [Tryd.params6] at hA hval
  obtain ⟨v0, vs0, d0, ds0, p0, q0, hargs, rfl, rfl, h0, r0⟩ := trodAll_cons hA
  obtain ⟨v1, vs1, d1, ds1, p1, q1, rfl, rfl, rfl, h1, r1⟩ := trodAll_cons r0
  obtain ⟨rfl, rfl, rfl⟩ := trodAll_nil r1
  obtain rfl : args = #[v0, v1] := by cases args; simp_all
  obtain ⟨rfl, rfl⟩ := trodVars_none hV
  obtain ⟨a0, rfl, rfl, rfl, w0⟩ := open_int Tryd.underlying22 (hval 0 22 v0 rfl rfl) h0
  obtain ⟨a1, rfl, rfl, rfl, w1⟩ := open_int Tryd.underlying3 (hval 1 3 v1 rfl rfl) h1
  clear hA0 hval0
  refine (walk a0 a1 W w0 w1 (tab_of_laid hL)).mono fun e W' ⟨he, bel⟩ => ?_
  subst he
  exact ⟨_, rfl, _, _, _, [], _, [], hW', trodAll_mk1 (shut_bool Tryd.underlying4 _), (trodAll_cons_mk (shut_int Tryd.underlying22 w0) (trodAll_cons_mk (shut_int Tryd.underlying3 w1) trodAll_mk0)), rfl, bel.frame _, fun h => by cases h⟩

theorem over : Rows.bitsFarRow.holds Tryd.pinned (OpenSpec.ofChange Rows.bitsFarSpec) :=
  OpenClaim.holds_of_wide 6 Tryd.f6 rfl rfl rfl rfl rfl rfl rfl ⟨rfl, rfl, rfl, rfl, rfl⟩ rfl rfl rfl rfl rfl (by kernel_rfl) Tryd.func6 (by kernel_rfl)
    (of_decide_eq_true (by kernel_rfl)) (by unfold Func.isWrapper; first | (rw [if_pos (by decide +kernel)]; kernel_rfl) | (rw [if_neg (by decide +kernel)]; exact ⟨rfl, rfl⟩))
    (fun os started H enc _ => lifted os started H enc)

/-- The statement: the card, its listed variable tied to the program's text. -/
theorem proved : Rows.BitsFarCardSaid :=
  Claim7.holds_tied_plain_at .later [] [.data] true (true, "de5af8861bb98512e16573bb17c796dd479fb90e4e21c4427c1c1d33e68551e7") false
    over (fun _ h => by cases h) (by kernel_rfl) (fun _ h => by cases h) bitsFar_row_tie rfl ⟨rfl, rfl⟩ (by kernel_rfl) rfl
    (fun f fn hf hfn => by
      obtain rfl : f = 6 := Option.some.inj ((show Tryd.prog.funcNamed "weighbridge/weighbridgelaw03.BitsFar" = some 6 by kernel_rfl).symm.trans hf) |>.symm
      obtain rfl : fn = Tryd.f6 := (Option.some.inj (Tryd.func6.symm.trans hfn)).symm
      exact ⟨by kernel_rfl, fun j t ht => by
        rw [Tryd.params6] at ht
        have hm : t ∈ [22, 3] := by simpa using Array.mem_of_getElem? ht
        have hall : ([22, 3].all fun u => !Tryd.prog.wantsStandIn u) = true := by kernel_rfl
        exact (show Tryd.prog.wantsStandIn t = false by simpa using List.all_eq_true.1 hall t hm)⟩)
    (by kernel_rfl)
#print axioms proved
end Go.Proofs.YtifglncofbkcpaaDoor.bitsFar
