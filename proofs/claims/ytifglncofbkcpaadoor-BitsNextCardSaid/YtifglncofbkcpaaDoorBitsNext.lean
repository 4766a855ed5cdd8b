/-
  weighbridgelaw03.BitsNext returns true for every input, and leaves its arguments as they were, where math/bits' table holds what the program's own text lays there (the card ties it). No other condition but that the arguments are values of their types.
-/
import Derived.Test.YtifglncofbkcpaaDoorRows
import Derived.Test.YtifglncofbkcpaaDoorTie
import Derived.Test.YtifglncofbkcpaaDoorCards
import Derived.Test.YtifglncofbkcpaaDoorBitsG
import Derived.ShutString
import Derived.ChangeOld
import Derived.Below
import Derived.SevenTiedAt
namespace Go.Proofs.YtifglncofbkcpaaDoor.bitsNext
open Go.ChangeShapes Go.WideShapes Go.ChangeAt Go.RowKit
set_option linter.unusedVariables false

set_option maxHeartbeats 4000000 in
theorem walk (a0 : Int) (a1 : Int) (w : World) (w0 : (Lit.int .u64 a0).wf = true) (w1 : (Lit.int .i64 a1).wf = true) (hT : Tab w) :
    Calls Tryd.prog 5 #[.int .u64 a0, .int .i64 a1] w fun e w' => e = .returned (.bool true) ∧ Below w.heap.size w w' := by
  obtain ⟨b0, c0⟩ := bounds_u64 w0
  obtain ⟨b, rfl⟩ := Int.eq_ofNat_of_zero_le b0
  have hb : b < 18446744073709551616 := by omega
  obtain ⟨f0, f1⟩ := bounds_i64 w1
  clear w0 w1 b0 c0
  have hl := upTo_len b 64
  by_cases h40 : 40 < a1
  · obtain ⟨q, hq, hq1, eq⟩ : ∃ q : Int, -9223372036854775808 ≤ q ∧ (0 ≤ q ∧ q < 70) ∧ a1 % 70 = q := ⟨_, by omega, by omega, rfl⟩
    obtain ⟨q0, q70⟩ := hq1
    go_enter Tryd.func5, Tryd.ntmps5
    go_wp2_with fail
    refine (rbits_any b w hb).mono ?_
    rintro e w1 ⟨a2, cap1, rfl, h1, B1⟩
    by_cases hn : upTo b 64 = []
    · have n1 := none_next b q hn
      have n2 := none_last b q hn
      rw [hn]
      clear h1 hn hl
      go_wp2_with fail
      go_loop [5, 6, 8] (fun nx la i => nx = .int .i64 (-1) ∧ la = .int .i64 (-1) ∧ i = .int .i64 0) (fun _ _ _ => 0)
      case atStart => exact ⟨rfl, rfl, rfl⟩
      case round =>
        obtain ⟨rfl, rfl, rfl⟩ := hrel
        go_wp2_with fail
        refine (bawake w1 (hT.below B1)).mono ?_
        rintro e w2 ⟨rfl, B2⟩
        have B3 := B1.trans (B2.mono B1.size)
        have T := hT.below B3
        clear B1 B2 hT
        go_wp2_with fail
        refine (next_any b q w2 hb T).mono ?_
        rintro e w' ⟨rfl, rfl⟩
        go_wp2_with fail
        refine (last_any b q w2 hb hq).mono ?_
        rintro e w' ⟨rfl, rfl⟩
        go_wp2
        go_ret
        exact ⟨by simp, B3⟩
    · obtain ⟨g, rfl, hg, hc⟩ := h1 hn
      clear h1
      have hN : nextL q (upTo b 64) = nextM b q := rfl
      have hL : lastL q (upTo b 64) = lastM b q := rfl
      generalize upTo b 64 = l at *
      obtain ⟨n, hln⟩ : ∃ n, l.length = n := ⟨_, rfl⟩
      rw [hln] at hc hl ⊢
      have HLN := Lib.hid hln
      have HN := Lib.hid hN
      have HL := Lib.hid hL
      clear hln hN hL hn
      go_wp2_with fail
      go_loop [5, 6, 8] (fun nx la i => ∃ k : Nat, k ≤ n ∧ i = .int .i64 k ∧ nx = .int .i64 (nextL q (l.take k)) ∧ la = .int .i64 (lastL q (l.take k))) (fun _ _ i => n - (intOf i).toNat)
      case atStart => exact ⟨0, Nat.zero_le _, rfl, rfl, rfl⟩
      case round =>
        obtain ⟨k, hk, rfl, rfl, rfl⟩ := hrel
        by_cases hlt : k < n
        · have cell := hc k hlt
          clear hc
          have H1 := Lib.hid (nextL_take q l k (by rw [HLN.out]; exact hlt))
          have H2 := Lib.hid (lastL_take q l k (by rw [HLN.out]; exact hlt))
          have hr := nextL_range q (l.take k)
          generalize nextL q (l.take k) = p at *
          generalize lastL q (l.take k) = r at *
          generalize l.getD k 0 = x at *
          by_cases h1 : q ≤ (x : Int) <;> by_cases h2 : p < 0 <;> by_cases h3 : (x : Int) ≤ q
          all_goals
            go_wp2
            go_round
            case rel => exact ⟨k + 1, by omega, by go_num, congrArg (Value.int .i64) (by rw [H1.out]; split <;> (try split) <;> omega), congrArg (Value.int .i64) (by rw [H2.out]; split <;> omega)⟩
            case measure => simp [intOf]; omega
        · have e1 : nextL q (l.take k) = nextM b q := by rw [List.take_of_length_le (by rw [HLN.out]; omega), HN.out]
          have e2 : lastL q (l.take k) = lastM b q := by rw [List.take_of_length_le (by rw [HLN.out]; omega), HL.out]
          rw [e1, e2]
          clear e1 e2 HN HL HLN hc
          go_wp2_with fail
          refine (bawake w1 (hT.below B1)).mono ?_
          rintro e w2 ⟨rfl, B2⟩
          have B3 := B1.trans (B2.mono B1.size)
          have T := hT.below B3
          clear B1 B2 hT
          go_wp2_with fail
          refine (next_any b q w2 hb T).mono ?_
          rintro e w' ⟨rfl, rfl⟩
          go_wp2_with fail
          refine (last_any b q w2 hb hq).mono ?_
          rintro e w' ⟨rfl, rfl⟩
          go_wp2
          go_ret
          exact ⟨by simp, B3⟩
  · obtain ⟨q, hq, eq⟩ : ∃ q : Int, -9223372036854775808 ≤ q ∧ a1 = q := ⟨_, f0, rfl⟩
    subst eq
    go_enter Tryd.func5, Tryd.ntmps5
    go_wp2_with fail
    refine (rbits_any b w hb).mono ?_
    rintro e w1 ⟨a2, cap1, rfl, h1, B1⟩
    by_cases hn : upTo b 64 = []
    · have n1 := none_next b a1 hn
      have n2 := none_last b a1 hn
      rw [hn]
      clear h1 hn hl
      go_wp2_with fail
      go_loop [5, 6, 8] (fun nx la i => nx = .int .i64 (-1) ∧ la = .int .i64 (-1) ∧ i = .int .i64 0) (fun _ _ _ => 0)
      case atStart => exact ⟨rfl, rfl, rfl⟩
      case round =>
        obtain ⟨rfl, rfl, rfl⟩ := hrel
        go_wp2_with fail
        refine (bawake w1 (hT.below B1)).mono ?_
        rintro e w2 ⟨rfl, B2⟩
        have B3 := B1.trans (B2.mono B1.size)
        have T := hT.below B3
        clear B1 B2 hT
        go_wp2_with fail
        refine (next_any b a1 w2 hb T).mono ?_
        rintro e w' ⟨rfl, rfl⟩
        go_wp2_with fail
        refine (last_any b a1 w2 hb hq).mono ?_
        rintro e w' ⟨rfl, rfl⟩
        go_wp2
        go_ret
        exact ⟨by simp, B3⟩
    · obtain ⟨g, rfl, hg, hc⟩ := h1 hn
      clear h1
      have hN : nextL a1 (upTo b 64) = nextM b a1 := rfl
      have hL : lastL a1 (upTo b 64) = lastM b a1 := rfl
      generalize upTo b 64 = l at *
      obtain ⟨n, hln⟩ : ∃ n, l.length = n := ⟨_, rfl⟩
      rw [hln] at hc hl ⊢
      have HLN := Lib.hid hln
      have HN := Lib.hid hN
      have HL := Lib.hid hL
      clear hln hN hL hn
      go_wp2_with fail
      go_loop [5, 6, 8] (fun nx la i => ∃ k : Nat, k ≤ n ∧ i = .int .i64 k ∧ nx = .int .i64 (nextL a1 (l.take k)) ∧ la = .int .i64 (lastL a1 (l.take k))) (fun _ _ i => n - (intOf i).toNat)
      case atStart => exact ⟨0, Nat.zero_le _, rfl, rfl, rfl⟩
      case round =>
        obtain ⟨k, hk, rfl, rfl, rfl⟩ := hrel
        by_cases hlt : k < n
        · have cell := hc k hlt
          clear hc
          have H1 := Lib.hid (nextL_take a1 l k (by rw [HLN.out]; exact hlt))
          have H2 := Lib.hid (lastL_take a1 l k (by rw [HLN.out]; exact hlt))
          have hr := nextL_range a1 (l.take k)
          generalize nextL a1 (l.take k) = p at *
          generalize lastL a1 (l.take k) = r at *
          generalize l.getD k 0 = x at *
          by_cases h1 : a1 ≤ (x : Int) <;> by_cases h2 : p < 0 <;> by_cases h3 : (x : Int) ≤ a1
          all_goals
            go_wp2
            go_round
            case rel => exact ⟨k + 1, by omega, by go_num, congrArg (Value.int .i64) (by rw [H1.out]; split <;> (try split) <;> omega), congrArg (Value.int .i64) (by rw [H2.out]; split <;> omega)⟩
            case measure => simp [intOf]; omega
        · have e1 : nextL a1 (l.take k) = nextM b a1 := by rw [List.take_of_length_le (by rw [HLN.out]; omega), HN.out]
          have e2 : lastL a1 (l.take k) = lastM b a1 := by rw [List.take_of_length_le (by rw [HLN.out]; omega), HL.out]
          rw [e1, e2]
          clear e1 e2 HN HL HLN hc
          go_wp2_with fail
          refine (bawake w1 (hT.below B1)).mono ?_
          rintro e w2 ⟨rfl, B2⟩
          have B3 := B1.trans (B2.mono B1.size)
          have T := hT.below B3
          clear B1 B2 hT
          go_wp2_with fail
          refine (next_any b a1 w2 hb T).mono ?_
          rintro e w' ⟨rfl, rfl⟩
          go_wp2_with fail
          refine (last_any b a1 w2 hb hq).mono ?_
          rintro e w' ⟨rfl, rfl⟩
          go_wp2
          go_ret
          exact ⟨by simp, B3⟩

/-! ### The step from the walk to the row -/
set_option maxRecDepth 100000 in
theorem lifted (os : Os) (started : os.Started) (H : Type) (enc : TypeId × Value → H) :
    ReturnsInHanded {} Tryd.checked os 5 .any (fun w args => (Rows.bitsNextSpec.pre enc Tryd.prog Tryd.f5 [] false w args ∧ laidMetH Tryd.prog listed w) ∧ sizedMet enc Tryd.prog Tryd.f5 (OpenSpec.ofChange Rows.bitsNextSpec) false w args)
      (Rows.bitsNextSpec.post enc Tryd.prog Tryd.f5 false true false false) := by
  refine returnsInHanded_of_change_and (C := Tryd.checked) (X := fun w _ => laidMetH Tryd.prog listed w) (fun _ _ _ hh h => h.of_heap hh) own started (by kernel_rfl) Tryd.func5
    (ChangeSpec.witness_shaped (enc := enc) (C := Tryd.checked) (os := os) (X := fun w _ => laidMetH Tryd.prog listed w) false (World.doorLaid Tryd.prog 14 os) #[.int .u64 0, .int .i64 0] 8 rfl (World.shaped_of_RefB (by kernel_rfl) (by kernel_rfl)) (by kernel_rfl) (by kernel_rfl) (by kernel_rfl) (door_met os _)) ?_
  intro W base args ds gs before hval0 hW _ _ hL _
  have hval : ∀ (j : Nat) t v, Tryd.f5.params[j]? = some t → args[j]? = some v → Value.okWide Tryd.prog W .any base t v := hval0
  have hW' := hW
  obtain ⟨p, q, hA0, hV, rfl, hfz, hnd⟩ := hW
  have hA : DataW.TrodAll enc Tryd.prog W 0 (fun _ => true) true Tryd.f5.params.toList args.toList ds p := hA0
  rw [Tryd.params5] at hA hval
  obtain ⟨v0, vs0, d0, ds0, p0, q0, hargs, rfl, rfl, h0, r0⟩ := trodAll_cons hA
  obtain ⟨v1, vs1, d1, ds1, p1, q1, rfl, rfl, rfl, h1, r1⟩ := trodAll_cons r0
  obtain ⟨rfl, rfl, rfl⟩ := trodAll_nil r1
  obtain rfl : args = #[v0, v1] := by cases args; simp_all
  obtain ⟨rfl, rfl⟩ := trodVars_none hV
  obtain ⟨a0, rfl, rfl, rfl, w0⟩ := open_int Tryd.underlying22 (hval 0 22 v0 rfl rfl) h0
  obtain ⟨a1, rfl, rfl, rfl, w1⟩ := open_int Tryd.underlying3 (hval 1 3 v1 rfl rfl) h1
  clear hA0 hval0
  refine (walk a0 a1 W w0 w1 (tab_of_laid hL)).mono fun e W' ⟨he, bel⟩ => ?_
  subst he
  exact ⟨_, rfl, _, _, _, [], _, [], hW', trodAll_mk1 (shut_bool Tryd.underlying4 _), (trodAll_cons_mk (shut_int Tryd.underlying22 w0) (trodAll_cons_mk (shut_int Tryd.underlying3 w1) trodAll_mk0)), rfl, bel.frame _, fun h => by cases h⟩

theorem over : Rows.bitsNextRow.holds Tryd.pinned (OpenSpec.ofChange Rows.bitsNextSpec) :=
  OpenClaim.holds_of_wide 5 Tryd.f5 rfl rfl rfl rfl rfl rfl rfl ⟨rfl, rfl, rfl, rfl, rfl⟩ rfl rfl rfl rfl rfl (by kernel_rfl) Tryd.func5 (by kernel_rfl)
    (of_decide_eq_true (by kernel_rfl)) (by unfold Func.isWrapper; first | (rw [if_pos (by decide +kernel)]; kernel_rfl) | (rw [if_neg (by decide +kernel)]; exact ⟨rfl, rfl⟩))
    (fun os started H enc _ => lifted os started H enc)

/-- The statement: the card, its listed variable tied to the program's text. -/
theorem proved : Rows.BitsNextCardSaid :=
  Claim7.holds_tied_plain_at .later [] [.data] true (true, "de5af8861bb98512e16573bb17c796dd479fb90e4e21c4427c1c1d33e68551e7") false
    over (fun _ h => by cases h) (by kernel_rfl) (fun _ h => by cases h) bitsNext_row_tie rfl ⟨rfl, rfl⟩ (by kernel_rfl) rfl
    (fun f fn hf hfn => by
      obtain rfl : f = 5 := Option.some.inj ((show Tryd.prog.funcNamed "weighbridge/weighbridgelaw03.BitsNext" = some 5 by kernel_rfl).symm.trans hf) |>.symm
      obtain rfl : fn = Tryd.f5 := (Option.some.inj (Tryd.func5.symm.trans hfn)).symm
      exact ⟨by kernel_rfl, fun j t ht => by
        rw [Tryd.params5] at ht
        have hm : t ∈ [22, 3] := by simpa using Array.mem_of_getElem? ht
        have hall : ([22, 3].all fun u => !Tryd.prog.wantsStandIn u) = true := by kernel_rfl
        exact (show Tryd.prog.wantsStandIn t = false by simpa using List.all_eq_true.1 hall t hm)⟩)
    (by kernel_rfl)
#print axioms proved
end Go.Proofs.YtifglncofbkcpaaDoor.bitsNext
