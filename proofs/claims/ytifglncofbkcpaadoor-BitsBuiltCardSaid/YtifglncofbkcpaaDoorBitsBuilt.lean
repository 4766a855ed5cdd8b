/-
  weighbridgelaw03.BitsBuilt returns true for every input, and leaves its arguments as they were, where math/bits' table holds what the program's own text lays there (the card ties it). No other condition but that the arguments are values of their types.
-/
import Derived.Test.YtifglncofbkcpaaDoorRows
import Derived.Test.YtifglncofbkcpaaDoorTie
import Derived.Test.YtifglncofbkcpaaDoorCards
import Derived.Test.YtifglncofbkcpaaDoorBitsG
import Derived.ShutString
import Derived.ChangeOld
import Derived.Below
import Derived.SevenTiedAt
namespace Go.Proofs.YtifglncofbkcpaaDoor.bitsBuilt
open Go.ChangeShapes Go.WideShapes Go.ChangeAt Go.RowKit
set_option linter.unusedVariables false

/-- What the walk is told of a slice of integers that came in: it is nil, or it leads to a row of cap cells, the numbers zs, each fitting its kind. -/
def IsRow (k : IntKind) (w : World) (a : Option Addr) (len cap : Nat) (zs : List Int) : Prop :=
  (a = none ∧ len = 0 ∧ cap = 0 ∧ zs = []) ∨
  ∃ x, a = some x ∧ len ≤ cap ∧ cap ≤ maxLen ∧ zs.length = cap ∧ (∀ i, i < zs.length → w.cell? (x.add i) = some (.int k (zs.getD i 0))) ∧ ∀ n ∈ zs, (Lit.int k n).wf = true

/-- The array of what was made 1 last: its cells are the bits of B. -/
def OnAt (w : World) (g B : Nat) : Prop := ∃ cs, w.heap[g]? = some (.cells cs 34 (0, 0)) ∧ cs.size = 64 ∧ ∀ j, j < 64 → cs[j]? = some (.bool (B.testBit j))
theorem OnAt.cell {w : World} {g B : Nat} (h : OnAt w g B) (j : Nat) (hj : j < 64) : w.cell? ⟨g, j, none⟩ = some (.bool (B.testBit j)) := by
  obtain ⟨cs, h1, _, h3⟩ := h
  rw [cell_of_row w g j cs _ (0, 0) h1, h3 j hj]
theorem OnAt.frozen {w : World} {g B : Nat} (h : OnAt w g B) (j : Nat) : w.frozen? ⟨g, j, none⟩ = false := by
  obtain ⟨cs, h1, _, _⟩ := h
  exact frozen_of_row w g j cs _ h1
theorem OnAt.set {w : World} {g B B' j : Nat} {v : Bool} (h : OnAt w g B) (hj : j < 64) (hB : ∀ i, i < 64 → B'.testBit i = if j = i then v else B.testBit i) : OnAt (w.setCell ⟨g, j, none⟩ (.bool v)) g B' := by
  obtain ⟨cs, h1, h2, h3⟩ := h
  refine ⟨cs.setIfInBounds j (.bool v), by simp [World.setCell, Array.getElem?_modify, h1], by simpa using h2, fun i hi => ?_⟩
  rw [Array.getElem?_setIfInBounds, hB i hi]
  by_cases e : j = i
  · subst e; simp [h2, hj]
  · simp [e, h3 i hi]
theorem OnAt.new (w : World) (cs : Array Value) (h : cs = (List.replicate 64 (Value.bool false)).toArray) : OnAt (w.alloc (.cells cs 34)) w.heap.size 0 := by
  subst h
  refine ⟨_, heap_alloc_new w _, by simp, fun j hj => ?_⟩
  rw [List.getElem?_toArray, List.getElem?_replicate, if_pos hj, Nat.zero_testBit]
theorem with_bits (B r i : Nat) (hr : r < 64) : (withM B r).testBit i = if r = i then true else B.testBit i := by
  have e : oneM r = 2 ^ r := by unfold oneM; rw [if_pos (by omega), Int.toNat_natCast]
  unfold withM
  rw [e, Nat.testBit_or, Nat.testBit_two_pow]
  by_cases h : r = i <;> simp [h]
theorem without_bits (B r i : Nat) (hr : r < 64) (hB : B < 18446744073709551616) : (withoutM B r).testBit i = if r = i then false else B.testBit i := by
  have e : oneM r = 2 ^ r := by unfold oneM; rw [if_pos (by omega), Int.toNat_natCast]
  unfold withoutM
  rw [e, without_bit B r i hr hB]
  by_cases h : r = i <;> simp [h]
theorem rem128 (a : Int) : ∃ r : Nat, r < 128 ∧ (IntKind.u64.wrap a).tmod 128 = (r : Int) := by
  have h : 0 ≤ IntKind.u64.wrap a := by rw [IntKind.wrap_u64]; omega
  rw [Int.tmod_eq_emod_of_nonneg h]
  generalize IntKind.u64.wrap a = q at *
  exact ⟨(q % 128).toNat, by omega, by omega⟩
theorem has_in (B k : Nat) (hk : k < 64) : hasB B k = B.testBit k := by
  unfold hasB
  rw [decide_eq_true (by omega), Bool.true_and, Int.toNat_natCast]

set_option maxHeartbeats 4000000 in
set_option maxRecDepth 100000 in
theorem built (b off len cap : Nat) (zs : List Int) (w : World) (hT : Tab w) (hm : len ≤ 9223372036854775807) (hlt : 0 < len → b < w.heap.size)
    (hc : ∀ k, k < len → w.cell? ⟨b, off + k, none⟩ = some (.int .i64 (zs.getD k 0))) :
    Calls Tryd.prog 8 #[.slice (some ⟨b, off, none⟩) len cap] w fun e w' => e = .returned (.bool true) ∧ Below w.heap.size w w' := by
  go_enter Tryd.func8, Tryd.ntmps8
  go_wp2
  go_loopw [3, 5] (fun v i wr => ∃ k B : Nat, k ≤ len ∧ B < 18446744073709551616 ∧ i = .int .i64 k ∧ v = .int .u64 (B : Int) ∧ OnAt wr w.heap.size B ∧ Below w.heap.size w wr) (fun _ i _ => len - (intOf i).toNat)
  case atStart => exact ⟨0, 0, Nat.zero_le _, by decide, rfl, rfl, OnAt.new w _ rfl, (Below.refl _ _).alloc (Nat.le_refl _) _⟩
  case round =>
    obtain ⟨k, B, hk, hB, rfl, rfl, ho, hbel⟩ := hrel
    by_cases hkl : k < len ∧ (k : Int) < 200
    · obtain ⟨hkl, h200⟩ := hkl
      have hcell := (hbel.cell (p := ⟨b, off + k, none⟩) (hlt (by omega))).trans (hc k hkl)
      clear hc hlt
      obtain ⟨r, hr, er⟩ := rem128 (zs.getD k 0)
      generalize zs.getD k 0 = z at *
      by_cases h64 : r < 64
      · have c1 := ho.cell r h64
        have f1 := ho.frozen r
        have R := ho.set (v := true) h64 (fun i _ => with_bits B r i h64)
        have Bl := hbel.setCell (p := ⟨w.heap.size, r, none⟩) (Nat.le_refl _) (.bool true)
        have hW := withM_lt B r hB
        clear ho hbel
        go_wp2_with (go_at_call 16; refine (with_any _ _ _ hB).mono ?_; rintro e w' ⟨rfl, rfl⟩)
        go_roundw
        case rel => exact ⟨k + 1, withM B r, by omega, hW, by go_num, rfl, R, Bl⟩
        case measure => simp [intOf]; omega
      · obtain ⟨q, rfl⟩ : ∃ q, r = q + 64 := ⟨r - 64, by omega⟩
        have hq : q < 64 := by omega
        have er2 : (IntKind.u64.wrap z).tmod 128 = (q : Int) + 64 := by rw [er]; omega
        clear er h64 hr
        have c1 := ho.cell q hq
        have f1 := ho.frozen q
        have R := ho.set (v := false) hq (fun i _ => without_bits B q i hq hB)
        have Bl := hbel.setCell (p := ⟨w.heap.size, q, none⟩) (Nat.le_refl _) (.bool false)
        have hW := withoutM_lt B q hB
        clear ho hbel
        go_wp2_with (go_at_call 17; refine (without_any _ _ _ hB).mono ?_; rintro e w' ⟨rfl, rfl⟩)
        go_roundw
        case rel => exact ⟨k + 1, withoutM B q, by omega, hW, by go_num, rfl, R, Bl⟩
        case measure => simp [intOf]; omega
    · have hend : ¬ k < len ∨ ¬ (k : Int) < 200 := by omega
      clear hc hlt hkl
      rcases hend with hend | hend
      · generalize wr = wu at *
        have TW := hT.below hbel
        go_wp2_with fail
        go_loopw [7] (fun i w2 => ∃ k : Nat, k ≤ 64 ∧ i = .int .i64 k ∧ Drawn wu w2) (fun i _ => 64 - (intOf i).toNat)
        case atStart => exact ⟨0, by omega, rfl, 0, rfl⟩
        case round =>
          obtain ⟨j, hj, rfl, hd⟩ := hrel
          by_cases hj64 : j < 64
          · have c1 := (hd.cell _).trans (ho.cell j hj64)
            have t := has_in B j hj64
            generalize B.testBit j = x at *
            go_wp2_with fail
            go_quiet ((go_at_call 18; exact Calls.quiet_of_same ((has_any _ _ _ hB).mono fun _ _ q => ⟨q.1, q.2.symm⟩)))
            go_wp2
            go_roundw
            case rel => exact ⟨j + 1, by omega, by go_num, hd.more _⟩
            case measure => simp [intOf]; omega
          · have hbd := hbel.trans (hd.below.mono hbel.size)
            have TD := TW.below hd.below
            clear ho hbel TW hd hT
            go_wp2_with fail
            refine (bawake wr TD).mono ?_
            rintro e w3 ⟨rfl, B3⟩
            have B4 := hbd.trans (B3.mono hbd.size)
            clear B3 hbd TD
            go_wp2
            go_ret
            exact ⟨rfl, B4⟩
      · by_cases hk2 : k < len
        · generalize wr = wu at *
          have TW := hT.below hbel
          go_wp2_with fail
          go_loopw [7] (fun i w2 => ∃ k : Nat, k ≤ 64 ∧ i = .int .i64 k ∧ Drawn wu w2) (fun i _ => 64 - (intOf i).toNat)
          case atStart => exact ⟨0, by omega, rfl, 0, rfl⟩
          case round =>
            obtain ⟨j, hj, rfl, hd⟩ := hrel
            by_cases hj64 : j < 64
            · have c1 := (hd.cell _).trans (ho.cell j hj64)
              have t := has_in B j hj64
              generalize B.testBit j = x at *
              go_wp2_with fail
              go_quiet ((go_at_call 18; exact Calls.quiet_of_same ((has_any _ _ _ hB).mono fun _ _ q => ⟨q.1, q.2.symm⟩)))
              go_wp2
              go_roundw
              case rel => exact ⟨j + 1, by omega, by go_num, hd.more _⟩
              case measure => simp [intOf]; omega
            · have hbd := hbel.trans (hd.below.mono hbel.size)
              have TD := TW.below hd.below
              clear ho hbel TW hd hT
              go_wp2_with fail
              refine (bawake wr TD).mono ?_
              rintro e w3 ⟨rfl, B3⟩
              have B4 := hbd.trans (B3.mono hbd.size)
              clear B3 hbd TD
              go_wp2
              go_ret
              exact ⟨rfl, B4⟩
        · generalize wr = wu at *
          have TW := hT.below hbel
          go_wp2_with fail
          go_loopw [7] (fun i w2 => ∃ k : Nat, k ≤ 64 ∧ i = .int .i64 k ∧ Drawn wu w2) (fun i _ => 64 - (intOf i).toNat)
          case atStart => exact ⟨0, by omega, rfl, 0, rfl⟩
          case round =>
            obtain ⟨j, hj, rfl, hd⟩ := hrel
            by_cases hj64 : j < 64
            · have c1 := (hd.cell _).trans (ho.cell j hj64)
              have t := has_in B j hj64
              generalize B.testBit j = x at *
              go_wp2_with fail
              go_quiet ((go_at_call 18; exact Calls.quiet_of_same ((has_any _ _ _ hB).mono fun _ _ q => ⟨q.1, q.2.symm⟩)))
              go_wp2
              go_roundw
              case rel => exact ⟨j + 1, by omega, by go_num, hd.more _⟩
              case measure => simp [intOf]; omega
            · have hbd := hbel.trans (hd.below.mono hbel.size)
              have TD := TW.below hd.below
              clear ho hbel TW hd hT
              go_wp2_with fail
              refine (bawake wr TD).mono ?_
              rintro e w3 ⟨rfl, B3⟩
              have B4 := hbd.trans (B3.mono hbd.size)
              clear B3 hbd TD
              go_wp2
              go_ret
              exact ⟨rfl, B4⟩

set_option maxHeartbeats 4000000 in
theorem built_none (a : Option Addr) (cap : Nat) (w : World) (hT : Tab w) :
    Calls Tryd.prog 8 #[.slice a 0 cap] w fun e w' => e = .returned (.bool true) ∧ Below w.heap.size w w' := by
  go_enter Tryd.func8, Tryd.ntmps8
  go_wp2
  go_loopw [3, 5] (fun v i wr => ∃ B : Nat, B < 18446744073709551616 ∧ i = .int .i64 0 ∧ v = .int .u64 (B : Int) ∧ OnAt wr w.heap.size B ∧ Below w.heap.size w wr) (fun _ _ _ => 0)
  case atStart => exact ⟨0, by decide, rfl, rfl, OnAt.new w _ rfl, (Below.refl _ _).alloc (Nat.le_refl _) _⟩
  case round =>
      obtain ⟨B, hB, rfl, rfl, ho, hbel⟩ := hrel
      generalize wr = wu at *
      have TW := hT.below hbel
      go_wp2_with fail
      go_loopw [7] (fun i w2 => ∃ k : Nat, k ≤ 64 ∧ i = .int .i64 k ∧ Drawn wu w2) (fun i _ => 64 - (intOf i).toNat)
      case atStart => exact ⟨0, by omega, rfl, 0, rfl⟩
      case round =>
        obtain ⟨j, hj, rfl, hd⟩ := hrel
        by_cases hj64 : j < 64
        · have c1 := (hd.cell _).trans (ho.cell j hj64)
          have t := has_in B j hj64
          generalize B.testBit j = x at *
          go_wp2_with fail
          go_quiet ((go_at_call 18; exact Calls.quiet_of_same ((has_any _ _ _ hB).mono fun _ _ q => ⟨q.1, q.2.symm⟩)))
          go_wp2
          go_roundw
          case rel => exact ⟨j + 1, by omega, by go_num, hd.more _⟩
          case measure => simp [intOf]; omega
        · have hbd := hbel.trans (hd.below.mono hbel.size)
          have TD := TW.below hd.below
          clear ho hbel TW hd hT
          go_wp2_with fail
          refine (bawake wr TD).mono ?_
          rintro e w3 ⟨rfl, B3⟩
          have B4 := hbd.trans (B3.mono hbd.size)
          clear B3 hbd TD
          go_wp2
          go_ret
          exact ⟨rfl, B4⟩

set_option maxHeartbeats 400000 in
theorem walk (a0 : Option Addr) (len0 cap0 : Nat) (z0 : List Int) (w : World) (w0 : IsRow .i64 w a0 len0 cap0 z0) (hT : Tab w) :
    Calls Tryd.prog 8 #[.slice a0 len0 cap0] w fun e w' => e = .returned (.bool true) ∧ Below w.heap.size w w' := by
  rcases w0 with ⟨rfl, rfl, rfl, rfl⟩ | ⟨x, rfl, hl, hm, hz, hcell, hwz⟩
  · exact built_none _ _ w hT
  · unfold maxLen at hm
    obtain ⟨b, off, spot⟩ := x
    by_cases h0 : len0 = 0
    · subst h0
      exact built_none _ _ w hT
    · have hc := hcell 0 (by omega)
      have hspot : spot = none := by simpa [Addr.add] using World.cell?_spot hc
      subst hspot
      exact built b off len0 cap0 z0 w hT (by omega) (fun _ => World.block_lt_of_cell? w _ hc) (fun k hk => by have h := hcell k (by omega); by_cases e : k = 0 <;> simpa [Addr.add, e] using h)

/-! ### The step from the walk to the row -/
set_option maxRecDepth 100000 in
theorem lifted (os : Os) (started : os.Started) (H : Type) (enc : TypeId × Value → H) :
    ReturnsInHanded {} Tryd.checked os 8 .any (fun w args => (Rows.bitsBuiltSpec.pre enc Tryd.prog Tryd.f8 [] false w args ∧ laidMetH Tryd.prog listed w) ∧ sizedMet enc Tryd.prog Tryd.f8 (OpenSpec.ofChange Rows.bitsBuiltSpec) false w args)
      (Rows.bitsBuiltSpec.post enc Tryd.prog Tryd.f8 false true false false) := by
  refine returnsInHanded_of_change_and (C := Tryd.checked) (X := fun w _ => laidMetH Tryd.prog listed w) (fun _ _ _ hh h => h.of_heap hh) own started (by kernel_rfl) Tryd.func8
    (ChangeSpec.witness_shaped (enc := enc) (C := Tryd.checked) (os := os) (X := fun w _ => laidMetH Tryd.prog listed w) false (World.doorLaid Tryd.prog 14 os) #[.slice none 0 0] 8 rfl (World.shaped_of_RefB (by kernel_rfl) (by kernel_rfl)) (by kernel_rfl) (by kernel_rfl) (by kernel_rfl) (door_met os _)) ?_
  intro W base args ds gs before hval0 hW _ _ hL _
  have hval : ∀ (j : Nat) t v, Tryd.f8.params[j]? = some t → args[j]? = some v → Value.okWide Tryd.prog W .any base t v := hval0
  have hW' := hW
  obtain ⟨p, q, hA0, hV, rfl, hfz, hnd⟩ := hW
  have hA : DataW.TrodAll enc Tryd.prog W 0 (fun _ => true) true Tryd.f8.params.toList args.toList ds p := hA0
  rw [Tryd.params8] at hA hval
  obtain ⟨v0, vs0, d0, ds0, p0, q0, hargs, rfl, rfl, h0, r0⟩ := trodAll_cons hA
  obtain ⟨rfl, rfl, rfl⟩ := trodAll_nil r0
  obtain rfl : args = #[v0] := by cases args; simp_all
  obtain ⟨rfl, rfl⟩ := trodVars_none hV
  obtain ⟨a0, len0, cap0, rfl⟩ := okWide_slice Tryd.underlying23 (hval 0 23 v0 rfl rfl)
  have k0 := h0
  have lt0 : ∀ x ∈ p0, x.block < W.heap.size := by obtain ⟨m, hm⟩ := k0; exact DataW.trod_lt m _ _ _ hm
  obtain ⟨z0, w0⟩ : ∃ zs, IsRow .i64 W a0 len0 cap0 zs := by
    obtain ⟨fuel, hf⟩ := h0
    rcases open_ints Tryd.underlying23 Tryd.underlying3 (by kernel_rfl) hf with ⟨hcs, _⟩ | ⟨x, l, c, zs, hcs, _, hl, hm, hz, _, hcell, hwz⟩
    · simp [Value.cells] at hcs
      obtain ⟨rfl, rfl, rfl⟩ := hcs
      exact ⟨[], .inl ⟨rfl, rfl, rfl, rfl⟩⟩
    · simp [Value.cells] at hcs
      obtain ⟨rfl, rfl, rfl⟩ := hcs
      exact ⟨zs, .inr ⟨_, rfl, hl, hm, by simpa using hz, hcell, hwz⟩⟩
  clear hA0 hval0
  refine (walk a0 len0 cap0 z0 W w0 (tab_of_laid hL)).mono fun e W' ⟨he, bel⟩ => ?_
  subst he
  exact ⟨_, rfl, _, _, _, [], _, [], hW', trodAll_mk1 (shut_bool Tryd.underlying4 _), (trodAll_cons_mk (Below.trod laidOut (by kernel_rfl) (of_decide_eq_true (by kernel_rfl)) k0 bel lt0) trodAll_mk0), rfl, bel.frame _, fun h => by cases h⟩

theorem over : Rows.bitsBuiltRow.holds Tryd.pinned (OpenSpec.ofChange Rows.bitsBuiltSpec) :=
  OpenClaim.holds_of_wide 8 Tryd.f8 rfl rfl rfl rfl rfl rfl rfl ⟨rfl, rfl, rfl, rfl, rfl⟩ rfl rfl rfl rfl rfl (by kernel_rfl) Tryd.func8 (by kernel_rfl)
    (of_decide_eq_true (by kernel_rfl)) (by unfold Func.isWrapper; first | (rw [if_pos (by decide +kernel)]; kernel_rfl) | (rw [if_neg (by decide +kernel)]; exact ⟨rfl, rfl⟩))
    (fun os started H enc _ => lifted os started H enc)

/-- The statement: the card, its listed variable tied to the program's text. -/
theorem proved : Rows.BitsBuiltCardSaid :=
  Claim7.holds_tied_plain_at .later [] [.data] true (true, "de5af8861bb98512e16573bb17c796dd479fb90e4e21c4427c1c1d33e68551e7") false
    over (fun _ h => by cases h) (by kernel_rfl) (fun _ h => by cases h) bitsBuilt_row_tie rfl ⟨rfl, rfl⟩ (by kernel_rfl) rfl
    (fun f fn hf hfn => by
      obtain rfl : f = 8 := Option.some.inj ((show Tryd.prog.funcNamed "weighbridge/weighbridgelaw03.BitsBuilt" = some 8 by kernel_rfl).symm.trans hf) |>.symm
      obtain rfl : fn = Tryd.f8 := (Option.some.inj (Tryd.func8.symm.trans hfn)).symm
      exact ⟨by kernel_rfl, fun j t ht => by
        rw [Tryd.params8] at ht
        have hm : t ∈ [23] := by simpa using Array.mem_of_getElem? ht
        have hall : ([23].all fun u => !Tryd.prog.wantsStandIn u) = true := by kernel_rfl
        exact (show Tryd.prog.wantsStandIn t = false by simpa using List.all_eq_true.1 hall t hm)⟩)
    (by kernel_rfl)
#print axioms proved
end Go.Proofs.YtifglncofbkcpaaDoor.bitsBuilt
