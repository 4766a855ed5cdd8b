/-
  weighbridgelaw03.BitsWalk returns true for every input, and leaves its arguments as they were, where math/bits' table holds what the program's own text lays there (the card ties it). No other condition but that the arguments are values of their types.
-/
import Derived.Test.YtifglncofbkcpaaDoorRows
import Derived.Test.YtifglncofbkcpaaDoorTie
import Derived.Test.YtifglncofbkcpaaDoorCards
import Derived.Test.YtifglncofbkcpaaDoorBitsG
import Derived.ShutString
import Derived.ChangeOld
import Derived.Below
import Derived.SevenTiedAt
namespace Go.Proofs.YtifglncofbkcpaaDoor.bitsWalk
open Go.ChangeShapes Go.WideShapes Go.ChangeAt Go.RowKit
set_option linter.unusedVariables false

theorem last_at (b k : Nat) (hk : k ≤ 64) : (lastM b ((k : Int) - 1) = -1 ∧ fromOn b k = upTo b 64) ∨ ∃ m : Nat, m < k ∧ lastM b ((k : Int) - 1) = (m : Int) ∧ fromOn b m = m :: fromOn b k := by
  rcases lastM_cases b ((k : Int) - 1) with ⟨e, h⟩ | ⟨m, hm, e, hb, hf, h⟩
  · refine .inl ⟨e, ?_⟩
    rw [← fromOn_all]
    exact (fromOn_skip b k hk k 0 (by omega) fun j _ h2 => h j (by omega) (by omega)).symm
  · exact .inr ⟨m, by omega, e, fromOn_last b m k hk (by omega) hb fun j h1 h2 => h j h1 (by omega) (by omega)⟩
def back (z : Int) : Nat := (z + 1).toNat
theorem back_last (b m : Nat) : back (lastM b ((m : Int) - 1)) < back (m : Int) := by
  have h : lastM b ((m : Int) - 1) ≤ (m : Int) - 1 ∨ lastM b ((m : Int) - 1) = -1 := by
    rcases lastM_cases b ((m : Int) - 1) with ⟨e, _⟩ | ⟨q, _, e, _, hq, _⟩
    · exact .inr e
    · exact .inl (by rw [e]; exact hq)
  generalize lastM b ((m : Int) - 1) = z at *
  unfold back
  omega
theorem Owns.cons {w1 : World} {base : Nat} {v' : Value} {l : List Nat} {x : Nat} (h' : w1.ownsRow base 3 1 v' (1 + l.length) ([.int .i64 (x : Int)] ++ l.map (fun n : Nat => Value.int .i64 n))) : Owns w1 base v' (x :: l) := by
  unfold Owns
  rw [Nat.add_comm] at h'
  simpa using h'
set_option maxHeartbeats 4000000 in
theorem walk (a0 : Int) (w : World) (w0 : (Lit.int .u64 a0).wf = true) (hT : Tab w) :
    Calls Tryd.prog 7 #[.int .u64 a0] w fun e w' => e = .returned (.bool true) ∧ Below w.heap.size w w' := by
  obtain ⟨b0, c0⟩ := bounds_u64 w0
  obtain ⟨b, rfl⟩ := Int.eq_ofNat_of_zero_le b0
  have hb : b < 18446744073709551616 := by omega
  clear w0 b0 c0
  obtain ⟨i0, hi, hz0, hz1, hz2⟩ := info_parts info_int
  have hl64 := upTo_len b 64
  go_enter Tryd.func7, Tryd.ntmps7
  go_wp2_with fail
  refine (next_any b 0 w hb hT).mono ?_
  rintro e w' ⟨rfl, rfl⟩
  go_wp2_with fail
  go_loopw [3, 5] (fun v i wr => ∃ k : Nat, k ≤ 64 ∧ i = .int .i64 (nextM b k) ∧ Owns wr w.heap.size v (upTo b k) ∧ Below w.heap.size w wr) (fun _ i _ => gap (intOf i))
  case atStart => exact ⟨0, by omega, rfl, World.ownsRow_nil _ _ _ _, Below.refl _ _⟩
  case round =>
    obtain ⟨k, hk, rfl, ho, hbel⟩ := hrel
    obtain ⟨a, cap, rfl, hcells⟩ := own_shape ho
    have hl := upTo_len b k
    have hsz := hbel.size
    rcases next_at b k hk with ⟨e, hu⟩ | ⟨m, hkm, hm, e, hu⟩
    · rw [e]
      rw [← hu] at hcells ⊢
      clear e hu hl ho
      have TW := hT.below hbel
      go_wp2_with fail
      refine (last_any b 63 wr hb (by omega)).mono ?_
      rintro e w' ⟨rfl, rfl⟩
      generalize wr = wu at *
      go_wp2_with fail
      go_loopw [4, 6] (fun v i w2 => ∃ k : Nat, k ≤ 64 ∧ i = .int .i64 (lastM b ((k : Int) - 1)) ∧ Owns w2 wu.heap.size v (fromOn b k) ∧ Below wu.heap.size wu w2) (fun _ i _ => back (intOf i))
      case atStart => exact ⟨64, by omega, rfl, World.ownsRow_nil _ _ _ _, Below.refl _ _⟩
      case round =>
        obtain ⟨k2, hk2, rfl, ho2, hbel2⟩ := hrel
        have hl2 := fromOn_len b k2
        have hsz2 := hbel2.size
        rcases last_at b k2 hk2 with ⟨e, hu⟩ | ⟨m, hkm, e, hu⟩
        · rw [e]
          obtain ⟨a2, cap2, rfl, hc2⟩ := own_shape ho2
          rw [hu] at hc2 ⊢
          clear e hu hl2 ho2
          have T2 := TW.below hbel2
          have hc1 := hcells.below hbel2
          have B2 := hbel.trans (hbel2.mono hbel.size)
          clear hbel hbel2 TW hcells hT
          go_wp2_with fail
          refine (bawake wr T2).mono ?_
          rintro e w3 ⟨rfl, B3⟩
          have T3 := T2.below B3
          have d1 := hc1.below B3
          have d2 := hc2.below B3
          have B4 := B2.trans (B3.mono B2.size)
          clear T2 hc1 hc2 B2 B3
          go_wp2_with fail
          refine (all_any b w3 hb T3).mono ?_
          rintro e w4 ⟨a4, cap4, rfl, h4, B5⟩
          have f1 := d1.below B5
          have f2 := d2.below B5
          have B6 := B4.trans (B5.mono B4.size)
          clear T3 d1 d2 B4 B5
          go_wp2_with fail
          refine (plain_any a a4 cap cap4 (upTo b 64) w4 hl64 f1 h4).mono ?_
          rintro e w5 ⟨rfl, B7⟩
          have g1 := f1.below B7
          have g2 := f2.below B7
          have B8 := B6.trans (B7.mono B6.size)
          clear f1 f2 h4 B6 B7
          go_wp2_with fail
          refine (plain_any a2 a cap2 cap (upTo b 64) w5 hl64 g2 g1).mono ?_
          rintro e w6 ⟨rfl, B9⟩
          have B10 := B8.trans (B9.mono B8.size)
          clear g1 g2 B8 B9
          go_wp2
          go_ret
          exact ⟨by simp, B10⟩
        · rw [e]
          have HU := Lib.hid hu
          clear hu e
          have hm64 : m < 64 := by omega
          have hlit : (wr.alloc (.cells #[.int .i64 (m : Int)] 3)).ownsRow wu.heap.size 3 1 (.slice (some ⟨wr.heap.size, 0, none⟩) 1 1) 1 [.int .i64 (m : Int)] := World.ownsRow_lit wr #[.int .i64 (m : Int)] 1 hsz2 (by decide) rfl
          have hBa := hbel2.alloc hsz2 (.cells #[.int .i64 (m : Int)] 3)
          rcases ho2.2 with ⟨rfl, hn0⟩ | ⟨g, cap2, cur, rfl, hbg, hh, _⟩
          · have hnil : fromOn b k2 = [] := List.eq_nil_of_length_eq_zero hn0
            rw [hnil] at HU
            clear hnil hn0 hl2 ho2 hbel2
            go_wp2_with (at_builtin; refine wpList_append_own_none rfl _ _ 23 rfl wu.heap.size 3 i0 1 Tryd.underlying23 hi _ 1 _ rfl hlit rfl ?_)
            go_wp2_with (go_at_call 20; refine (last_any _ _ _ hb (by omega)).mono ?_; rintro e w' ⟨rfl, rfl⟩)
            go_roundw
            case rel => exact ⟨m, by omega, rfl, by rw [HU.out]; exact hlit, hBa⟩
            case measure => exact back_last b m
          · have hsrc := (ho2.alloc (.cells #[.int .i64 (m : Int)] 3)).cells (g := g) rfl
            clear hh ho2 hbel2
            go_wp2_with (at_builtin; refine wpList_append_own _ rfl _ _ 23 rfl wu.heap.size 3 i0 (.int .i64 0) 1 8 Tryd.underlying23 hi hz0 hz1 hz2 rfl (by decide) _ 1 _ rfl hlit ⟨g, 0, none⟩ (fromOn b k2).length cap2 ((fromOn b k2).map fun n : Nat => Value.int .i64 n) rfl ?d1 ?d2 ?d3 ?d4 ?d5 ?d6 ?_)
            case d1 => simp
            case d2 => exact hsrc
            case d3 => intro u hu; obtain ⟨x, _, rfl⟩ := List.mem_map.1 hu; rfl
            case d4 => unfold maxLen; omega
            case d5 => omega
            case d6 => simp; omega
            · intro v' w1 hown' hgrow _
              have R := Owns.cons hown'
              have B : Below wu.heap.size wu w1 := hBa.grown hgrow (by simp; omega) (fun g' e' => by simp [Value.ownBlock] at e'; omega)
              rw [← HU.out] at R
              clear hown' hgrow HU hlit hBa hsrc
              go_wp2_with (go_at_call 20; refine (last_any _ _ _ hb (by omega)).mono ?_; rintro e w' ⟨rfl, rfl⟩)
              go_roundw
              case rel => exact ⟨m, by omega, rfl, R, B⟩
              case measure => exact back_last b m
    · rw [e]
      have HU := Lib.hid hu
      clear hu e hcells
      go_wp2_with (at_builtin; refine wpList_append_own _ rfl _ _ 23 rfl w.heap.size 3 i0 (.int .i64 0) 1 8 Tryd.underlying23 hi hz0 hz1 hz2 rfl (by decide) _ _ _ rfl (ho.alloc _) ⟨wr.heap.size, 0, none⟩ 1 1 [.int .i64 (m : Int)] rfl rfl ?c1 ?c2 ?c3 ?c4 ?c5 ?_)
      case c1 =>
        intro j u hj
        match j, hj with
        | 0, hj => simp at hj; subst hj; simp [Addr.add]
      case c2 => intro u hu; simp at hu; subst hu; rfl
      case c3 => unfold maxLen; omega
      case c4 => omega
      case c5 => simp; omega
      · intro v' w1 hown' hgrow _
        have R := Owns.snoc hown'
        have B := below_snoc hbel hsz ho hgrow
        rw [← HU.out] at R
        clear hown' hgrow ho hbel HU
        go_wp2_with (go_at_call 19; refine (next_any _ _ _ hb (hT.below B)).mono ?_; rintro e w' ⟨rfl, rfl⟩)
        go_roundw
        case rel => exact ⟨m + 1, by omega, by rw [Int.natCast_add]; rfl, R, B⟩
        case measure => exact gap_next b m hm

/-! ### The step from the walk to the row -/
set_option maxRecDepth 100000 in
theorem lifted (os : Os) (started : os.Started) (H : Type) (enc : TypeId × Value → H) :
    ReturnsInHanded {} Tryd.checked os 7 .any (fun w args => (Rows.bitsWalkSpec.pre enc Tryd.prog Tryd.f7 [] false w args ∧ laidMetH Tryd.prog listed w) ∧ sizedMet enc Tryd.prog Tryd.f7 (OpenSpec.ofChange Rows.bitsWalkSpec) false w args)
      (Rows.bitsWalkSpec.post enc Tryd.prog Tryd.f7 false true false false) := by
  refine returnsInHanded_of_change_and (C := Tryd.checked) (X := fun w _ => laidMetH Tryd.prog listed w) (fun _ _ _ hh h => h.of_heap hh) own started (by kernel_rfl) Tryd.func7
    (ChangeSpec.witness_shaped (enc := enc) (C := Tryd.checked) (os := os) (X := fun w _ => laidMetH Tryd.prog listed w) false (World.doorLaid Tryd.prog 14 os) #[.int .u64 0] 8 rfl (World.shaped_of_RefB (by kernel_rfl) (by kernel_rfl)) (by kernel_rfl) (by kernel_rfl) (by kernel_rfl) (door_met os _)) ?_
  intro W base args ds gs before hval0 hW _ _ hL _
  have hval : ∀ (j : Nat) t v, Tryd.f7.params[j]? = some t → args[j]? = some v → Value.okWide Tryd.prog W .any base t v := hval0
  have hW' := hW
  obtain ⟨p, q, hA0, hV, rfl, hfz, hnd⟩ := hW
  have hA : DataW.TrodAll enc Tryd.prog W 0 (fun _ => true) true Tryd.f7.params.toList args.toList ds p := hA0
  rw [Tryd.params7] at hA hval
  obtain ⟨v0, vs0, d0, ds0, p0, q0, hargs, rfl, rfl, h0, r0⟩ := trodAll_cons hA
  obtain ⟨rfl, rfl, rfl⟩ := trodAll_nil r0
  obtain rfl : args = #[v0] := by cases args; simp_all
  obtain ⟨rfl, rfl⟩ := trodVars_none hV
  obtain ⟨a0, rfl, rfl, rfl, w0⟩ := open_int Tryd.underlying22 (hval 0 22 v0 rfl rfl) h0
  clear hA0 hval0
  refine (walk a0 W w0 (tab_of_laid hL)).mono fun e W' ⟨he, bel⟩ => ?_
  subst he
  exact ⟨_, rfl, _, _, _, [], _, [], hW', trodAll_mk1 (shut_bool Tryd.underlying4 _), (trodAll_cons_mk (shut_int Tryd.underlying22 w0) trodAll_mk0), rfl, bel.frame _, fun h => by cases h⟩

theorem over : Rows.bitsWalkRow.holds Tryd.pinned (OpenSpec.ofChange Rows.bitsWalkSpec) :=
  OpenClaim.holds_of_wide 7 Tryd.f7 rfl rfl rfl rfl rfl rfl rfl ⟨rfl, rfl, rfl, rfl, rfl⟩ rfl rfl rfl rfl rfl (by kernel_rfl) Tryd.func7 (by kernel_rfl)
    (of_decide_eq_true (by kernel_rfl)) (by unfold Func.isWrapper; first | (rw [if_pos (by decide +kernel)]; kernel_rfl) | (rw [if_neg (by decide +kernel)]; exact ⟨rfl, rfl⟩))
    (fun os started H enc _ => lifted os started H enc)

/-- The statement: the card, its listed variable tied to the program's text. -/
theorem proved : Rows.BitsWalkCardSaid :=
  Claim7.holds_tied_plain_at .later [] [.data] true (true, "de5af8861bb98512e16573bb17c796dd479fb90e4e21c4427c1c1d33e68551e7") false
    over (fun _ h => by cases h) (by kernel_rfl) (fun _ h => by cases h) bitsWalk_row_tie rfl ⟨rfl, rfl⟩ (by kernel_rfl) rfl
    (fun f fn hf hfn => by
      obtain rfl : f = 7 := Option.some.inj ((show Tryd.prog.funcNamed "weighbridge/weighbridgelaw03.BitsWalk" = some 7 by kernel_rfl).symm.trans hf) |>.symm
      obtain rfl : fn = Tryd.f7 := (Option.some.inj (Tryd.func7.symm.trans hfn)).symm
      exact ⟨by kernel_rfl, fun j t ht => by
        rw [Tryd.params7] at ht
        have hm : t ∈ [22] := by simpa using Array.mem_of_getElem? ht
        have hall : ([22].all fun u => !Tryd.prog.wantsStandIn u) = true := by kernel_rfl
        exact (show Tryd.prog.wantsStandIn t = false by simpa using List.all_eq_true.1 hall t hm)⟩)
    (by kernel_rfl)
#print axioms proved
end Go.Proofs.YtifglncofbkcpaaDoor.bitsWalk
