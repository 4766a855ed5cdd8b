/-
  weighbridgelaw06.ShardDrains returns true for every input, and leaves its arguments as they were, where math/bits' table holds what the program's own text lays there (the card ties it). No other condition but that the arguments are values of their types.
-/
import Derived.Test.YtfgffgicfieieaaGreatDoorRows
import Derived.Test.YtfgffgicfieieaaGreatDoorTie
import Derived.Test.YtfgffgicfieieaaGreatDoorCards
import Derived.Test.YtfgffgicfieieaaGreatDoorShardT4
import Derived.ShutString
import Derived.ChangeOld
import Derived.Below
import Derived.SevenTiedAt
namespace Go.Proofs.YtfgffgicfieieaaGreatDoor.shardDrains
open Go.ChangeShapes Go.WideShapes Go.ChangeAt Go.RowKit
set_option linter.unusedVariables false

theorem wrap_pred {p m : Nat} (h : p = m + 1) (hp : p ≤ 1000) : IntKind.i64.wrap ((p : Int) - 1) = (m : Int) := by
  rw [IntKind.wrap_i64]
  omega
set_option maxRecDepth 100000 in
set_option maxHeartbeats 8000000 in
theorem walk (a0 : Int) (a1 : Option Addr) (len1 cap1 : Nat) (z1 : Nat → Dd) (w : World) (w0 : (Lit.int .i64 a0).wf = true) (w1 : InDeeds w a1 len1 z1) (hT : Tab w) :
    Calls Tryz.prog 4 #[.int .i64 a0, .slice a1 len1 cap1] w fun e w' => e = .returned (.bool true) ∧ Below w.heap.size w w' := by
  have W1 := Lib.hid w1
  have HT := Lib.hid hT
  obtain ⟨mf, qf, PL⟩ := plays_are
  have PL := Lib.hid PL
  clear w1 hT
  go_enter Tryz.func4, Tryz.ntmps4
  go_wp2_with fail
  refine (made_sound a0 _).mono ?_
  rintro e v1 ⟨wb, S1, xb, T1, wd, rfl, h1⟩
  have aw := sAwake v1 (h1.tab HT.out).1
  have H1 := Lib.hid h1
  clear h1
  go_wp2_with fail
  refine aw.mono ?_
  rintro e v2 ⟨rfl, o2⟩
  have H2 := Lib.hid (H1.out.only0 o2)
  clear H1 o2 aw
  go_wp2_with fail
  go_loopg [7] (len1 + 1) (fun gk si wr => ∃ (p : Nat) (S T : List Nat) (base : Int) (l : List It), si = .int .i64 (p : Int) ∧ p ≤ len1 ∧ p ≤ 60 ∧ len1 + 1 ≤ gk + p ∧ l.length ≤ p ∧ Hid (Sound w wr wb S xb T wd base l))
  case atStart => exact ⟨0, S1, T1, 0, [], rfl, by omega, by omega, by omega, by simp, H2⟩
  case round =>
    obtain ⟨p, S, T, base, l, rfl, hp, hp80, hg, hlp, hS⟩ := hrel
    clear H2
    by_cases hc : p < len1 ∧ p < 60
    · have c1 : (p : Int) < (len1 : Int) := by omega
      have c2 : (p : Int) < 60 := by omega
      obtain ⟨hdok, ad, b, o, s, rfl, hadd, hbw, q0, q1, q2⟩ := W1.out p hc.1
      obtain ⟨d, ed⟩ : ∃ d, z1 p = d := ⟨_, rfl⟩
      rw [ed] at q0 q1 q2 hdok
      have r0 := hS.out.only.stay q0
      have r1 := hS.out.only.stay q1
      have r2 := hS.out.only.stay q2
      have hst := hS.out.step HT.out (by omega) d hdok PL.out wr (Only.refl [] wr)
      have hl2 : (stepM mf qf d base l).2.length ≤ l.length + 1 := stepTo_len _ _ _ _ _ _
      generalize (stepM mf qf d base l).1 = base2 at *
      generalize (stepM mf qf d base l).2 = l2 at *
      clear q0 q1 q2 ed hbw hc
      go_wp2_with fail
      refine hst.mono ?_
      rintro e u1 ⟨rfl, S2, T2, hs2⟩
      have HS2 := Lib.hid hs2
      clear hs2 hst
      go_wp2_with fail
      go_roundg (len1 + 1 - (p + 1))
      case measure => omega
      case rel => exact ⟨p + 1, S2, T2, base2, l2, by simp, by omega, by omega, by omega, by omega, HS2⟩
    · have hal := Lib.hid (hS.out.all HT.out wr (Only.refl [] wr))
      have hcd : (decide ((p : Int) < (len1 : Int)) = false ∧ ¬ ((p : Int) < (len1 : Int))) ∨ ((p : Int) < (len1 : Int) ∧ decide ((p : Int) < 60) = false) := by
        have hce : ¬ p < len1 ∨ (p < len1 ∧ ¬ p < 60) := by omega
        rcases hce with h9 | h9
        · exact .inl ⟨decide_eq_false (by omega), by omega⟩
        · exact .inr ⟨by omega, decide_eq_false (by omega)⟩
      clear hc hp
      rcases hcd with ⟨c1, c2⟩ | ⟨c1, c2⟩
      all_goals
        go_wp2_with fail
        refine hal.out.mono ?_
        rintro e u1 ⟨A2, cap2, rfl, r2, v2, o2⟩
        have HD := Lib.hid (hS.out.drain o2 r2 v2)
        clear r2 v2 o2 hal
        go_wp2_with fail
        go_loopg [9] (l.length + 1) (fun gk si wr => ∃ (p2 : Nat) (S2 : List Nat) (b2 : Int), si = .int .i64 (p2 : Int) ∧ p2 ≤ l.length ∧ l.length + 1 ≤ gk + p2 ∧ Hid (Drain w wr wb S2 xb T wd b2 base (l.drop p2) l (.slice A2 l.length cap2)))
        case atStart => exact ⟨0, S, base, rfl, by omega, by omega, HD⟩
        case round =>
          obtain ⟨p2, S2, b2, rfl, hp2, hg2, hD⟩ := hrel
          clear HD
          by_cases hq : p2 < l.length
          · have c3 : (p2 : Int) < (l.length : Int) := by omega
            have hpo := hD.out.pop HT.out
            have hrl := hS.out.pair.ours.sits.rises
            have hil := hS.out.pair.ours.sits.ids
            have hhas : hasId (gOf l p2).i (l.drop (p2 + 1)) = false := by
              refine (hasId_not _ _).2 fun y hy e => ?_
              have h9 : Ids (l.drop p2) := hil.sub (List.drop_sublist _ _)
              rw [drop_cons hq] at h9
              unfold Ids at h9
              rw [List.map_cons, List.nodup_cons] at h9
              exact h9.1 (List.mem_map.2 ⟨y, hy, e⟩)
            have hiok : i64ok (gOf l p2).i := (hS.out.pair.ours.sits.fit _ (by rw [gOf_get hq]; exact List.getElem_mem _)).2
            have hah : ∀ m, p2 = m + 1 → (gOf l m).lt (gOf l p2) = true := fun m e => rises_lt hrl (by omega) hq
            rw [drop_cons hq] at hpo
            have e9 : first (gOf l p2 :: l.drop (p2 + 1)) = gOf l p2 := rfl
            rw [e9] at hpo
            simp only [List.isEmpty_cons, Bool.not_false, Bool.false_eq_true, if_false, List.tail_cons] at hpo
            obtain ⟨x, ex⟩ : ∃ x, gOf l p2 = x := ⟨_, rfl⟩
            rw [ex] at hpo hhas hah hiok
            have EX := Lib.hid ex
            have HAH := Lib.hid hah
            have HID := Lib.hid hiok
            have HHAS := Lib.hid hhas
            clear hrl hil e9 ex hah hiok hhas
            go_wp2_with fail
            refine hpo.mono ?_
            rintro e u2 ⟨rfl, S3, h3⟩
            have oN : Only [] u2 (u2.alloc (.cells #[.int .u64 x.k, .int .i64 x.i] 41)) := (Only.refl [] u2).alloc _
            have bX : Box (u2.alloc (.cells #[.int .u64 x.k, .int .i64 x.i] 41)) u2.heap.size x := Box.new u2 x
            have D3 := Lib.hid (h3.only0 oN)
            obtain ⟨A9, cap9, ev, hcells⟩ := D3.out.at_
            injection ev with ev1 ev2 ev3
            subst ev1
            subst ev3
            obtain ⟨g, rfl, k0, k1, hcap⟩ := hcells p2 hq
            rw [EX.out] at k0 k1
            have x0 := bX.c0
            have x1 := bX.c1
            have hbas : Hid (∀ W, Only [] (u2.alloc (.cells #[.int .u64 x.k, .int .i64 x.i] 41)) W → Calls Tryz.prog 10 #[.pointer (some ⟨wb, 0, none⟩)] W fun e w' => e = .returned (.int .u64 x.k) ∧ w' = W) := fun W o => sBaseOf W wb S3 wd x.k _ (D3.out.ours.only0 o)
            have hha : Hid (∀ W, Only [] (u2.alloc (.cells #[.int .u64 x.k, .int .i64 x.i] 41)) W → Calls Tryz.prog 18 #[.pointer (some ⟨wb, 0, none⟩), .int .i64 x.i] W fun e w' => e = .returned (.bool false) ∧ w' = W) := fun W o => by
              have := sHasOf W wb S3 wd x.k _ (D3.out.ours.only0 o) x.i HID.out
              rw [HHAS.out] at this
              exact this
            have he := item_neq x x
            have hgi := item_guard
            simp only [decide_true, Bool.not_true] at he
            have HC := Lib.hid hcells
            obtain ⟨U, eU⟩ : ∃ U, u2.alloc (.cells #[.int .u64 x.k, .int .i64 x.i] 41) = U := ⟨_, rfl⟩
            obtain ⟨B, eB⟩ : ∃ B, u2.heap.size = B := ⟨_, rfl⟩
            rw [eU] at D3 hbas hha HC k0 k1 x0 x1
            rw [eB] at x0 x1
            clear h3 oN bX hpo hcells
            by_cases h0 : p2 = 0
            · subst h0
              go_wp2_with fail
              (try simp only [eU, eB])
              clear eU eB
              go_quiet (first | (go_at_call 10; exact Calls.quiet_of_same (hbas.out _ ((Only.refl [] U).drewN _))) | (go_at_call 18; exact Calls.quiet_of_same (hha.out _ ((Only.refl [] U).drewN _))))
              have D5 := Lib.hid (D3.out.only0 ((Only.refl [] U).drewN nq))
              generalize U.drewN nq = U5 at *
              go_wp2_with fail
              go_roundg (l.length + 1 - (0 + 1))
              case measure => omega
              case rel => exact ⟨0 + 1, S3, x.k, by simp, by omega, by omega, D5⟩
            · obtain ⟨m, hm⟩ : ∃ m, p2 = m + 1 := ⟨p2 - 1, by omega⟩
              obtain ⟨y, ey⟩ : ∃ y, gOf l m = y := ⟨_, rfl⟩
              obtain ⟨g', eg, k2, k3, -⟩ := HC.out m (by omega)
              injection eg with eg
              injection eg with eg
              subst eg
              rw [ey] at k2 k3
              have hlt := HAH.out m hm
              rw [ey] at hlt
              have hra : Hid (∀ W, Calls Tryz.prog 17 #[.agg #[.int .u64 y.k, .int .i64 y.i], .agg #[.int .u64 x.k, .int .i64 x.i]] W fun e w' => e = .returned (.bool true) ∧ Only [] W w') := fun W => by
                have := rahead_only y x W
                rw [hlt] at this
                exact this
              have hm0 : (m : Int) < (l.length : Int) := by omega
              have hm1 : (0 : Int) < (p2 : Int) := by omega
              have hm2 : decide ((0 : Int) < (p2 : Int)) = true := decide_eq_true hm1
              have hm3 : 0 < p2 := by omega
              have hm4 : decide (0 < p2) = true := decide_eq_true hm3
              have hwm : IntKind.i64.wrap ((p2 : Int) - 1) = (m : Int) := wrap_pred hm (by omega)
              clear ey hlt HC h0 hm
              go_wp2_with fail
              (try simp only [eU, eB])
              clear eU eB
              go_region_held3 (fun w' => w'.cell? ⟨B, 0, none⟩ = some (.int .u64 x.k) ∧ w'.cell? ⟨B, 1, none⟩ = some (.int .i64 x.i) ∧ w'.cell? ⟨g, p2 * 2, none⟩ = some (.int .u64 x.k) ∧ w'.cell? ⟨g, p2 * 2 + 1, none⟩ = some (.int .i64 x.i) ∧ w'.cell? ⟨g, m * 2, none⟩ = some (.int .u64 y.k) ∧ w'.cell? ⟨g, m * 2 + 1, none⟩ = some (.int .i64 y.i))
                (first | go_keep | (exact ⟨x0, x1, k0, k1, k2, k3⟩) | (exact ⟨o5.stay x0, o5.stay x1, o5.stay k0, o5.stay k1, o5.stay k2, o5.stay k3⟩))
                (first
                  | (go_at_call 17; refine (hra.out _).mono ?_; rintro e u5 ⟨rfl, o4⟩; have o5 : Only [] U u5 := (Only.refl [] U).drew.trans' o4)
                  | (go_at_call 10; refine (hbas.out _ o5).mono ?_; rintro e w' ⟨rfl, rfl⟩)
                  | (go_at_call 18; refine (hha.out _ o5).mono ?_; rintro e w' ⟨rfl, rfl⟩))
              all_goals
                have D5 := Lib.hid (D3.out.only0 o5)
                go_wp2_with fail
                go_roundg (l.length + 1 - (p2 + 1))
                case measure => omega
                case rel => exact ⟨p2 + 1, S3, x.k, by simp, by omega, by omega, D5⟩
          · have hqe : p2 = l.length := by omega
            subst hqe
            have c3 : ¬ ((l.length : Int) < (l.length : Int)) := by omega
            have hdr : l.drop l.length = [] := List.drop_length
            rw [hdr] at hD
            have hpo := hD.out.pop HT.out
            have e9 : first [] = ⟨0, 0⟩ := rfl
            rw [e9] at hpo
            simp only [List.isEmpty_nil, Bool.not_true, if_true, List.tail_nil] at hpo
            clear hdr e9
            go_wp2_with fail
            refine hpo.mono ?_
            rintro e u2 ⟨rfl, S3, h3⟩
            have D3 := Lib.hid (h3.only0 ((Only.refl [] u2).alloc (.cells #[.int .u64 0, .int .i64 0] 41)))
            obtain ⟨Ax, capx, x0⟩ := D3.out.len
            have hov := sOver _ wb S3 wd _ [] D3.out.ours
            have hle := sLenOf _ wb S3 wd _ [] D3.out.ours
            have ef : (fars wd b2 []).length = 0 := rfl
            rw [ef] at hov
            have el : ([] : List It).length = 0 := rfl
            rw [el] at hle
            clear h3 hpo ef el
            go_wp2_with fail
            refine hov.mono ?_
            rintro e u4 ⟨rfl, rfl⟩
            go_wp2_with fail
            refine hle.mono ?_
            rintro e u5 ⟨rfl, o5⟩
            have O5 := Lib.hid (D3.out.only.trans' o5)
            clear o5 hov hle D3
            go_wp2_with fail
            go_ret
            exact ⟨by simp, O5.out.below (Nat.le_refl _) (by simp)⟩

/-! ### The step from the walk to the row -/
set_option maxRecDepth 100000 in
theorem lifted (os : Os) (started : os.Started) (H : Type) (enc : TypeId × Value → H) :
    ReturnsInHanded {} Tryz.checked os 4 .any (fun w args => (Rows.shardDrainsSpec.pre enc Tryz.prog Tryz.f4 [] false w args ∧ laidMetH Tryz.prog listed w) ∧ sizedMet enc Tryz.prog Tryz.f4 (OpenSpec.ofChange Rows.shardDrainsSpec) false w args)
      (Rows.shardDrainsSpec.post enc Tryz.prog Tryz.f4 false true false false) := by
  refine returnsInHanded_of_change_and (C := Tryz.checked) (X := fun w _ => laidMetH Tryz.prog listed w) (fun _ _ _ hh h => h.of_heap hh) own started (by kernel_rfl) Tryz.func4
    (ChangeSpec.witness_shaped (enc := enc) (C := Tryz.checked) (os := os) (X := fun w _ => laidMetH Tryz.prog listed w) false (World.doorLaid Tryz.prog 14 os) #[.int .i64 0, .slice none 0 0] 8 rfl (World.shaped_of_RefB (by kernel_rfl) (by kernel_rfl)) (by kernel_rfl) (by kernel_rfl) (by kernel_rfl) (door_met os _)) ?_
  intro W base args ds gs before hval0 hW _ _ hL _
  have hval : ∀ (j : Nat) t v, Tryz.f4.params[j]? = some t → args[j]? = some v → Value.okWide Tryz.prog W .any base t v := hval0
  have hW' := hW
  obtain ⟨p, q, hA0, hV, rfl, hfz, hnd⟩ := hW
  have hA : DataW.TrodAll enc Tryz.prog W 0 (fun _ => true) true Tryz.f4.params.toList args.toList ds p := hA0
  rw [Tryz.params4] at hA hval
  obtain ⟨v0, vs0, d0, ds0, p0, q0, hargs, rfl, rfl, h0, r0⟩ := trodAll_cons hA
  obtain ⟨v1, vs1, d1, ds1, p1, q1, rfl, rfl, rfl, h1, r1⟩ := trodAll_cons r0
  obtain ⟨rfl, rfl, rfl⟩ := trodAll_nil r1
  obtain rfl : args = #[v0, v1] := by cases args; simp_all
  obtain ⟨rfl, rfl⟩ := trodVars_none hV
  obtain ⟨a0, rfl, rfl, rfl, w0⟩ := open_int Tryz.underlying3 (hval 0 3 v0 rfl rfl) h0
  obtain ⟨a1, len1, cap1, rfl⟩ := okWide_slice Tryz.underlying22 (hval 1 22 v1 rfl rfl)
  have k1 := h1
  have lt1 : ∀ x ∈ p1, x.block < W.heap.size := by obtain ⟨m, hm⟩ := k1; exact DataW.trod_lt m _ _ _ hm
  obtain ⟨z1, w1⟩ : ∃ z, InDeeds W a1 len1 z := by
    obtain ⟨fuel, hf⟩ := h1
    exact open_deeds hf
  clear hA0 hval0
  refine (walk a0 a1 len1 cap1 z1 W w0 w1 (tab_of_laid hL)).mono fun e W' ⟨he, bel⟩ => ?_
  subst he
  exact ⟨_, rfl, _, _, _, [], _, [], hW', trodAll_mk1 (shut_bool Tryz.underlying4 _), (trodAll_cons_mk (shut_int Tryz.underlying3 w0) (trodAll_cons_mk (Below.trod laidOut (by kernel_rfl) (of_decide_eq_true (by kernel_rfl)) k1 bel lt1) trodAll_mk0)), rfl, bel.frame _, fun h => by cases h⟩

theorem over : Rows.shardDrainsRow.holds Tryz.pinned (OpenSpec.ofChange Rows.shardDrainsSpec) :=
  OpenClaim.holds_of_wide 4 Tryz.f4 rfl rfl rfl rfl rfl rfl rfl ⟨rfl, rfl, rfl, rfl, rfl⟩ rfl rfl rfl rfl rfl (by kernel_rfl) Tryz.func4 (by kernel_rfl)
    (of_decide_eq_true (by kernel_rfl)) (by unfold Func.isWrapper; first | (rw [if_pos (by decide +kernel)]; kernel_rfl) | (rw [if_neg (by decide +kernel)]; exact ⟨rfl, rfl⟩))
    (fun os started H enc _ => lifted os started H enc)

/-- The statement: the card, its listed variable tied to the program's text. -/
theorem proved : Rows.ShardDrainsCardSaid :=
  Claim7.holds_tied_plain_at .later [] [.data] true (true, "54366cd7a8cab88fcfb17f69fae1922cb218978da292337e226842dc674c99a2") false
    over (fun _ h => by cases h) (by kernel_rfl) (fun _ h => by cases h) shardDrains_row_tie rfl ⟨rfl, rfl⟩ (by kernel_rfl) rfl
    (fun f fn hf hfn => by
      obtain rfl : f = 4 := Option.some.inj ((show Tryz.prog.funcNamed "weighbridge/weighbridgelaw06.ShardDrains" = some 4 by kernel_rfl).symm.trans hf) |>.symm
      obtain rfl : fn = Tryz.f4 := (Option.some.inj (Tryz.func4.symm.trans hfn)).symm
      exact ⟨by kernel_rfl, fun j t ht => by
        rw [Tryz.params4] at ht
        have hm : t ∈ [3, 22] := by simpa using Array.mem_of_getElem? ht
        have hall : ([3, 22].all fun u => !Tryz.prog.wantsStandIn u) = true := by kernel_rfl
        exact (show Tryz.prog.wantsStandIn t = false by simpa using List.all_eq_true.1 hall t hm)⟩)
    (by kernel_rfl)
#print axioms proved
end Go.Proofs.YtfgffgicfieieaaGreatDoor.shardDrains
