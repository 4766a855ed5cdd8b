/-
  weighbridgelaw06.ShardPlays returns true for every input, and leaves its arguments as they were, where math/bits' table holds what the program's own text lays there (the card ties it). No other condition but that the arguments are values of their types.
-/
import Derived.Test.YtfgffgicfieieaaGreatDoorRows
import Derived.Test.YtfgffgicfieieaaGreatDoorTie
import Derived.Test.YtfgffgicfieieaaGreatDoorCards
import Derived.Test.YtfgffgicfieieaaGreatDoorShardT2
import Derived.ShutString
import Derived.ChangeOld
import Derived.Below
import Derived.SevenTiedAt
namespace Go.Proofs.YtfgffgicfieieaaGreatDoor.shardPlays
open Go.ChangeShapes Go.WideShapes Go.ChangeAt Go.RowKit
set_option linter.unusedVariables false

set_option maxRecDepth 100000 in
set_option maxHeartbeats 8000000 in
theorem walk (a0 : Int) (a1 : Option Addr) (len1 cap1 : Nat) (z1 : Nat → Dd) (w : World) (w0 : (Lit.int .i64 a0).wf = true) (w1 : InDeeds w a1 len1 z1) (hT : Tab w) :
    Calls Tryz.prog 3 #[.int .i64 a0, .slice a1 len1 cap1] w fun e w' => e = .returned (.bool true) ∧ Below w.heap.size w w' := by
  have W1 := Lib.hid w1
  have HT := Lib.hid hT
  obtain ⟨mf, qf, PL⟩ := plays_are
  have PL := Lib.hid PL
  clear w1 hT
  go_enter Tryz.func3, Tryz.ntmps3
  go_wp2_with fail
  refine (made_sound a0 _).mono ?_
  rintro e v1 ⟨wb, S1, xb, T1, wd, rfl, h1⟩
  have aw := sAwake v1 (h1.tab HT.out).1
  have H1 := Lib.hid h1
  clear h1
  go_wp2_with fail
  refine aw.mono ?_
  rintro e v2 ⟨rfl, o2⟩
  have H2 := Lib.hid (H1.out.only0 o2)
  clear H1 o2 aw
  go_wp2_with fail
  go_loopg [7] (len1 + 1) (fun gk si wr => ∃ (p : Nat) (S T : List Nat) (base : Int) (l : List It), si = .int .i64 (p : Int) ∧ p ≤ len1 ∧ p ≤ 80 ∧ len1 + 1 ≤ gk + p ∧ l.length ≤ p ∧ Hid (Sound w wr wb S xb T wd base l))
  case atStart => exact ⟨0, S1, T1, 0, [], rfl, by omega, by omega, by omega, by simp, H2⟩
  case round =>
    obtain ⟨p, S, T, base, l, rfl, hp, hp80, hg, hlp, hS⟩ := hrel
    clear H2
    by_cases hc : p < len1 ∧ p < 80
    · have c1 : (p : Int) < (len1 : Int) := by omega
      have c2 : (p : Int) < 80 := by omega
      obtain ⟨hdok, ad, b, o, s, rfl, hadd, hbw, q0, q1, q2⟩ := W1.out p hc.1
      obtain ⟨d, ed⟩ : ∃ d, z1 p = d := ⟨_, rfl⟩
      rw [ed] at q0 q1 q2 hdok
      have r0 := hS.out.only.stay q0
      have r1 := hS.out.only.stay q1
      have r2 := hS.out.only.stay q2
      have hst := hS.out.step HT.out (by omega) d hdok PL.out wr.drew (Only.refl [] wr).drew
      have hl2 : (stepM mf qf d base l).2.length ≤ l.length + 1 := stepTo_len _ _ _ _ _ _
      generalize (stepM mf qf d base l).1 = base2 at *
      generalize (stepM mf qf d base l).2 = l2 at *
      have Q := Lib.hid (And.intro q0 (And.intro q1 q2))
      have HST := Lib.hid hst
      clear q0 q1 q2 ed hbw hc hst
      go_wp2_with fail
      go_region_with (first
          | (go_at_call 9; refine HST.out.mono ?_; rintro e u1 ⟨rfl, S2, T2, hs2⟩; obtain ⟨Ax, capx, x0, -, x1, -⟩ := hs2.refs; have HS2 := Lib.hid hs2; clear hs2)
          | (go_at_call 10; refine (HS2.out.base _ (Only.refl [] _)).mono ?_; rintro e w' ⟨rfl, rfl⟩)
          | (go_at_call 11; refine (HS2.out.len _ (Only.refl [] _)).mono ?_; rintro e u2 ⟨rfl, o2⟩; have x0 := o2.stay x0; have HS2 := Lib.hid (HS2.out.only0 o2); clear o2)
          | (go_at_call 12; refine (HS2.out.over _ (Only.refl [] _)).mono ?_; rintro e w' ⟨rfl, rfl⟩)
          | (go_at_call 13; refine (HS2.out.refover _ (Only.refl [] _)).mono ?_; rintro e u3 ⟨rfl, o3⟩; have HS2 := Lib.hid (HS2.out.only0 o3); clear o3))
      all_goals
        go_wp2_with fail
        go_roundg (len1 + 1 - (p + 1))
        case measure => omega
        case rel => exact ⟨p + 1, S2, T2, base2, l2, by simp, by omega, by omega, by omega, by omega, HS2⟩
    · obtain ⟨Ax, capx, x0, xr, -, -⟩ := hS.out.refs
      have HXR := Lib.hid xr
      have hal := Lib.hid (hS.out.all HT.out wr.drew (Only.refl [] wr).drew)
      have hcd : (decide ((p : Int) < (len1 : Int)) = false ∧ ¬ ((p : Int) < (len1 : Int))) ∨ ((p : Int) < (len1 : Int) ∧ decide ((p : Int) < 80) = false) := by
        have hce : ¬ p < len1 ∨ (p < len1 ∧ ¬ p < 80) := by omega
        rcases hce with h9 | h9
        · exact .inl ⟨decide_eq_false (by omega), by omega⟩
        · exact .inr ⟨by omega, decide_eq_false (by omega)⟩
      clear hc hp xr
      rcases hcd with ⟨c1, c2⟩ | ⟨c1, c2⟩
      all_goals
        go_wp2_with fail
        go_region_held3 (fun w' => w'.cell? ⟨xb, 0, none⟩ = some (.slice Ax l.length capx))
          (first | go_keep | (exact k0) | (exact k1))
          (first
            | (go_at_call 15; refine hal.out.mono ?_; rintro e u1 ⟨A2, cap2, rfl, r2, v2, o2⟩; have k0 := o2.stay (p := ⟨xb, 0, none⟩) (v := .slice Ax l.length capx) (by exact x0); have O2 := Lib.hid ((Only.refl [] wr).drew.trans' o2); have R2 := Lib.hid (And.intro r2 (HXR.out.keep (w' := u1) (fun g hg => ((Only.refl [] wr).drew.trans' o2).block g (HXR.out.lt hg) (by simp)))); clear r2 v2 o2)
            | (go_at_call 14; refine (hPlain _ _ _ l l (by exact R2.out.1) (by exact R2.out.2) (by omega) (by omega)).mono ?_; rintro e u2 ⟨rfl, o3⟩; have k1 := o3.stay k0; have O3 := Lib.hid o3; clear o3))
        go_wp2_with fail
        go_ret
        exact ⟨by simp, ((hS.out.only.trans' O2.out).trans' O3.out).below (Nat.le_refl _) (by simp)⟩

/-! ### The step from the walk to the row -/
set_option maxRecDepth 100000 in
theorem lifted (os : Os) (started : os.Started) (H : Type) (enc : TypeId × Value → H) :
    ReturnsInHanded {} Tryz.checked os 3 .any (fun w args => (Rows.shardPlaysSpec.pre enc Tryz.prog Tryz.f3 [] false w args ∧ laidMetH Tryz.prog listed w) ∧ sizedMet enc Tryz.prog Tryz.f3 (OpenSpec.ofChange Rows.shardPlaysSpec) false w args)
      (Rows.shardPlaysSpec.post enc Tryz.prog Tryz.f3 false true false false) := by
  refine returnsInHanded_of_change_and (C := Tryz.checked) (X := fun w _ => laidMetH Tryz.prog listed w) (fun _ _ _ hh h => h.of_heap hh) own started (by kernel_rfl) Tryz.func3
    (ChangeSpec.witness_shaped (enc := enc) (C := Tryz.checked) (os := os) (X := fun w _ => laidMetH Tryz.prog listed w) false (World.doorLaid Tryz.prog 14 os) #[.int .i64 0, .slice none 0 0] 8 rfl (World.shaped_of_RefB (by kernel_rfl) (by kernel_rfl)) (by kernel_rfl) (by kernel_rfl) (by kernel_rfl) (door_met os _)) ?_
  intro W base args ds gs before hval0 hW _ _ hL _
  have hval : ∀ (j : Nat) t v, Tryz.f3.params[j]? = some t → args[j]? = some v → Value.okWide Tryz.prog W .any base t v := hval0
  have hW' := hW
  obtain ⟨p, q, hA0, hV, rfl, hfz, hnd⟩ := hW
  have hA : DataW.TrodAll enc Tryz.prog W 0 (fun _ => true) true Tryz.f3.params.toList args.toList ds p := hA0
  rw [Tryz.params3] at hA hval
  obtain ⟨v0, vs0, d0, ds0, p0, q0, hargs, rfl, rfl, h0, r0⟩ := trodAll_cons hA
  obtain ⟨v1, vs1, d1, ds1, p1, q1, rfl, rfl, rfl, h1, r1⟩ := trodAll_cons r0
  obtain ⟨rfl, rfl, rfl⟩ := trodAll_nil r1
  obtain rfl : args = #[v0, v1] := by cases args; simp_all
  obtain ⟨rfl, rfl⟩ := trodVars_none hV
  obtain ⟨a0, rfl, rfl, rfl, w0⟩ := open_int Tryz.underlying3 (hval 0 3 v0 rfl rfl) h0
  obtain ⟨a1, len1, cap1, rfl⟩ := okWide_slice Tryz.underlying22 (hval 1 22 v1 rfl rfl)
  have k1 := h1
  have lt1 : ∀ x ∈ p1, x.block < W.heap.size := by obtain ⟨m, hm⟩ := k1; exact DataW.trod_lt m _ _ _ hm
  obtain ⟨z1, w1⟩ : ∃ z, InDeeds W a1 len1 z := by
    obtain ⟨fuel, hf⟩ := h1
    exact open_deeds hf
  clear hA0 hval0
  refine (walk a0 a1 len1 cap1 z1 W w0 w1 (tab_of_laid hL)).mono fun e W' ⟨he, bel⟩ => ?_
  subst he
  exact ⟨_, rfl, _, _, _, [], _, [], hW', trodAll_mk1 (shut_bool Tryz.underlying4 _), (trodAll_cons_mk (shut_int Tryz.underlying3 w0) (trodAll_cons_mk (Below.trod laidOut (by kernel_rfl) (of_decide_eq_true (by kernel_rfl)) k1 bel lt1) trodAll_mk0)), rfl, bel.frame _, fun h => by cases h⟩

theorem over : Rows.shardPlaysRow.holds Tryz.pinned (OpenSpec.ofChange Rows.shardPlaysSpec) :=
  OpenClaim.holds_of_wide 3 Tryz.f3 rfl rfl rfl rfl rfl rfl rfl ⟨rfl, rfl, rfl, rfl, rfl⟩ rfl rfl rfl rfl rfl (by kernel_rfl) Tryz.func3 (by kernel_rfl)
    (of_decide_eq_true (by kernel_rfl)) (by unfold Func.isWrapper; first | (rw [if_pos (by decide +kernel)]; kernel_rfl) | (rw [if_neg (by decide +kernel)]; exact ⟨rfl, rfl⟩))
    (fun os started H enc _ => lifted os started H enc)

/-- The statement: the card, its listed variable tied to the program's text. -/
theorem proved : Rows.ShardPlaysCardSaid :=
  Claim7.holds_tied_plain_at .later [] [.data] true (true, "54366cd7a8cab88fcfb17f69fae1922cb218978da292337e226842dc674c99a2") false
    over (fun _ h => by cases h) (by kernel_rfl) (fun _ h => by cases h) shardPlays_row_tie rfl ⟨rfl, rfl⟩ (by kernel_rfl) rfl
    (fun f fn hf hfn => by
      obtain rfl : f = 3 := Option.some.inj ((show Tryz.prog.funcNamed "weighbridge/weighbridgelaw06.ShardPlays" = some 3 by kernel_rfl).symm.trans hf) |>.symm
      obtain rfl : fn = Tryz.f3 := (Option.some.inj (Tryz.func3.symm.trans hfn)).symm
      exact ⟨by kernel_rfl, fun j t ht => by
        rw [Tryz.params3] at ht
        have hm : t ∈ [3, 22] := by simpa using Array.mem_of_getElem? ht
        have hall : ([3, 22].all fun u => !Tryz.prog.wantsStandIn u) = true := by kernel_rfl
        exact (show Tryz.prog.wantsStandIn t = false by simpa using List.all_eq_true.1 hall t hm)⟩)
    (by kernel_rfl)
#print axioms proved
end Go.Proofs.YtfgffgicfieieaaGreatDoor.shardPlays
