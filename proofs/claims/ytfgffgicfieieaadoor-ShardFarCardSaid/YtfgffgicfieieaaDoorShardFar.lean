/-
  weighbridgelaw06.ShardFar returns true for every input, and leaves its arguments as they were, where math/bits' table holds what the program's own text lays there (the card ties it). No other condition but that the arguments are values of their types.
-/
import Derived.Test.YtfgffgicfieieaaDoorRows
import Derived.Test.YtfgffgicfieieaaDoorTie
import Derived.Test.YtfgffgicfieieaaDoorCards
import Derived.Test.YtfgffgicfieieaaDoorShardT2
import Derived.ShutString
import Derived.ChangeOld
import Derived.Below
import Derived.SevenTiedAt
namespace Go.Proofs.YtfgffgicfieieaaDoor.shardFar
open Go.ChangeShapes Go.WideShapes Go.ChangeAt Go.RowKit
set_option linter.unusedVariables false

/-- What the walk is told of a slice of integers that came in: it is nil, or it leads to a row of cap cells, the numbers zs, each fitting its kind. -/
def IsRow (k : IntKind) (w : World) (a : Option Addr) (len cap : Nat) (zs : List Int) : Prop :=
  (a = none ∧ len = 0 ∧ cap = 0 ∧ zs = []) ∨
  ∃ x, a = some x ∧ len ≤ cap ∧ cap ≤ maxLen ∧ zs.length = cap ∧ (∀ i, i < zs.length → w.cell? (x.add i) = some (.int k (zs.getD i 0))) ∧ ∀ n ∈ zs, (Lit.int k n).wf = true

set_option maxRecDepth 100000 in
set_option maxHeartbeats 8000000 in
theorem walk (a0 : Int) (a1 : Int) (a2 : Option Addr) (len2 cap2 : Nat) (z2 : List Int) (w : World) (w0 : (Lit.int .i64 a0).wf = true) (w1 : (Lit.int .u64 a1).wf = true) (w2 : IsRow .u64 w a2 len2 cap2 z2) (hT : Tab w) :
    Calls Tryd.prog 3 #[.int .i64 a0, .int .u64 a1, .slice a2 len2 cap2] w fun e w' => e = .returned (.bool true) ∧ Below w.heap.size w w' := by
  have W2 : Hid (∀ q, q < len2 → ∃ b off key, a2 = some ⟨b, off, none⟩ ∧ w.cell? ⟨b, off + q, none⟩ = some (.int .u64 key) ∧ (Lit.int .u64 key).wf = true ∧ len2 ≤ cap2) := fun q hq => by
    rcases w2 with ⟨rfl, rfl, rfl, rfl⟩ | ⟨x, rfl, hl, hm, hz, hcell, hwz⟩
    · omega
    · obtain ⟨b, off, spot⟩ := x
      have hc := hcell 0 (by omega)
      have hspot : spot = none := by simpa [Addr.add] using World.cell?_spot hc
      subst hspot
      refine ⟨b, off, z2.getD q 0, rfl, (by have h := hcell q (by omega); by_cases e : q = 0 <;> simpa [Addr.add, e] using h), hwz _ ?_, hl⟩
      rw [List.getD_eq_getElem?_getD, List.getElem?_eq_getElem (by omega)]
      exact List.getElem_mem _
  have HT := Lib.hid hT
  obtain ⟨b0, b1⟩ := u64ok_to w1
  clear w2 hT
  go_enter Tryd.func3, Tryd.ntmps3
  go_wp2_with fail
  refine (made_sound a0 _).mono ?_
  rintro e v1 ⟨wb, S1, xb, T1, wd, rfl, h1⟩
  have aw := sAwake v1 (h1.tab HT.out).1
  have H1 := Lib.hid h1
  clear h1
  go_wp2_with fail
  refine aw.mono ?_
  rintro e v2 ⟨rfl, o2⟩
  have H2 := Lib.hid (H1.out.only0 o2)
  have em : mayGo 0 [] a1 = true := by unfold mayGo; simp [b0]
  have hmv := sMove v2 wb S1 wd 0 [] H2.out.pair.ours (H2.out.tab HT.out).1 a1 b0 b1
  rw [em] at hmv
  simp only [if_true] at hmv
  clear H1 o2 aw
  go_wp2_with fail
  refine hmv.mono ?_
  rintro e v3 ⟨rfl, S3, q1, q2⟩
  have hrm := rMove v3 xb T1 wd 0 [] (H2.out.pair.ref_after (Only.refl [] v2) q2) a1
  rw [em] at hrm
  simp only [if_true] at hrm
  have Q := Lib.hid (And.intro q1 q2)
  clear q1 q2 hmv em
  go_wp2_with fail
  refine hrm.mono ?_
  rintro e v4 ⟨rfl, T4, q3, q4⟩
  obtain ⟨S5, T5, h5⟩ := H2.out.next (Only.refl [] v2) (After.mk H2.out.pair (Only.refl [] v2) Q.out.1 Q.out.2 q3 q4)
  have H5 := Lib.hid h5
  clear q3 q4 hrm Q H2 h5
  go_wp2_with fail
  go_loopg [9] (len2 + 1) (fun gk si wr => ∃ (p : Nat) (S T : List Nat) (l : List It), si = .int .i64 (p : Int) ∧ p ≤ len2 ∧ p ≤ 40 ∧ len2 + 1 ≤ gk + p ∧ l.length ≤ p ∧ Hid (Sound w wr wb S xb T wd a1 l) ∧ Hid (∀ y ∈ l, 0 ≤ y.i ∧ y.i < (p : Int)))
  case atStart => exact ⟨0, S5, T5, [], rfl, by omega, by omega, by omega, by simp, H5, by intro y hy; cases hy⟩
  case round =>
    obtain ⟨p, S, T, l, rfl, hp, hp80, hg, hlp, hS, hI⟩ := hrel
    clear H5
    by_cases hc : p < len2 ∧ p < 40
    · have c1 : (p : Int) < (len2 : Int) := by omega
      have c2 : (p : Int) < 40 := by omega
      obtain ⟨b, off, key, rfl, hcl, hkw, hlc⟩ := W2.out p hc.1
      have r0 := hS.out.only.stay hcl
      have z0 : i64ok 0 := i64ok_of (by omega)
      have zp : i64ok (p : Int) := i64ok_of (by omega)
      have hne := hNear ⟨0, key, 0⟩ ⟨z0, hkw, z0⟩ a1 w1 wr
      have hkok := nearM_ok (base := a1) hkw
      simp only at hne
      generalize nearM key a1 = k at *
      have hno : hasId (p : Int) l = false := (hasId_not _ _).2 fun y hy e => by have := hI.out y hy; omega
      have hiok : It.ok ⟨k, (p : Int)⟩ := ⟨hkok, zp⟩
      have HK := Lib.hid (And.intro hiok hno)
      clear hcl hc hkw hno hiok z0 zp
      go_wp2_with fail
      refine hne.mono ?_
      rintro e u1 ⟨rfl, o1⟩
      have hs1 := hS.out.only0 o1
      have hpu := sPush u1 wb S wd a1 l hs1.pair.ours ⟨k, (p : Int)⟩ HK.out.1 (by omega)
      have hrp : Hid (∀ W, RefOf W xb T wd a1 l → Calls Tryd.prog 11 #[.pointer (some ⟨xb, 0, none⟩), .agg #[.int .u64 k, .int .i64 (p : Int)]] W fun e w' => e = .returned (.bool (!hasId (p : Int) l && decide (a1 ≤ k))) ∧ ∃ S', RefOf w' xb S' wd a1 (if (!hasId (p : Int) l && decide (a1 ≤ k)) then ins ⟨k, (p : Int)⟩ l else l) ∧ Moved W T w' S') := fun W hW => rPush W xb T wd a1 l hW hs1.pair.ours.wd40 b0 b1 ⟨k, (p : Int)⟩ HK.out.1 (by omega)
      simp only at hpu
      rw [HK.out.2] at hpu hrp
      simp only [Bool.not_false, Bool.true_and] at hpu hrp
      have HS1 := Lib.hid hs1
      have hIn : Hid (∀ y, y ∈ (if decide (a1 ≤ k) = true then ins ⟨k, (p : Int)⟩ l else l) → 0 ≤ y.i ∧ y.i < ((p + 1 : Nat) : Int)) := fun y hy => by
        split at hy
        · have := (ins_perm ⟨k, (p : Int)⟩ l).subset hy
          rcases List.mem_append.1 this with h9 | h9
          · have := hI.out y h9; omega
          · simp at h9; rw [h9]; simp only; omega
        · have := hI.out y hy; omega
      have hln : Hid ((if decide (a1 ≤ k) = true then ins ⟨k, (p : Int)⟩ l else l).length ≤ l.length + 1) := by
        show _ ≤ _
        split
        · rw [ins_len]; omega
        · omega
      generalize (if decide (a1 ≤ k) = true then ins ⟨k, (p : Int)⟩ l else l) = l2 at *
      have hkc : (a1 ≤ k ∧ decide (a1 ≤ k) = true) ∨ (¬ a1 ≤ k ∧ decide (a1 ≤ k) = false) := by
        by_cases h9 : a1 ≤ k
        · exact .inl ⟨h9, decide_eq_true h9⟩
        · exact .inr ⟨h9, decide_eq_false h9⟩
      clear hne o1 hs1 r0
      rcases hkc with ⟨k1, k2⟩ | ⟨k1, k2⟩
      all_goals
        rw [k2] at hpu hrp
        go_wp2_with fail
        refine hpu.mono ?_
        rintro e u2 ⟨rfl, S2, q1, q2⟩
        have hr2 := hrp.out u2 (HS1.out.pair.ref_after (Only.refl [] u1) q2)
        have Q1 := Lib.hid (And.intro q1 q2)
        clear q1 q2 hpu
        go_wp2_with fail
        refine hr2.mono ?_
        rintro e u3 ⟨rfl, T3, q3, q4⟩
        obtain ⟨S4, T4, h4⟩ := HS1.out.next (Only.refl [] u1) (After.mk HS1.out.pair (Only.refl [] u1) Q1.out.1 Q1.out.2 q3 q4)
        have H4 := Lib.hid h4
        have ho1 := H4.out.over u3 (Only.refl [] u3)
        clear q3 q4 hr2 Q1 h4
        go_wp2_with fail
        refine ho1.mono ?_
        rintro e u4 ⟨rfl, rfl⟩
        have ho2 := H4.out.refover u4 (Only.refl [] u4)
        clear ho1
        go_wp2_with fail
        refine ho2.mono ?_
        rintro e u5 ⟨rfl, o5⟩
        have H6 := Lib.hid (H4.out.only0 o5)
        clear o5 ho2 H4
        go_wp2_with fail
        go_roundg (len2 + 1 - (p + 1))
        case measure => omega
        case rel => exact ⟨p + 1, S4, T4, l2, by simp, by omega, by omega, by omega, by have := hln.out; omega, H6, hIn⟩
    · have hcd : (decide ((p : Int) < (len2 : Int)) = false ∧ ¬ ((p : Int) < (len2 : Int))) ∨ ((p : Int) < (len2 : Int) ∧ decide ((p : Int) < 40) = false) := by
        have hce : ¬ p < len2 ∨ (p < len2 ∧ ¬ p < 40) := by omega
        rcases hce with h9 | h9
        · exact .inl ⟨decide_eq_false (by omega), by omega⟩
        · exact .inr ⟨by omega, decide_eq_false (by omega)⟩
      have fin : Hid (∀ wq S' T', Sound w wq wb S' xb T' wd a1 l → ∃ Ax capx, wq.cell? ⟨xb, 0, none⟩ = some (.slice Ax l.length capx) ∧ RowIs wq (.slice Ax l.length capx) l) := fun wq S' T' h => by
        obtain ⟨Ax, capx, x0, xr, -, -⟩ := h.refs
        exact ⟨Ax, capx, x0, xr⟩
      clear hc hp
      by_cases hb : a1 = 0
      · subst hb
        obtain ⟨Ax, capx, x0, xr⟩ := fin.out wr S T hS.out
        have HXR := Lib.hid xr
        have hal := Lib.hid (hS.out.all HT.out wr.drew (Only.refl [] wr).drew)
        clear xr
        rcases hcd with ⟨c1, c2⟩ | ⟨c1, c2⟩
        all_goals
          go_wp2_with fail
          go_region_held3 (fun w' => w'.cell? ⟨xb, 0, none⟩ = some (.slice Ax l.length capx))
            (first | go_keep | (exact k0) | (exact k1))
            (first
              | (go_at_call 15; refine hal.out.mono ?_; rintro e u1 ⟨A2, cap2, rfl, r2, v2, o2⟩; have k0 := o2.stay (p := ⟨xb, 0, none⟩) (v := .slice Ax l.length capx) (by exact x0); have O2 := Lib.hid ((Only.refl [] wr).drew.trans' o2); have R2 := Lib.hid (And.intro r2 (HXR.out.keep (w' := u1) (fun g hg => ((Only.refl [] wr).drew.trans' o2).block g (HXR.out.lt hg) (by simp)))); clear r2 v2 o2)
              | (go_at_call 14; refine (hPlain _ _ _ l l (by exact R2.out.1) (by exact R2.out.2) (by omega) (by omega)).mono ?_; rintro e u2 ⟨rfl, o3⟩; have k1 := o3.stay k0; have O3 := Lib.hid o3; clear o3))
          go_wp2_with fail
          go_ret
          exact ⟨by simp, ((hS.out.only.trans' O2.out).trans' O3.out).below (Nat.le_refl _) (by simp)⟩
      · have hb1 : (0 : Int) < a1 := by omega
        have hb2 : decide ((0 : Int) < a1) = true := decide_eq_true hb1
        have hwb : IntKind.u64.wrap (a1 - 1) = a1 - 1 := by rw [IntKind.wrap_u64]; omega
        obtain ⟨bm, ebm⟩ : ∃ bm, a1 - 1 = bm := ⟨_, rfl⟩
        rw [ebm] at hwb
        have zb : (Lit.int .u64 bm).wf = true := u64ok_of (by omega)
        have zm : i64ok (-1) := i64ok_of (by omega)
        have hpu := sPush wr wb S wd a1 l hS.out.pair.ours ⟨bm, -1⟩ ⟨zb, zm⟩ (by omega)
        rw [decide_eq_false (by simp only; omega)] at hpu
        simp only [Bool.and_false, Bool.false_eq_true, if_false] at hpu
        clear hb
        rcases hcd with ⟨c1, c2⟩ | ⟨c1, c2⟩
        all_goals
          go_wp2_with fail
          refine hpu.mono ?_
          rintro e u3 ⟨rfl, S2, q1, q2⟩
          obtain ⟨S4, T4, h4⟩ := hS.out.next (Only.refl [] wr) (After.mk hS.out.pair (Only.refl [] wr) q1 q2 (hS.out.pair.ref_after (Only.refl [] wr) q2) (Moved.refl _ _))
          have H3 := Lib.hid h4
          obtain ⟨Ax, capx, x0, xr⟩ := fin.out u3 S4 T4 h4
          have HXR := Lib.hid xr
          have hal := Lib.hid (H3.out.all HT.out u3.drew (Only.refl [] u3).drew)
          clear xr q1 q2 h4 hpu
          go_wp2_with fail
          go_region_held3 (fun w' => w'.cell? ⟨xb, 0, none⟩ = some (.slice Ax l.length capx))
            (first | go_keep | (exact k0) | (exact k1))
            (first
              | (go_at_call 15; refine hal.out.mono ?_; rintro e u1 ⟨A2, cap2, rfl, r2, v2, o2⟩; have k0 := o2.stay (p := ⟨xb, 0, none⟩) (v := .slice Ax l.length capx) (by exact x0); have O2 := Lib.hid ((Only.refl [] u3).drew.trans' o2); have R2 := Lib.hid (And.intro r2 (HXR.out.keep (w' := u1) (fun g hg => ((Only.refl [] u3).drew.trans' o2).block g (HXR.out.lt hg) (by simp)))); clear r2 v2 o2)
              | (go_at_call 14; refine (hPlain _ _ _ l l (by exact R2.out.1) (by exact R2.out.2) (by omega) (by omega)).mono ?_; rintro e u2 ⟨rfl, o3⟩; have k1 := o3.stay k0; have O3 := Lib.hid o3; clear o3))
          go_wp2_with fail
          go_ret
          exact ⟨by simp, ((H3.out.only.trans' O2.out).trans' O3.out).below (Nat.le_refl _) (by simp)⟩

/-! ### The step from the walk to the row -/
set_option maxRecDepth 100000 in
theorem lifted (os : Os) (started : os.Started) (H : Type) (enc : TypeId × Value → H) :
    ReturnsInHanded {} Tryd.checked os 3 .any (fun w args => (Rows.shardFarSpec.pre enc Tryd.prog Tryd.f3 [] false w args ∧ laidMetH Tryd.prog listed w) ∧ sizedMet enc Tryd.prog Tryd.f3 (OpenSpec.ofChange Rows.shardFarSpec) false w args)
      (Rows.shardFarSpec.post enc Tryd.prog Tryd.f3 false true false false) := by
  refine returnsInHanded_of_change_and (C := Tryd.checked) (X := fun w _ => laidMetH Tryd.prog listed w) (fun _ _ _ hh h => h.of_heap hh) own started (by kernel_rfl) Tryd.func3
    (ChangeSpec.witness_shaped (enc := enc) (C := Tryd.checked) (os := os) (X := fun w _ => laidMetH Tryd.prog listed w) false (World.doorLaid Tryd.prog 14 os) #[.int .i64 0, .int .u64 0, .slice none 0 0] 8 rfl (World.shaped_of_RefB (by kernel_rfl) (by kernel_rfl)) (by kernel_rfl) (by kernel_rfl) (by kernel_rfl) (door_met os _)) ?_
  intro W base args ds gs before hval0 hW _ _ hL _
  have hval : ∀ (j : Nat) t v, Tryd.f3.params[j]? = some t → args[j]? = some v → Value.okWide Tryd.prog W .any base t v := hval0
  have hW' := hW
  obtain ⟨p, q, hA0, hV, rfl, hfz, hnd⟩ := hW
  have hA : DataW.TrodAll enc Tryd.prog W 0 (fun _ => true) true Tryd.f3.params.toList args.toList ds p := hA0
  rw [Tryd.params3] at hA hval
  obtain ⟨v0, vs0, d0, ds0, p0, q0, hargs, rfl, rfl, h0, r0⟩ := trodAll_cons hA
  obtain ⟨v1, vs1, d1, ds1, p1, q1, rfl, rfl, rfl, h1, r1⟩ := trodAll_cons r0
  obtain ⟨v2, vs2, d2, ds2, p2, q2, rfl, rfl, rfl, h2, r2⟩ := trodAll_cons r1
  obtain ⟨rfl, rfl, rfl⟩ := trodAll_nil r2
  obtain rfl : args = #[v0, v1, v2] := by cases args; simp_all
  obtain ⟨rfl, rfl⟩ := trodVars_none hV
  obtain ⟨a0, rfl, rfl, rfl, w0⟩ := open_int Tryd.underlying3 (hval 0 3 v0 rfl rfl) h0
  obtain ⟨a1, rfl, rfl, rfl, w1⟩ := open_int Tryd.underlying22 (hval 1 22 v1 rfl rfl) h1
  obtain ⟨a2, len2, cap2, rfl⟩ := okWide_slice Tryd.underlying23 (hval 2 23 v2 rfl rfl)
  have k2 := h2
  have lt2 : ∀ x ∈ p2, x.block < W.heap.size := by obtain ⟨m, hm⟩ := k2; exact DataW.trod_lt m _ _ _ hm
  obtain ⟨z2, w2⟩ : ∃ zs, IsRow .u64 W a2 len2 cap2 zs := by
    obtain ⟨fuel, hf⟩ := h2
    rcases open_ints Tryd.underlying23 Tryd.underlying22 (by kernel_rfl) hf with ⟨hcs, _⟩ | ⟨x, l, c, zs, hcs, _, hl, hm, hz, _, hcell, hwz⟩
    · simp [Value.cells] at hcs
      obtain ⟨rfl, rfl, rfl⟩ := hcs
      exact ⟨[], .inl ⟨rfl, rfl, rfl, rfl⟩⟩
    · simp [Value.cells] at hcs
      obtain ⟨rfl, rfl, rfl⟩ := hcs
      exact ⟨zs, .inr ⟨_, rfl, hl, hm, by simpa using hz, hcell, hwz⟩⟩
  clear hA0 hval0
  refine (walk a0 a1 a2 len2 cap2 z2 W w0 w1 w2 (tab_of_laid hL)).mono fun e W' ⟨he, bel⟩ => ?_
  subst he
  exact ⟨_, rfl, _, _, _, [], _, [], hW', trodAll_mk1 (shut_bool Tryd.underlying4 _), (trodAll_cons_mk (shut_int Tryd.underlying3 w0) (trodAll_cons_mk (shut_int Tryd.underlying22 w1) (trodAll_cons_mk (Below.trod laidOut (by kernel_rfl) (of_decide_eq_true (by kernel_rfl)) k2 bel lt2) trodAll_mk0))), rfl, bel.frame _, fun h => by cases h⟩

theorem over : Rows.shardFarRow.holds Tryd.pinned (OpenSpec.ofChange Rows.shardFarSpec) :=
  OpenClaim.holds_of_wide 3 Tryd.f3 rfl rfl rfl rfl rfl rfl rfl ⟨rfl, rfl, rfl, rfl, rfl⟩ rfl rfl rfl rfl rfl (by kernel_rfl) Tryd.func3 (by kernel_rfl)
    (of_decide_eq_true (by kernel_rfl)) (by unfold Func.isWrapper; first | (rw [if_pos (by decide +kernel)]; kernel_rfl) | (rw [if_neg (by decide +kernel)]; exact ⟨rfl, rfl⟩))
    (fun os started H enc _ => lifted os started H enc)

/-- The statement: the card, its listed variable tied to the program's text. -/
theorem proved : Rows.ShardFarCardSaid :=
  Claim7.holds_tied_plain_at .later [] [.data] true (true, "0ee8118f44577387b3c3ee20505714eedfc64a1448e6886277f042c61eddc5d8") false
    over (fun _ h => by cases h) (by kernel_rfl) (fun _ h => by cases h) shardFar_row_tie rfl ⟨rfl, rfl⟩ (by kernel_rfl) rfl
    (fun f fn hf hfn => by
      obtain rfl : f = 3 := Option.some.inj ((show Tryd.prog.funcNamed "weighbridge/weighbridgelaw06.ShardFar" = some 3 by kernel_rfl).symm.trans hf) |>.symm
      obtain rfl : fn = Tryd.f3 := (Option.some.inj (Tryd.func3.symm.trans hfn)).symm
      exact ⟨by kernel_rfl, fun j t ht => by
        rw [Tryd.params3] at ht
        have hm : t ∈ [3, 22, 23] := by simpa using Array.mem_of_getElem? ht
        have hall : ([3, 22, 23].all fun u => !Tryd.prog.wantsStandIn u) = true := by kernel_rfl
        exact (show Tryd.prog.wantsStandIn t = false by simpa using List.all_eq_true.1 hall t hm)⟩)
    (by kernel_rfl)
#print axioms proved
end Go.Proofs.YtfgffgicfieieaaDoor.shardFar
