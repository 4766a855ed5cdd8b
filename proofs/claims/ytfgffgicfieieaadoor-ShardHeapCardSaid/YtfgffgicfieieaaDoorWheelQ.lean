/-
  Contract of the wheel's remove.
-/
import Derived.Test.YtfgffgicfieieaaDoorWheelP
namespace Go.Proofs.YtfgffgicfieieaaDoor
set_option maxRecDepth 100000
open Go.RowKit Go.ChangeMaps Go.MapKept
set_option linter.unusedVariables false
set_option linter.unusedSimpArgs false

/-- The map turned. -/
theorem WheelIs.remap {w w' : World} {wb mb wd : Nat} {vs : Nat → Value} {ms : Nat → Nat} {base : Int} {f : Nat → List It} {K K' : Int → Option Int} (h : WheelIs w wb mb vs ms wd base f K) (hm : MapU w' mb K') (hg : w.grownBy w' (some mb)) :
    WheelIs w' wb mb vs ms wd base f K' ∧ Moved w (wown wb mb vs) w' (wown wb mb vs) := by
  have ho : Only [mb] w w' := (Only.refl [mb] w).grown hg (by simp)
  refine ⟨⟨h.blk.keep (ho.block wb h.blk.lt (by simpa using h.wbmb)), h.tells, fun i hi => (h.rows i hi).keep fun g hg => ho.block g ((h.rows i hi).lt hg) (by simpa using (h.mbg hi hg).symm), h.apart, hm⟩, ho.mono (by intro k hk; simp at hk; exact .inl (mem_wown.2 (.inr (.inl hk)))), fun b hb => .inl hb⟩

theorem erase_one {l : List It} {q : Nat} (hq : q < l.length) (h1 : l.length = 1) : l.eraseIdx q = [] := List.length_eq_zero_iff.1 (by rw [List.length_eraseIdx_of_lt hq, h1])
theorem erase_more {l : List It} {q : Nat} (hq : q < l.length) (h1 : l.length ≠ 1) : (l.eraseIdx q).isEmpty = l.isEmpty := by
  have e1 : (l.eraseIdx q).length = l.length - 1 := List.length_eraseIdx_of_lt hq
  cases hh : l.eraseIdx q with
  | nil => rw [hh] at e1; simp at e1; omega
  | cons y m =>
    cases l with
    | nil => simp at hq
    | cons z l => rfl
theorem beq_one {n : Nat} (h : n ≠ 1) : ((n : Int) == 1) = false := by simp; omega

set_option maxRecDepth 100000 in
set_option maxHeartbeats 4000000 in
theorem wRemove (w : World) (wb mb wd : Nat) (vs : Nat → Value) (ms : Nat → Nat) (base : Int) (f : Nat → List It) (K : Int → Option Int) (h : WheelIs w wb mb vs ms wd base f K) (hwd : wd ≤ 40) (b0 : 0 ≤ base) (b1 : base ≤ 18446744073709551615)
    (x : It) (hx : x.ok) (hr : reach wd base x.k) (hf : Rises (f (pl wd base x))) (hl : (f (pl wd base x)).length ≤ 1000000) (hin : at_ (f (pl wd base x)) x < (f (pl wd base x)).length) :
    Calls Tryd.prog 67 #[.pointer (some ⟨wb, 0, none⟩), .agg #[.int .u64 x.k, .int .i64 x.i]] w fun e w' => e = .returned (.tuple #[]) ∧
      ∃ vs' ms', WheelIs w' wb mb vs' ms' wd base (setN f (pl wd base x) ((f (pl wd base x)).eraseIdx (at_ (f (pl wd base x)) x))) (off K x.i) ∧ Moved w (wown wb mb vs) w' (wown wb mb vs') := by
  have kk : 0 ≤ x.k ∧ x.k ≤ 18446744073709551615 := by
    have := hx.1
    simp [Lit.wf, IntKind.min, IntKind.max, IntKind.signed, IntKind.bits] at this
    omega
  obtain ⟨L, hL, eL, b, hb, eb, ep⟩ := pos_is hr
  have hbw : bkW wd base x.k = (b : Int) := by
    unfold bkW
    rw [if_pos (reach_iff.1 hr), eL, Int.toNat_natCast, eb]
  have hp : pl wd base x = L * 64 + b := ep
  rw [hp] at hf hl hin ⊢
  have hi : L * 64 + b < 192 := by omega
  have oA : Only [] w (w.alloc (.cells #[.int .u64 x.k, .int .i64 x.i] 35)) := (Only.refl [] w).alloc _
  have bX : Box _ w.heap.size x := Box.new w x
  have hwh := where_any _ wb wd mb base vs ms (h.blk.keep (oA.block wb h.blk.lt (by simp))) hwd x.k b0 b1 kk.1 kk.2
  rw [eL, hbw] at hwh
  obtain ⟨A, cap, ev⟩ := (h.rows _ hi).form
  have H := Lib.hid h
  have HA := Lib.hid oA
  have HX := Lib.hid bX
  have hwb := h.blk.lt
  have hmb := h.map.lt
  have HO : Hid (∀ b' ∈ wown wb mb vs, b' < w.heap.size) := h.lt
  have EV := Lib.hid ev
  clear h oA bX
  go_enter Tryd.func67, Tryd.ntmps67
  go_wp2_with fail
  refine hwh.mono ?_
  rintro e w1 ⟨rfl, o1⟩
  clear hwh
  have h1 := H.out.only0 (HA.out.trans' o1)
  have bX1 := HX.out.only o1 (by simp)
  have c0 := bX1.c0
  have c1 := bX1.c1
  have cl : w1.cell? ⟨wb, 2 + L * 64 + b, none⟩ = some (.slice A (f (L * 64 + b)).length cap) := by rw [Nat.add_assoc, ← ev]; exact h1.blk.list hi
  have hL' : (L : Int) < 3 := by omega
  have hb' : (b : Int) < 64 := by omega
  have hse := search_any w1 (vs (L * 64 + b)) (f (L * 64 + b)) (h1.rows _ hi) hf x hl
  rw [ev] at hse
  have H1 := Lib.hid (And.intro h1 (And.intro bX1 (HA.out.trans' o1)))
  clear h1 bX1 o1 H HA HX ev
  obtain ⟨N, eN⟩ : ∃ N, w.heap.size = N := ⟨_, rfl⟩
  rw [eN] at c0 c1 H1 hwb HO hmb ⊢
  generalize hq : at_ (f (L * 64 + b)) x = q at *
  go_wp2_with fail
  refine hse.mono ?_
  rintro e w2 ⟨⟨fd, rfl⟩, o2⟩
  obtain ⟨h1, bX1, oW1⟩ := H1.out
  have h2 := h1.only0 o2
  have bX2 := bX1.only o2 (by simp)
  have d0 := bX2.c0
  have d1 := bX2.c1
  have fr2 := h2.blk.fr (2 + L * 64 + b)
  have hdel : Hid (∀ W, Only [] w2 W → Calls Tryd.prog 85 #[.slice A (f (L * 64 + b)).length cap, .int .i64 (q : Int), .int .i64 ((q : Int) + 1)] W (Put W (vs (L * 64 + b)) ((f (L * 64 + b)).eraseIdx q))) := fun W oW => by
    have h3 := (h2.only0 oW).rows _ hi
    have := delete_any W _ _ h3 q hin hl
    rw [EV.out] at this ⊢
    exact this
  have H2 := Lib.hid (And.intro h2 (And.intro bX2 (oW1.trans' o2)))
  clear h1 bX1 oW1 H1 h2 bX2 hse o2 c0 c1 cl
  have hNp : N ∉ (vs (L * 64 + b)).ownBlock.toList := fun hm => by
    have := HO.out N (mem_wown.2 (.inr (.inr ⟨_, hi, Option.mem_toList.1 hm⟩)))
    omega
  generalize hn : (f (L * 64 + b)).length = n at *
  go_wp2_with fail
  have hw1 : IntKind.i64.wrap ((q : Int) + 1) = (q : Int) + 1 := by rw [IntKind.wrap_i64]; omega
  have hw2 : wrap64 ((q : Int) + 1) = (q : Int) + 1 := by unfold wrap64; omega
  have hNw : ¬ N = wb := by omega
  go_region_held3 (fun w' => w'.cell? ⟨N, 0, none⟩ = some (.int .u64 x.k) ∧ w'.cell? ⟨N, 1, none⟩ = some (.int .i64 x.i))
    (first | go_keep | (exact ⟨k0, k1⟩) | (exact ⟨k2 _ _, k3 _ _⟩))
    (first | (go_at_call 85; refine (hdel.out _ ((Only.refl [] w2).drew)).mono ?_; rintro e w3 ⟨v', rfl, r3, o3, l3⟩; obtain ⟨A3, cap3, rfl⟩ := r3.form; have B3 := H2.out.1.mid ((Only.refl [] w2).drew) hi o3; have cl3 : w3.cell? ⟨wb, 2 + L * 64 + b, none⟩ = some (vs (L * 64 + b)) := (by rw [Nat.add_assoc]; exact B3.list hi); have fr3 := B3.fr (2 + L * 64 + b); have bX3 : Box w3 N x := (H2.out.2.1.only (show Only [] w2 _ from (Only.refl [] w2).drew) (by simp)).only o3 hNp; have k0 := bX3.c0; have k1 := bX3.c1; have k2 : ∀ (j : Nat) (u : Value), (w3.setCell ⟨wb, j, none⟩ u).cell? ⟨N, 0, none⟩ = some (.int .u64 x.k) := (fun j u => (((Only.refl [wb] w3).setCell (.inl (by simp)) u).cell (p := ⟨N, 0, none⟩) bX3.lt (by simp; omega)).trans k0); have k3 : ∀ (j : Nat) (u : Value), (w3.setCell ⟨wb, j, none⟩ u).cell? ⟨N, 1, none⟩ = some (.int .i64 x.i) := (fun j u => (((Only.refl [wb] w3).setCell (.inl (by simp)) u).cell (p := ⟨N, 1, none⟩) bX3.lt (by simp; omega)).trans k1); have R3 := Lib.hid (And.intro r3 (And.intro o3 (And.intro l3 bX3))); have HB3 := Lib.hid B3; clear B3 bX3 r3 o3 l3))
  clear k0 k1 k2 k3 cl3 fr3 hw1 hw2
  have B4 := HB3.out.setList hi (.slice A3 ((f (L * 64 + b)).eraseIdx q).length cap3)
  rw [← Nat.add_assoc] at B4
  have hms := (H2.out.1.tells L hL).1
  have m0 := B4.bmap hL
  have fm := B4.fr (194 + L)
  have hwt := fun W => without_any (ms L) (b : Int) W hms
  have HB4 := Lib.hid B4
  have ho4 : Hid (Only [wb] w3 (w3.setCell ⟨wb, 2 + L * 64 + b, none⟩ (.slice A3 ((f (L * 64 + b)).eraseIdx q).length cap3))) := (Only.refl [wb] w3).setCell (.inl (by simp)) _
  clear B4
  generalize w3.setCell ⟨wb, 2 + L * 64 + b, none⟩ (.slice A3 ((f (L * 64 + b)).eraseIdx q).length cap3) = w4 at *
  have hql : q < (f (L * 64 + b)).length := by rw [hn]; exact hin
  by_cases hn1 : n = 1
  · have hn1' : ((n : Int) == 1) = true := by rw [hn1]; rfl
    have hnil : Hid ((f (L * 64 + b)).eraseIdx q = []) := erase_one hql (by rw [hn]; exact hn1)
    clear hn1
    go_wp2_with fail
    go_still_tail 13, (by kernel_rfl)
    still_call ((hwt _).mono fun _ _ q => ⟨q.1, q.2.symm⟩)
    repeat still_step
    refine wpStill_nil ?_
    change wpList _ _ _ _ _ w4.drew
    go_wp2_with fail
    obtain ⟨w5, e5⟩ : ∃ w5, w5 = (w4.setCell ⟨wb, 194 + L, none⟩ (.int .u64 ((withoutM (ms L) (b : Int) : Nat) : Int))).drew := ⟨_, rfl⟩
    obtain ⟨vs', ms', HD⟩ : ∃ vs' ms', Hid (WheelIs w5 wb mb vs' ms' wd base (setN f (L * 64 + b) ((f (L * 64 + b)).eraseIdx q)) K ∧ Moved w (wown wb mb vs) w5 (wown wb mb vs') ∧ Box w5 N x ∧ True) := by
      obtain ⟨r3, o3, l3, bX3⟩ := R3.out
      have B5' := (HB4.out.setMap hL (withoutM (ms L) (b : Int))).keep (w' := (w4.setCell ⟨wb, 194 + L, none⟩ (.int .u64 ((withoutM (ms L) (b : Int) : Nat) : Int))).drew) rfl
      rw [← e5] at B5'
      have B5 := B5'
      have ho5 : Only [wb] w3 w5 := by rw [e5]; exact (ho4.out.setCell (.inl (by simp)) _).drew
      obtain ⟨vs', ms', q1, q2⟩ := H2.out.1.done ((Only.refl [] w2).drew) hi r3 o3 l3 (by rw [hnil.out]; exact H2.out.1.tells.without_ hL hb) B5 ho5
      exact ⟨vs', ms', q1, (Moved.of_only H2.out.2.2).trans q2, bX3.only ho5 (by simpa using hNw), trivial⟩
    rw [← e5]
    clear e5
    have y0 := HD.out.2.2.1.c0
    have y1 := HD.out.2.2.1.c1
    have c2 := HD.out.1.blk.c2
    go_wp2_with fail
    go_still_tail 6, (by kernel_rfl)
    change wpList _ _ _ _ _ w5.drew
    refine wpList_del rfl (.tmp 61) (.tmp 63) rfl mb K x.i rfl rfl (HD.out.1.map.keep (w' := w5.drew) rfl) hx.2 ?_
    intro w6 m6 g6
    have R6 := Lib.hid (And.intro m6 g6)
    clear m6 g6
    go_wp2_with fail
    go_end0
    obtain ⟨q1, q2⟩ := (HD.out.1.only0 (Only.refl [] w5).drew).remap R6.out.1 R6.out.2
    first | exact ⟨rfl, vs', ms', q1, (HD.out.2.1.still (Only.refl [] w5).drew).trans q2⟩ | exact ⟨rfl, vs', ⟨ms', q1⟩, (HD.out.2.1.still (Only.refl [] w5).drew).trans q2⟩
  · have hn1' : ((n : Int) == 1) = false := beq_one hn1
    have hne : Hid (((f (L * 64 + b)).eraseIdx q).isEmpty = (f (L * 64 + b)).isEmpty) := erase_more hql (by rw [hn]; exact hn1)
    obtain ⟨w5, e5⟩ : ∃ w5, w4 = w5 := ⟨_, rfl⟩
    obtain ⟨vs', ms', HD⟩ : ∃ vs' ms', Hid (WheelIs w5 wb mb vs' ms' wd base (setN f (L * 64 + b) ((f (L * 64 + b)).eraseIdx q)) K ∧ Moved w (wown wb mb vs) w5 (wown wb mb vs') ∧ Box w5 N x ∧ True) := by
      obtain ⟨r3, o3, l3, bX3⟩ := R3.out
      rw [← e5]
      obtain ⟨vs', ms', q1, q2⟩ := H2.out.1.done ((Only.refl [] w2).drew) hi r3 o3 l3 (H2.out.1.tells.keep hne.out) HB4.out ho4.out
      exact ⟨vs', ms', q1, (Moved.of_only H2.out.2.2).trans q2, bX3.only ho4.out (by simpa using hNw), trivial⟩
    rw [e5]
    clear e5
    have y0 := HD.out.2.2.1.c0
    have y1 := HD.out.2.2.1.c1
    have c2 := HD.out.1.blk.c2
    go_wp2_with fail
    go_still_tail 6, (by kernel_rfl)
    change wpList _ _ _ _ _ w5.drew
    refine wpList_del rfl (.tmp 61) (.tmp 63) rfl mb K x.i rfl rfl (HD.out.1.map.keep (w' := w5.drew) rfl) hx.2 ?_
    intro w6 m6 g6
    have R6 := Lib.hid (And.intro m6 g6)
    clear m6 g6
    go_wp2_with fail
    go_end0
    obtain ⟨q1, q2⟩ := (HD.out.1.only0 (Only.refl [] w5).drew).remap R6.out.1 R6.out.2
    first | exact ⟨rfl, vs', ms', q1, (HD.out.2.1.still (Only.refl [] w5).drew).trans q2⟩ | exact ⟨rfl, vs', ⟨ms', q1⟩, (HD.out.2.1.still (Only.refl [] w5).drew).trans q2⟩
end Go.Proofs.YtfgffgicfieieaaDoor
