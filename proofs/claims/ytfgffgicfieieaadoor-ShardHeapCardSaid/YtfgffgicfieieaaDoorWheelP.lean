/-
  Contract of the wheel's put.
-/
import Derived.Test.YtfgffgicfieieaaDoorWheelK
namespace Go.Proofs.YtfgffgicfieieaaDoor
set_option maxRecDepth 100000
open Go.RowKit Go.ChangeMaps Go.MapKept
set_option linter.unusedVariables false
set_option linter.unusedSimpArgs false

set_option maxRecDepth 100000 in
set_option maxHeartbeats 4000000 in
/-- put: an item in reach is laid into its bucket. -/
theorem wPut (w : World) (wb mb wd : Nat) (vs : Nat → Value) (ms : Nat → Nat) (base : Int) (f : Nat → List It) (K : Int → Option Int) (h : WheelIs w wb mb vs ms wd base f K) (hwd : wd ≤ 40) (b0 : 0 ≤ base) (b1 : base ≤ 18446744073709551615)
    (x : It) (hx : x.ok) (hr : reach wd base x.k) (hf : Rises (f (pl wd base x))) (hl : (f (pl wd base x)).length ≤ 1000000) :
    Calls Tryd.prog 59 #[.pointer (some ⟨wb, 0, none⟩), .agg #[.int .u64 x.k, .int .i64 x.i]] w fun e w' => e = .returned (.tuple #[]) ∧
      ∃ vs' ms', WheelIs w' wb mb vs' ms' wd base (setN f (pl wd base x) (ins x (f (pl wd base x)))) K ∧ Moved w (wown wb mb vs) w' (wown wb mb vs') := by
  have kk : 0 ≤ x.k ∧ x.k ≤ 18446744073709551615 := by
    have := hx.1
    simp [Lit.wf, IntKind.min, IntKind.max, IntKind.signed, IntKind.bits] at this
    omega
  obtain ⟨L, hL, eL, b, hb, eb, ep⟩ := pos_is hr
  have hbw : bkW wd base x.k = (b : Int) := by
    unfold bkW
    rw [if_pos (reach_iff.1 hr), eL, Int.toNat_natCast, eb]
  have hp : pl wd base x = L * 64 + b := ep
  rw [hp] at hf hl ⊢
  have hi : L * 64 + b < 192 := by omega
  have oA : Only [] w (w.alloc (.cells #[.int .u64 x.k, .int .i64 x.i] 35)) := (Only.refl [] w).alloc _
  have bX : Box _ w.heap.size x := Box.new w x
  have hwh := where_any _ wb wd mb base vs ms (h.blk.keep (oA.block wb h.blk.lt (by simp))) hwd x.k b0 b1 kk.1 kk.2
  rw [eL, hbw] at hwh
  have H := Lib.hid h
  have HA := Lib.hid oA
  have HX := Lib.hid bX
  have hwb := h.blk.lt
  have HO : Hid (∀ b' ∈ wown wb mb vs, b' < w.heap.size) := h.lt
  clear h oA bX
  go_enter Tryd.func59, Tryd.ntmps59
  go_wp2_with fail
  refine hwh.mono ?_
  rintro e w1 ⟨rfl, o1⟩
  clear hwh
  have h1 := H.out.only0 (HA.out.trans' o1)
  have bX1 := HX.out.only o1 (by simp)
  have c0 := bX1.c0
  have c1 := bX1.c1
  have cl : w1.cell? ⟨wb, 2 + L * 64 + b, none⟩ = some (vs (L * 64 + b)) := by rw [Nat.add_assoc]; exact h1.blk.list hi
  have hL' : (L : Int) < 3 := by omega
  have hb' : (b : Int) < 64 := by omega
  have hse := search_any w1 (vs (L * 64 + b)) (f (L * 64 + b)) (h1.rows _ hi) hf x hl
  have H1 := Lib.hid (And.intro h1 (And.intro bX1 (HA.out.trans' o1)))
  have hatl := at_le (f (L * 64 + b)) x
  clear h1 bX1 o1 H HA HX
  obtain ⟨N, eN⟩ : ∃ N, w.heap.size = N := ⟨_, rfl⟩
  rw [eN] at c0 c1 H1 hwb HO ⊢
  generalize hq : at_ (f (L * 64 + b)) x = q at *
  go_wp2_with fail
  refine hse.mono ?_
  rintro e w2 ⟨⟨fd, rfl⟩, o2⟩
  obtain ⟨h1, bX1, oW1⟩ := H1.out
  have h2 := h1.only0 o2
  have bX2 := bX1.only o2 (by simp)
  have d0 := bX2.c0
  have d1 := bX2.c1
  have fr2 := h2.blk.fr (2 + L * 64 + b)
  have hins : Hid (∀ W vb, Only [] w2 W → w2.heap.size ≤ vb → Box W vb x → Calls Tryd.prog 75 #[vs (L * 64 + b), .int .i64 (q : Int), .slice (some ⟨vb, 0, none⟩) 1 1] W (Put W (vs (L * 64 + b)) (ins x (f (L * 64 + b))))) := fun W vb oW hvb hB => by
    have h3 := (h2.only0 oW).rows _ hi
    have := insert_any W _ _ h3 vb x hB (fun e => by have := (h2.rows _ hi).lt e; omega) q hatl hl
    rw [← hq, ins_at, hq] at this
    exact this
  have H2 := Lib.hid (And.intro h2 (And.intro bX2 (oW1.trans' o2)))
  clear h1 bX1 oW1 H1 h2 bX2 hse o2 c0 c1 cl hq
  go_wp2_with fail
  have hN1 : N ≠ w2.heap.size := by have := H2.out.2.1.lt; omega
  have hNp : N ∉ (vs (L * 64 + b)).ownBlock.toList := fun hm => by
    have := HO.out N (mem_wown.2 (.inr (.inr ⟨_, hi, Option.mem_toList.1 hm⟩)))
    omega
  go_region_held3 (fun w' => w'.cell? ⟨N, 0, none⟩ = some (.int .u64 x.k) ∧ w'.cell? ⟨N, 1, none⟩ = some (.int .i64 x.i))
    (first | go_keep | (exact ⟨k0, k1⟩) | (exact ⟨k2 _ _, k3 _ _⟩))
    (first | (go_at_call 75; refine (hins.out _ _ (by first | exact (Only.refl [] w2).drew.alloc _ | exact ((Only.refl [] w2).alloc _).drew) (Nat.le_refl _) (by exact Box.new w2 x)).mono ?_; rintro e w3 ⟨v', rfl, r3, o3, l3⟩; obtain ⟨A3, cap3, rfl⟩ := r3.form; have B3 := H2.out.1.mid (by first | exact (Only.refl [] w2).drew.alloc _ | exact ((Only.refl [] w2).alloc _).drew) hi o3; have cl3 : w3.cell? ⟨wb, 2 + L * 64 + b, none⟩ = some (vs (L * 64 + b)) := (by rw [Nat.add_assoc]; exact B3.list hi); have fr3 := B3.fr (2 + L * 64 + b); have bX3 : Box w3 N x := (H2.out.2.1.only (show Only [] w2 _ from (by first | exact (Only.refl [] w2).drew.alloc _ | exact ((Only.refl [] w2).alloc _).drew)) (by simp)).only o3 hNp; have k0 := bX3.c0; have k1 := bX3.c1; have k2 : ∀ (j : Nat) (u : Value), (w3.setCell ⟨wb, j, none⟩ u).cell? ⟨N, 0, none⟩ = some (.int .u64 x.k) := (fun j u => (((Only.refl [wb] w3).setCell (.inl (by simp)) u).cell (p := ⟨N, 0, none⟩) bX3.lt (by simp; omega)).trans k0); have k3 : ∀ (j : Nat) (u : Value), (w3.setCell ⟨wb, j, none⟩ u).cell? ⟨N, 1, none⟩ = some (.int .i64 x.i) := (fun j u => (((Only.refl [wb] w3).setCell (.inl (by simp)) u).cell (p := ⟨N, 1, none⟩) bX3.lt (by simp; omega)).trans k1); have R3 := Lib.hid (And.intro r3 (And.intro o3 l3)); have HB3 := Lib.hid B3; clear B3 bX3 r3 o3 l3))
  clear k0 k1 k2 k3 cl3 fr3
  have B4 := HB3.out.setList hi (.slice A3 (ins x (f (L * 64 + b))).length cap3)
  rw [← Nat.add_assoc] at B4
  have hms := (H2.out.1.tells L hL).1
  have m0 := B4.bmap hL
  have fm := B4.fr (194 + L)
  have hwt := fun W => with_any (ms L) (b : Int) W hms
  have HB4 := Lib.hid B4
  have ho4 : Hid (Only [wb] w3 (w3.setCell ⟨wb, 2 + L * 64 + b, none⟩ (.slice A3 (ins x (f (L * 64 + b))).length cap3))) := (Only.refl [wb] w3).setCell (.inl (by simp)) _
  clear B4
  generalize w3.setCell ⟨wb, 2 + L * 64 + b, none⟩ (.slice A3 (ins x (f (L * 64 + b))).length cap3) = w4 at *
  go_wp2_with fail
  go_still_tail 13, (by kernel_rfl)
  still_call ((hwt _).mono fun _ _ q => ⟨q.1, q.2.symm⟩)
  repeat still_step
  refine wpStill_nil ?_
  change wpList _ _ _ _ _ w4.drew
  go_wp2_with fail
  go_end0
  obtain ⟨r3, o3, l3⟩ := R3.out
  have B5 := (HB4.out.keep (w' := w4.drew) rfl).setMap hL (withM (ms L) (b : Int))
  obtain ⟨vs', ms', q1, q2⟩ := H2.out.1.done (by first | exact (Only.refl [] w2).drew.alloc _ | exact ((Only.refl [] w2).alloc _).drew) hi r3 o3 l3 (H2.out.1.tells.with_ hL hb (ins_ne _ _)) B5 (ho4.out.drew.setCell (.inl (by simp)) _)
  exact ⟨rfl, vs', ms', q1, (Moved.of_only H2.out.2.2).trans q2⟩
end Go.Proofs.YtfgffgicfieieaaDoor
