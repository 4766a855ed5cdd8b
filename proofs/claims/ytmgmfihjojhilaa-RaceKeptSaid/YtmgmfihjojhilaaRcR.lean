/-
  The statements' word long.
-/
import Derived.Test.YtmgmfihjojhilaaRcQ
import Derived.StillTailTactics
namespace Go.Proofs.Ytmgmfihjojhilaa
set_option maxRecDepth 100000
open Go.RowKit
set_option linter.unusedVariables false
set_option linter.unusedSimpArgs false
set_option maxRecDepth 100000

theorem modI_nat (v : Int) {n : Nat} (h : 0 < n) : ∃ q : Nat, modI v (n : Int) = (q : Int) ∧ q < n := by
  have h9 := modI_lt v (n := (n : Int)) (by omega)
  obtain ⟨q, hq⟩ := Int.eq_ofNat_of_zero_le h9.1
  exact ⟨q, hq, by omega⟩
set_option maxHeartbeats 4000000 in
theorem lLong (w : World) (A : Option Addr) (n c : Nat) (ds : Nat → Ev) (B : Option Addr) (t d : Nat) (z : Nat → Int) (h : InEvs w A n ds) (hz : InNums .i64 w B t z) :
    Calls Try.prog 11 #[.slice A n c, .slice B t d] w fun e w' => ∃ A2 p c2, e = .returned (.slice A2 p c2) ∧ p ≤ 40 ∧ ∃ xs, EFr w w' A2 p c2 xs := by
  have sm := Lib.hid (lSome w A n c ds 20 (by decide) h)
  have HZ := Lib.hid hz
  have md := Lib.hid (fun (v n : Int) (h : 0 < n) (hn : n ≤ 1000000) (w : World) => cMod v n h hn w)
  clear h hz
  go_enter Try.func11, Try.ntmps11
  go_wp2_with fail
  refine sm.out.mono ?_
  rintro e w1 ⟨A0, n0, c0, rfl, hn0, xs0, R0⟩
  have RR := Lib.hid R0
  clear sm R0
  obtain ⟨N, hN⟩ : ∃ N, (if n0 = 0 then 0 else min t 20) = N := ⟨_, rfl⟩
  have HN := Lib.hid hN
  have hNt : N ≤ t := by rw [← hN]; split <;> omega
  have hN20 : N ≤ 20 := by rw [← hN]; split <;> omega
  have hN0 : 0 < N → 0 < n0 := fun h9 => by rw [← hN] at h9; split at h9 <;> omega
  clear hN
  go_wp2_with fail
  go_loopg [5, 7] (N + 1) (fun gk sl si wr => ∃ (i : Nat) (A1 : Option Addr) (cap1 : Nat) (xs : List Ev), si = .int .i64 (i : Int) ∧ sl = .slice A1 (n0 + i) cap1 ∧ i ≤ N ∧ N + 1 ≤ gk + i ∧ Hid (EFr w wr A1 (n0 + i) cap1 xs))
  case atStart => exact ⟨0, A0, c0, xs0, rfl, rfl, by omega, by omega, RR.out⟩
  case round =>
    obtain ⟨i, A1, cap1, xs, rfl, rfl, hi, hg, R⟩ := hrel
    by_cases hil : i < N
    · have h1 : (i : Int) < (t : Int) := by omega
      have h2 : (i : Int) < 20 := by omega
      have hn0' : 0 < n0 := hN0 (by omega)
      have h3 : 0 < (n0 : Int) := by omega
      obtain ⟨_, ad, rfl, hb, hc⟩ := (HZ.out.only0 R.out.only) i (by omega)
      obtain ⟨q, hq, hqn⟩ := modI_nat (z i) hn0'
      have m1 := Lib.hid (md.out (z i) (n0 : Int) (by omega) (by omega) wr)
      rw [hq] at m1
      have hqp : q < n0 + i := by omega
      obtain ⟨g, rfl, x0, x1, x2, x3, x4⟩ := R.out.ev.at_ (k := q) (by rw [R.out.len]; exact hqp)
      have XO := Lib.hid (R.out.ok q _ (evs_get (by rw [R.out.len]; exact hqp)))
      clear hq
      generalize evs xs q = y at *
      generalize z i = zi at *
      have BX := EvAt.box wr y
      have BF : ∀ k, (wr.alloc (.cells #[.int .i64 y.who, .int .i64 y.kind, .int .i64 y.lc.k, .int .i64 y.lc.a, .int .i64 y.lc.b] 36)).frozen? ⟨wr.heap.size, k, none⟩ = false := fun k => by
        have h9 := heap_alloc_new wr (.cells #[.int .i64 y.who, .int .i64 y.kind, .int .i64 y.lc.k, .int .i64 y.lc.a, .int .i64 y.lc.b] 36)
        generalize wr.alloc (.cells #[.int .i64 y.who, .int .i64 y.kind, .int .i64 y.lc.k, .int .i64 y.lc.a, .int .i64 y.lc.b] 36) = X at *
        simp [World.frozen?, h9]
      have O0 : Hid (Only [] wr (wr.alloc (.cells #[.int .i64 y.who, .int .i64 y.kind, .int .i64 y.lc.k, .int .i64 y.lc.a, .int .i64 y.lc.b] 36))) := (Only.refl [] wr).alloc _
      have TC := Lib.hid hc
      go_upto_region 7 with (refine m1.out.mono ?_; rintro e w2 ⟨rfl, hv⟩; rw [hv]; clear hv)
      generalize wr.alloc (.cells #[.int .i64 y.who, .int .i64 y.kind, .int .i64 y.lc.k, .int .i64 y.lc.a, .int .i64 y.lc.b] 36) = W0 at *
      have HBX : Hid (w.heap.size ≤ wr.heap.size) := R.out.only.size
      have RB := Lib.hid (R.out.only0 O0.out)
      have RBl : Hid (∀ k, (Value.slice (some ⟨g, 0, none⟩) (n0 + i) cap1).ownBlock = some k → k < wr.heap.size) := fun k hk => R.out.row.lt hk
      have tc : W0.cell? (ad.add i) = some (.int .i64 zi) := (O0.out.cell hb (by simp)).trans TC.out
      have hbx : Hid ((ad.add i).block < wr.heap.size) := hb
      generalize wr.heap.size = bx at *
      obtain ⟨b0, b1, b2, b3, b4⟩ := BX
      simp only [Nat.zero_add] at b0 b1 b2 b3 b4
      have f0 := BF 0
      have f1 := BF 1
      clear BF x0 x1 x2 x3 x4 hb hc m1 R
      go_still_tail 10, (by kernel_rfl)
      still_call (md.out _ 4 (by decide) (by decide) _)
      repeat still_step
      refine wpStill_nil ?_
      change wpList _ _ _ _ _ W0.drew
      go_wp2_with fail
      obtain ⟨a1, ha1⟩ : ∃ a1, modI (wrap64 (y.who + zi.tmod 3)) 4 = a1 := ⟨_, rfl⟩
      have A1O : Hid (i64ok a1) := by rw [← ha1]; exact modI_ok _ (by decide) (by decide)
      rw [ha1]
      clear ha1
      have R3 : Hid (EFr w (W0.setCell ⟨bx, 0, none⟩ (.int .i64 a1)).drew (some ⟨g, 0, none⟩) (n0 + i) cap1 xs) := ⟨RB.out.row.only ((Only.refl [bx] W0).setCell (.inl (by simp)) _).drew (fun k hk => by have := RBl.out k hk; simp; omega), RB.out.len, RB.out.new, (RB.out.only.setCell (.inr HBX.out) _).drew, RB.out.ok⟩
      have oth : ∀ k v, k ≠ 0 → W0.cell? ⟨bx, k, none⟩ = some v → (W0.setCell ⟨bx, 0, none⟩ (.int .i64 a1)).drew.cell? ⟨bx, k, none⟩ = some v := fun k v hk hc => (World.cell?_setCell_other W0 _ _ _ (by intro e9; injection e9 with _ e9; omega)).trans hc
      have c0 : (W0.setCell ⟨bx, 0, none⟩ (.int .i64 a1)).drew.cell? ⟨bx, 0, none⟩ = some (.int .i64 a1) := World.cell?_setCell_same' W0 _ _ (by rw [b0]; rfl)
      have c1 := oth 1 _ (by decide) b1
      have c2 := oth 2 _ (by decide) b2
      have c3 := oth 3 _ (by decide) b3
      have c4 := oth 4 _ (by decide) b4
      have tc2 : (W0.setCell ⟨bx, 0, none⟩ (.int .i64 a1)).drew.cell? (ad.add i) = some (.int .i64 zi) := (World.cell?_setCell_other W0 _ _ _ (by intro e9; have := hbx.out; rw [← e9] at this; exact absurd this (by simp))).trans tc
      have g1 : (W0.setCell ⟨bx, 0, none⟩ (.int .i64 a1)).drew.frozen? ⟨bx, 1, none⟩ = false := (World.frozen?_setCell W0 _ _ _).trans f1
      clear oth b0 b1 b2 b3 b4 tc f0 f1 RB
      generalize (W0.setCell ⟨bx, 0, none⟩ (.int .i64 a1)).drew = W3 at *
      go_still_tail 11, (by kernel_rfl)
      still_call (md.out _ 6 (by decide) (by decide) _)
      repeat still_step
      refine wpStill_nil ?_
      change wpList _ _ _ _ _ W3.drew
      go_upto_region 9 with fail
      obtain ⟨a2, ha2⟩ : ∃ a2, wrap64 (1 + modI (wrap64 (y.kind + zi.tmod 5)) 6) = a2 := ⟨_, rfl⟩
      have A2O : Hid (i64ok a2) := by
        have h9 := modI_lt (wrap64 (y.kind + zi.tmod 5)) (n := 6) (by decide)
        rw [← ha2]
        exact i64_of (by unfold wrap64 at h9 ⊢; omega)
      rw [ha2]
      clear ha2
      have R5 : Hid (EFr w (W3.setCell ⟨bx, 1, none⟩ (.int .i64 a2)).drew (some ⟨g, 0, none⟩) (n0 + i) cap1 xs) := ⟨R3.out.row.only ((Only.refl [bx] W3).setCell (.inl (by simp)) _).drew (fun k hk => by have := RBl.out k hk; simp; omega), R3.out.len, R3.out.new, (R3.out.only.setCell (.inr HBX.out) _).drew, R3.out.ok⟩
      have oth : ∀ k v, k ≠ 1 → W3.cell? ⟨bx, k, none⟩ = some v → (W3.setCell ⟨bx, 1, none⟩ (.int .i64 a2)).drew.cell? ⟨bx, k, none⟩ = some v := fun k v hk hc => (World.cell?_setCell_other W3 _ _ _ (by intro e9; injection e9 with _ e9; omega)).trans hc
      have d1 : (W3.setCell ⟨bx, 1, none⟩ (.int .i64 a2)).drew.cell? ⟨bx, 1, none⟩ = some (.int .i64 a2) := World.cell?_setCell_same' W3 _ _ (by rw [c1]; rfl)
      have d0 := oth 0 _ (by decide) c0
      have d2 := oth 2 _ (by decide) c2
      have d3 := oth 3 _ (by decide) c3
      have d4 := oth 4 _ (by decide) c4
      have YO : Hid ((⟨a1, a2, y.lc⟩ : Ev).ok) := ⟨A1O.out, A2O.out, XO.out.2.2⟩
      clear oth c0 c1 c2 c3 c4 tc2 g1 R3
      generalize (W3.setCell ⟨bx, 1, none⟩ (.int .i64 a2)).drew = W5 at *
      go_wp2_with (first
        | (at_builtin
           refine wpList_appE rfl (.tmp 57) (.tmp 59) rfl (some ⟨g, 0, none⟩) (n0 + i) cap1 xs ⟨a1, a2, y.lc⟩ rfl rfl R5.out YO.out (by omega) ?_
           intro A5 c5 w5 h5
           have R6 := Lib.hid h5
           clear h5))
      go_roundg (N + 1 - (i + 1))
      case measure => omega
      case rel => exact ⟨i + 1, A5, c5, _, by simp, rfl, by omega, by omega, R6⟩
    · have F : Hid (n0 + i ≤ 40) := by show _ ≤ _; omega
      have hiN : i = N := by omega
      by_cases hn : n0 = 0
      · have h9 : N = 0 := by have := HN.out; rw [if_pos hn] at this; exact this.symm
        have hi0 : i = 0 := by omega
        subst hi0 hn
        clear hiN h9 HN hN0 hNt hN20
        by_cases ht : t = 0
        · subst ht
          go_wp2_with fail
          go_ret
          exact ⟨A1, _, cap1, rfl, F.out, xs, R.out⟩
        · have h1 : 0 < (t : Int) := by omega
          go_wp2_with fail
          go_ret
          exact ⟨A1, _, cap1, rfl, F.out, xs, R.out⟩
      · have h9 : N = min t 20 := by have := HN.out; rw [if_neg hn] at this; exact this.symm
        by_cases ht : i < t
        · have h1 : (i : Int) < (t : Int) := by omega
          have h2 : ¬ ((i : Int) < 20) := by omega
          have h3 : decide ((i : Int) < 20) = false := decide_eq_false h2
          clear hiN h9
          go_wp2_with fail
          go_ret
          exact ⟨A1, _, cap1, rfl, F.out, xs, R.out⟩
        · have h2 : ¬ ((i : Int) < (t : Int)) := by omega
          have h3 : decide ((i : Int) < (t : Int)) = false := decide_eq_false h2
          clear hiN h9
          go_wp2_with fail
          go_ret
          exact ⟨A1, _, cap1, rfl, F.out, xs, R.out⟩
end Go.Proofs.Ytmgmfihjojhilaa
