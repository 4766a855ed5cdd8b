/-
  Plain and Spoil at ints; looks.
-/
import Derived.Test.YtjmnklmomdfpfaaSfqHA
namespace Go.Proofs.Ytjmnklmomdfpfaa
set_option maxRecDepth 100000
open Go.RowKit
set_option linter.unusedVariables false
set_option linter.unusedSimpArgs false
set_option maxRecDepth 100000

theorem irow_at {w : World} {A : Option Addr} {m cap : Nat} {xs : List Int} (h : iE.Row w (.slice A m cap) xs) : ∀ W, Only [] w W → ∀ k x, xs[k]? = some x → ∃ g, A = some ⟨g, 0, none⟩ ∧ W.cell? ⟨g, k, none⟩ = some (.int .i64 x) := by
  intro W hW k x hx
  obtain ⟨g, e1, _, hc⟩ := (h.only0 hW).cell (k := k) (x := x) hx
  subst e1
  have h0 := (hc 0 _ rfl).1
  simp only [Nat.mul_one, Nat.add_zero] at h0
  exact ⟨g, rfl, h0⟩
theorem ieq_any (x y : Int) (w : World) : Calls Try.prog 63 #[.int .i64 x, .int .i64 y] w fun e w' => e = .returned (.bool (x == y)) ∧ w' = w := by
  go_enter Try.func63, Try.ntmps63
  go_wp2
  go_ret
  exact ⟨rfl, rfl⟩
set_option maxHeartbeats 1000000 in
theorem iSame (w : World) (A A' : Option Addr) (n c c' : Nat) (l : List Int) (hn : l.length = n) (hm : n ≤ 1000000) (h : iE.Row w (.slice A n c) l) (h' : iE.Row w (.slice A' n c') l) :
    Calls Try.prog 62 #[.slice A n c, .slice A' n c', .func (.func 63) #[] #[]] w fun e w' => e = .returned (.bool true) ∧ Only [] w w' := by
  have R1 := Lib.hid (irow_at h)
  have R2 := Lib.hid (irow_at h')
  have hget : Hid (∀ k : Nat, k < n → ∃ x, l[k]? = some x) := fun k hk => ⟨_, List.getElem?_eq_getElem (by omega)⟩
  clear h h' hn
  go_enter Try.func62, Try.ntmps62
  go_wp2_with fail
  go_loopg [7] (n + 1) (fun gk si wr => ∃ k : Nat, si = .int .i64 (k : Int) ∧ k ≤ n ∧ n + 1 ≤ gk + k ∧ Hid (Only [] w wr))
  case atStart => exact ⟨0, rfl, by omega, by omega, Only.refl [] w⟩
  case round =>
    obtain ⟨k, rfl, hk, hg, O⟩ := hrel
    by_cases hlt : k < n
    · have hlt' : (k : Int) < (n : Int) := by omega
      obtain ⟨x, hx⟩ := hget.out k hlt
      obtain ⟨g, rfl, c1⟩ := R1.out wr O.out k x hx
      obtain ⟨g', rfl, c2⟩ := R2.out wr O.out k x hx
      clear hx
      go_wp2_with fail
      go_quiet (first | (go_at_call 63; exact Calls.quiet_of_same (ieq_any _ _ _)))
      have O5 : Hid (Only [] w (wr.drewN nq)) := O.out.drewN nq
      generalize wr.drewN nq = w5 at *
      go_wp2_with fail
      go_roundg (n + 1 - (k + 1))
      case measure => omega
      case rel => exact ⟨k + 1, by simp, by omega, by omega, O5⟩
    · have hpl' : decide ((k : Int) < (n : Int)) = false := decide_eq_false (by omega)
      have hpl'' : ¬ ((k : Int) < (n : Int)) := by omega
      go_wp2_with fail
      go_ret
      exact ⟨rfl, O.out⟩
theorem iPlain (w : World) (A A' : Option Addr) (n c c' : Nat) (l : List Int) (hn : l.length = n) (hm : n ≤ 1000000) (h : iE.Row w (.slice A n c) l) (h' : iE.Row w (.slice A' n c') l) :
    Calls Try.prog 37 #[.slice A n c, .slice A' n c'] w fun e w' => e = .returned (.bool true) ∧ Only [] w w' := by
  have hs := iSame w A A' n c c' l hn hm h h'
  clear h h'
  go_enter Try.func37, Try.ntmps37
  go_wp2_with fail
  refine hs.mono ?_
  rintro e w2 ⟨rfl, o2⟩
  go_wp2_with fail
  go_ret
  exact ⟨rfl, o2⟩
set_option maxHeartbeats 1000000 in
/-- Spoil: the row alone turns. -/
theorem iSpoil (w : World) (A : Option Addr) (n c : Nat) (l : List Int) (hn : l.length = n) (hm : n ≤ 1000000) (h : iE.Row w (.slice A n c) l) :
    Calls Try.prog 28 #[.slice A n c] w fun e w' => e = .returned (.tuple #[]) ∧ Only (Value.slice A n c).ownBlock.toList w w' := by
  have H := Lib.hid (And.intro h hn)
  clear h hn
  go_enter Try.func28, Try.ntmps28
  go_wp2_with fail
  go_loopg [3] (n + 1) (fun gk si wr => ∃ (p : Nat) (bs : List Int), si = .int .i64 (p : Int) ∧ p ≤ n ∧ n + 1 ≤ gk + p ∧ Hid (iE.Row wr (.slice A n c) bs ∧ bs.length = n ∧ Only (Value.slice A n c).ownBlock.toList w wr))
  case atStart => exact ⟨0, l, rfl, by omega, by omega, H.out.1, H.out.2, Only.refl _ w⟩
  case round =>
    obtain ⟨p, bs, rfl, hp, hg, R⟩ := hrel
    by_cases hpl : p < n
    · have hpl' : (p : Int) < (n : Int) := by omega
      obtain ⟨x, hx⟩ : ∃ x, bs[p]? = some x := ⟨_, List.getElem?_eq_getElem (by rw [R.out.2.1]; exact hpl)⟩
      obtain ⟨g, rfl, _, hc⟩ := R.out.1.cell hx
      obtain ⟨y0, yf0⟩ := hc 0 _ rfl
      simp only [Nat.mul_one, Nat.add_zero] at y0 yf0
      clear hc hx
      go_wp2_with fail
      go_roundg (n + 1 - (p + 1))
      case measure => omega
      case rel =>
        obtain ⟨r1, r2, r4⟩ := R.out
        exact ⟨p + 1, bs.set p 0, by simp, by omega, by omega, r1.store1 p 0 _ rfl, by simpa using r2, r4.setCell (.inl (by simp [Value.ownBlock])) _⟩
    · have hpl' : decide ((p : Int) < (n : Int)) = false := decide_eq_false (by omega)
      have hpl'' : ¬ ((p : Int) < (n : Int)) := by omega
      go_wp2_with fail
      go_end0
      exact ⟨rfl, R.out.2.2⟩

/-! ### looks -/
def LK (w : World) (b c : Nat) (S : Sq) (O P : List Nat) (W : World) : Prop := Dq W b c S O P ∧ Only [] w W
theorem LK.on {w W U : World} {b c : Nat} {S : Sq} {O P : List Nat} (h : LK w b c S O P W) (ho : Only [] W U) : LK w b c S O P U := ⟨h.1.only0 ho, h.2.trans' ho⟩
theorem LK.c {w W : World} {b c : Nat} {S : Sq} {O P : List Nat} (h : LK w b c S O P W) : W.cell? ⟨c, 1, none⟩ = some (.int .u64 S.v) ∧ W.cell? ⟨c, 2, none⟩ = some (.int .u64 S.m) := by
  obtain ⟨u, es, h1, _⟩ := h.1.rf
  exact ⟨h1.blk.c.2.1, h1.blk.c.2.2⟩
theorem starts_len {S : Sq} (h : S.ok) : (startsK S.l).length ≤ 1000 := by
  rw [(startsK_perm S.l).length_eq]
  unfold itemsK
  rw [List.length_map]
  exact Nat.le_trans (List.length_filter_le _ _) h.len
set_option maxHeartbeats 4000000 in
theorem sLooks (w : World) (b c : Nat) (S : Sq) (O P : List Nat) (h : Dq w b c S O P) :
    Calls Try.prog 14 #[.pointer (some ⟨b, 0, none⟩), .pointer (some ⟨c, 0, none⟩)] w fun e w' => e = .returned (.bool true) ∧ Only [] w w' := by
  have hls := starts_len h.fl.ok
  have hli : (idsK S.l).length ≤ 1000 := by unfold idsK; rw [List.length_map]; exact h.fl.ok.len
  have v1 : (S.v == S.v) = true := by simp
  have m1 : (S.m == S.m) = true := by simp
  have st0 : LK w b c S O P w := ⟨h, Only.refl _ _⟩
  obtain ⟨c1, c2⟩ := st0.c
  have st : Hid (LK w b c S O P w.drew) := st0.on (Only.refl [] w).drew
  have kP : Hid (∀ W v1 v2, RowIs W v1 (startsK S.l) → RowIs W v2 (startsK S.l) → Calls Try.prog 35 #[v1, v2] W fun e w' => e = .returned (.bool true) ∧ Only [] W w') := fun W v1 v2 h1 h2 => by
    have := hPlain W v1 v2 _ _ h1 h2 (by omega) (by omega)
    simpa using this
  have kI : Hid (∀ W A A' c c', iE.Row W (.slice A (idsK S.l).length c) (idsK S.l) → iE.Row W (.slice A' (idsK S.l).length c') (idsK S.l) → Calls Try.prog 37 #[.slice A (idsK S.l).length c, .slice A' (idsK S.l).length c'] W fun e w' => e = .returned (.bool true) ∧ Only [] W w') := fun W A A' c c' h1 h2 => iPlain W A A' _ c c' _ rfl (by omega) h1 h2
  have kF : Hid (∀ W, RqOf W c S P → Calls Try.prog 38 #[.pointer (some ⟨c, 0, none⟩)] W fun e w' => ∃ A cap, e = .returned (.slice A (idsK S.l).length cap) ∧ iE.Row w' (.slice A (idsK S.l).length cap) (idsK S.l) ∧ (∀ k, (Value.slice A (idsK S.l).length cap).ownBlock = some k → W.heap.size ≤ k) ∧ Only [] W w') := fun W hW => zFlows W c S P hW
  clear h st0
  go_enter Try.func14, Try.ntmps14
  go_wp2_with fail
  go_region_held3 (fun w' => w'.cell? ⟨c, 1, none⟩ = some (.int .u64 S.v) ∧ w'.cell? ⟨c, 2, none⟩ = some (.int .u64 S.m))
    (first | (exact st.out.c) | go_keep)
    (first
      | (go_at_call 15; refine (sV _ b S O st.out.1.fl).mono ?_; rintro e u ⟨rfl, rfl⟩)
      | (go_at_call 16; refine (sMost _ b S O st.out.1.fl).mono ?_; rintro e u ⟨rfl, rfl⟩)
      | (go_at_call 17; refine (sStarts _ b S O st.out.1.fl).mono ?_; rintro e u ⟨A1, k1, rfl, r1, _, o1⟩; have st := Lib.hid (st.out.on o1); have r1 := Lib.hid r1; clear o1)
      | (go_at_call 36; refine (zStarts _ c S P st.out.1.rf).mono ?_; rintro e u ⟨A2, k2, rfl, r2, _, o2⟩; have st := Lib.hid (st.out.on o2); have r1 := Lib.hid (r1.out.keep (fun g hg => o2.block g (r1.out.lt hg) (by simp))); have r2 := Lib.hid r2; clear o2)
      | (go_at_call 35; refine (kP.out _ _ _ r1.out r2.out).mono ?_; rintro e u ⟨rfl, o3⟩; have st := Lib.hid (st.out.on o3); clear o3)
      | (go_at_call 29; refine (sFlows _ b S O st.out.1.fl).mono ?_; rintro e u ⟨A4, k4, rfl, r4, _, o4⟩; have st := Lib.hid (st.out.on o4); have r4 := Lib.hid r4; clear o4)
      | (go_at_call 38; refine (kF.out _ st.out.1.rf).mono ?_; rintro e u ⟨A5, k5, rfl, r5, _, o5⟩; have st := Lib.hid (st.out.on o5); have r4 := Lib.hid (r4.out.only0 o5); have r5 := Lib.hid r5; clear o5)
      | (go_at_call 37; refine (kI.out _ _ _ _ _ r4.out r5.out).mono ?_; rintro e u ⟨rfl, o6⟩; have st := Lib.hid (st.out.on o6); clear o6))
  all_goals
    go_wp2_with fail
    go_ret
    exact ⟨rfl, st.out.2⟩
end Go.Proofs.Ytjmnklmomdfpfaa
