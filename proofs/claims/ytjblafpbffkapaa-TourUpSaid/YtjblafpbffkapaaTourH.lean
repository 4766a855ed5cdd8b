/-
  What the statements' words do to a tournament and the document's: Mod, leaf, made, won.
-/
import Derived.Test.YtjblafpbffkapaaTourS
import Derived.Test.YtjblafpbffkapaaTourD
namespace Go.Proofs.Ytjblafpbffkapaa
set_option maxRecDepth 100000
open Go.RowKit Go.ChangeMaps Go.MapKept
set_option linter.unusedVariables false
set_option linter.unusedSimpArgs false

/-- Both hold the same, and have nothing in common. -/
structure Pairs (w : World) (tb ib nb xb hb yb n : Nat) (hs : Nat → Bool) (g : Nat → It) : Prop where
  ours : TourOf w tb ib nb n hs g
  ref : RefTour w xb hb yb n hs g
  ap : ∀ b ∈ [tb, ib, nb], b ∉ [xb, hb, yb]
section
variable {w w' : World} {tb ib nb xb hb yb n : Nat} {hs : Nat → Bool} {g : Nat → It}
theorem Pairs.only {S : List Nat} (h : Pairs w tb ib nb xb hb yb n hs g) (ho : Only S w w') (hS : ∀ b ∈ [tb, ib, nb, xb, hb, yb], b ∉ S) : Pairs w' tb ib nb xb hb yb n hs g :=
  ⟨h.ours.only ho (fun b hb => hS b (by simp at hb ⊢; rcases hb with h | h | h <;> simp [h])), h.ref.only ho (fun b hb => hS b (by simp at hb ⊢; rcases hb with h | h | h <;> simp [h])), h.ap⟩
theorem Pairs.only0 (h : Pairs w tb ib nb xb hb yb n hs g) (ho : Only [] w w') : Pairs w' tb ib nb xb hb yb n hs g := h.only ho (by simp)
theorem Pairs.lt (h : Pairs w tb ib nb xb hb yb n hs g) : ∀ b ∈ [tb, ib, nb, xb, hb, yb], b < w.heap.size := by
  intro b hb
  have h1 := h.ours.lt
  have h2 := h.ref.lt
  simp at h1 h2 hb
  rcases hb with h | h | h | h | h | h <;> subst h <;> simp [h1, h2]
theorem Pairs.n16 (h : Pairs w tb ib nb xb hb yb n hs g) : 1 ≤ n ∧ n ≤ 16 := by
  obtain ⟨_, _, h1, _⟩ := h.ours
  exact ⟨h1.n1, h1.n16⟩
theorem RefTour.unset (h : RefTour w xb hb yb n hs g) {q : Nat} (hq : q < n) : RefTour (w.setCell ⟨hb, q, none⟩ (.bool false)) xb hb yb n (fup hs q false) g := by
  obtain ⟨bs, ys, h1, h2, h3⟩ := h
  refine ⟨_, ys, h1.setHas q false, fun i hi => ?_, fun i hi hb => ?_⟩
  · rw [bOf_set bs q false (by rw [h1.blen]; exact hq)]
    by_cases e : i = q
    · rw [e, fup_same, fup_same]
    · rw [fup_other _ _ e, fup_other _ _ e]; exact h2 i hi
  · by_cases e : i = q
    · rw [e, fup_same] at hb; cases hb
    · rw [fup_other _ _ e] at hb; exact h3 i hi hb
theorem RefTour.put (h : RefTour w xb hb yb n hs g) {q : Nat} (hq : q < n) (x : It) : RefTour (((w.setCell ⟨hb, q, none⟩ (.bool true)).setCell ⟨yb, q * 2, none⟩ (.int .u64 x.k)).setCell ⟨yb, q * 2 + 1, none⟩ (.int .i64 x.i)) xb hb yb n (fup hs q true) (fup g q x) := by
  obtain ⟨bs, ys, h1, h2, h3⟩ := h
  refine ⟨_, _, (h1.setHas q true).setItem q x, fun i hi => ?_, fun i hi hb => ?_⟩
  · rw [bOf_set bs q true (by rw [h1.blen]; exact hq)]
    by_cases e : i = q
    · rw [e, fup_same, fup_same]
    · rw [fup_other _ _ e, fup_other _ _ e]; exact h2 i hi
  · rw [gOf_fup ys q x (by rw [h1.len]; exact hq)]
    by_cases e : i = q
    · rw [e, fup_same, fup_same]
    · rw [fup_other _ _ e] at hb ⊢
      rw [fup_other _ _ e]
      exact h3 i hi hb
end

theorem tModN (v : Int) (n : Nat) (h : 0 < n) (hn : n ≤ 1000000) : ∃ m : Nat, m < n ∧ ∀ w, Calls Try.prog 21 #[.int .i64 v, .int .i64 (n : Int)] w fun e w' => e = .returned (.int .i64 (m : Int)) ∧ w' = w := by
  obtain ⟨x, h0, hx, ex⟩ := rem_is v (n : Int) (by omega)
  obtain ⟨m, rfl⟩ : ∃ m : Nat, x = (m : Int) := ⟨x.toNat, by omega⟩
  refine ⟨m, by omega, fun w => ?_⟩
  have hm : m < n := by omega
  have hw : wrap64 (m : Int) = (m : Int) := by unfold wrap64; omega
  have hne' : ¬ ((n : Int) = 0) := by omega
  go_enter Try.func21, Try.ntmps21
  go_wp2
  go_ret
  exact ⟨by simp [ex, hw], rfl⟩

set_option maxRecDepth 100000 in
set_option maxHeartbeats 400000 in
theorem tLeaf (d : Dd) (n : Nat) (hn : n ≤ 16) : ∃ L : Int, ∀ w, Calls Try.prog 23 #[.agg #[.int .i64 d.a, .int .u64 d.b, .int .i64 d.c], .int .i64 (n : Int)] w fun e w' => e = .returned (.int .i64 L) ∧ Only [] w w' := by
  obtain ⟨q, hq, m1⟩ := tModN d.c 15 (by omega) (by omega)
  change ∀ w, Calls _ _ #[.int .i64 d.c, .int .i64 15] w _ at m1
  obtain ⟨N, eN⟩ : ∃ N, N = n + 1 := ⟨_, rfl⟩
  obtain ⟨a, ha, m2⟩ := tModN d.c N (by omega) (by omega)
  obtain ⟨b, hb, m3⟩ := tModN d.a 37 (by omega) (by omega)
  change ∀ w, Calls _ _ #[.int .i64 d.a, .int .i64 37] w _ at m3
  have hN : IntKind.i64.wrap ((n : Int) + 1) = (N : Int) := by rw [IntWalk.i64_in _ (by omega)]; omega
  clear eN
  by_cases h : q = 14
  · subst h
    refine ⟨d.c, fun w => ?_⟩
    go_enter Try.func23, Try.ntmps23
    go_wp2_with fail
    refine (m1 _).mono ?_
    rintro e w1 ⟨rfl, rfl⟩
    go_wp2_with fail
    go_ret
    exact ⟨rfl, (Only.refl _ _).alloc _⟩
  · have h' : ((q : Int) == 14) = false := by simp; omega
    clear h
    refine ⟨wrap64 ((a : Int) - (b : Int) / 36), fun w => ?_⟩
    have o1 : Only [] w (w.alloc (.cells #[.int .i64 d.a, .int .u64 d.b, .int .i64 d.c] 37)) := (Only.refl [] w).alloc _
    go_enter Try.func23, Try.ntmps23
    go_wp2_with fail
    refine (m1 _).mono ?_
    rintro e w1 ⟨rfl, rfl⟩
    go_wp2_with fail
    go_quiet (first | (go_at_call 21; with_reducible exact Calls.quiet_of_same (m2 _)) | (go_at_call 21; with_reducible exact Calls.quiet_of_same (m3 _)))
    go_wp2_with fail
    go_ret
    exact ⟨rfl, o1.drewN _⟩

theorem tMade (a : Int) (w : World) : Calls Try.prog 9 #[.int .i64 a] w fun e w' => ∃ tb xb, e = .returned (.tuple #[.pointer (some ⟨tb, 0, none⟩), .pointer (some ⟨xb, 0, none⟩)]) ∧ ∃ ib nb hb yb n, Pairs w' tb ib nb xb hb yb n (fun _ => false) (fun _ => ⟨0, 0⟩) ∧ (∀ b ∈ [tb, ib, nb, xb, hb, yb], w.heap.size ≤ b) ∧ Only [] w w' := by
  obtain ⟨q, hq, m1⟩ := tModN a 5 (by omega) (by omega)
  obtain ⟨r, hr, m2⟩ := tModN a 19 (by omega) (by omega)
  change ∀ w, Calls _ _ #[.int .i64 a, .int .i64 5] w _ at m1
  change ∀ w, Calls _ _ #[.int .i64 a, .int .i64 19] w _ at m2
  have fin : Hid (∀ (z : Int) (w1 w2 : World) (tb ib nb xb hb yb : Nat), TourOf w1 tb ib nb (clampM z) (fun _ => false) (fun _ => ⟨0, 0⟩) → (∀ b ∈ [tb, ib, nb], w.heap.size ≤ b) → Only [] w w1 → RefTour w2 xb hb yb (clampM z) (fun _ => false) (fun _ => ⟨0, 0⟩) → (∀ b ∈ [xb, hb, yb], w1.heap.size ≤ b) → Only [] w1 w2 →
      ∃ ib nb hb yb n, Pairs w2 tb ib nb xb hb yb n (fun _ => false) (fun _ => ⟨0, 0⟩) ∧ (∀ b ∈ [tb, ib, nb, xb, hb, yb], w.heap.size ≤ b) ∧ Only [] w w2) := fun z w1 w2 tb ib nb xb hb yb h1 h2 h3 h4 h5 h6 => by
    refine ⟨ib, nb, hb, yb, _, ⟨h1.only0 h6, h4, fun b hb hc => ?_⟩, ?_, h3.trans' h6⟩
    · have := h1.lt b hb
      have := h5 b hc
      omega
    · have := h3.size
      simp at h2 h5 ⊢
      omega
  by_cases h0 : q = 0
  · subst h0
    go_enter Try.func9, Try.ntmps9
    go_wp2_with fail
    refine (m1 _).mono ?_
    rintro e w1 ⟨rfl, rfl⟩
    go_wp2_with fail
    refine (tNew _ a).mono ?_
    rintro e w1 ⟨tb, rfl, ib, nb, h1, h2, h3⟩
    have R1 := Lib.hid (And.intro h1 (And.intro h2 h3))
    clear h1 h2 h3
    go_wp2_with fail
    refine (rNew _ a).mono ?_
    rintro e w2 ⟨xb, rfl, hb, yb, h4, h5, h6⟩
    have R2 := Lib.hid (And.intro h4 (And.intro h5 h6))
    clear h4 h5 h6
    go_wp2_with fail
    go_ret2
    exact ⟨tb, xb, rfl, fin.out a w1 w2 tb ib nb xb hb yb R1.out.1 R1.out.2.1 R1.out.2.2 R2.out.1 R2.out.2.1 R2.out.2.2⟩
  · have h0' : (0 : Int) < (q : Int) := by omega
    go_enter Try.func9, Try.ntmps9
    go_wp2_with fail
    refine (m1 _).mono ?_
    rintro e w1 ⟨rfl, rfl⟩
    go_wp2_with fail
    refine (m2 _).mono ?_
    rintro e w1 ⟨rfl, rfl⟩
    go_wp2_with fail
    refine (tNew _ (r : Int)).mono ?_
    rintro e w1 ⟨tb, rfl, ib, nb, h1, h2, h3⟩
    have R1 := Lib.hid (And.intro h1 (And.intro h2 h3))
    clear h1 h2 h3
    go_wp2_with fail
    refine (rNew _ (r : Int)).mono ?_
    rintro e w2 ⟨xb, rfl, hb, yb, h4, h5, h6⟩
    have R2 := Lib.hid (And.intro h4 (And.intro h5 h6))
    clear h4 h5 h6
    go_wp2_with fail
    go_ret2
    exact ⟨tb, xb, rfl, fin.out (r : Int) w1 w2 tb ib nb xb hb yb R1.out.1 R1.out.2.1 R1.out.2.2 R2.out.1 R2.out.2.1 R2.out.2.2⟩

set_option maxRecDepth 100000 in
set_option maxHeartbeats 1000000 in
theorem tWon (w : World) (tb ib nb xb hb yb n : Nat) (hs : Nat → Bool) (g : Nat → It) (h : Pairs w tb ib nb xb hb yb n hs g) :
    Calls Try.prog 12 #[.pointer (some ⟨tb, 0, none⟩), .pointer (some ⟨xb, 0, none⟩)] w fun e w' => e = .returned (.bool true) ∧ Only [] w w' := by
  have hw := tWin w tb ib nb n hs g h.ours
  have hr : Hid (∀ W, Only [] w W → Calls Try.prog 15 #[.pointer (some ⟨xb, 0, none⟩), .int .i64 1] W fun e w' => e = .returned (.int .i64 (nodeM n hs g 1)) ∧ Only [] W w') := fun W o => rNode W xb hb yb n hs g (h.ref.only0 o) 1 (i64ok_of (by omega))
  have hrg := nodeM_range n hs g 1
  have hg := item_guard
  generalize hk : nodeM n hs g 1 = k at *
  rcases hrg with rfl | ⟨q, hq, hb1, rfl⟩
  · have q1 : winI (-1) = 0 := rfl
    have q2 : winX (-1) g = ⟨0, 0⟩ := rfl
    have q3 : winB (-1) = false := rfl
    rw [q1, q2, q3] at hw
    have he := item_eql ⟨0, 0⟩ ⟨0, 0⟩
    simp only [decide_true] at he
    have HW := Lib.hid hw
    clear q1 q2 q3 hw hk h
    go_enter Try.func12, Try.ntmps12
    go_wp2_with fail
    refine HW.out.mono ?_
    rintro e w1 ⟨rfl, o1⟩
    have bX := Box.new w1 ⟨0, 0⟩
    have oX : Only [] w (w1.alloc (.cells #[.int .u64 0, .int .i64 0] 43)) := o1.alloc _
    have HN := Lib.hid (hr.out _ oX)
    have HX := Lib.hid (And.intro bX oX)
    clear o1 bX oX
    go_wp2_with fail
    refine HN.out.mono ?_
    rintro e w2 ⟨rfl, o2⟩
    have bX2 := HX.out.1.only o2 (by simp)
    have a0 := bX2.c0
    have a1 := bX2.c1
    have O2 := Lib.hid (HX.out.2.trans' o2)
    clear bX2 o2
    go_wp2_with fail
    go_ret
    exact ⟨rfl, O2.out⟩
  · have q1 : winI (q : Int) = q := by unfold winI; rw [if_neg (by omega)]
    have q2 : winX (q : Int) g = g q := by unfold winX; rw [if_neg (by omega), Int.toNat_natCast]
    have q3 : winB (q : Int) = true := by simp [winB]
    rw [q1, q2, q3] at hw
    obtain ⟨x, ex⟩ : ∃ x, g q = x := ⟨_, rfl⟩
    rw [ex] at hw
    have he := item_eql x x
    simp only [decide_true] at he
    have HRF : Hid (∀ W, Only [] w W → W.cell? ⟨xb, 1, none⟩ = some (.slice (some ⟨yb, 0, none⟩) n n) ∧ W.cell? ⟨yb, q * 2, none⟩ = some (.int .u64 x.k) ∧ W.cell? ⟨yb, q * 2 + 1, none⟩ = some (.int .i64 x.i)) := fun W o => by
      obtain ⟨bs, ys, r1, r2, r3⟩ := h.ref.only0 o
      have e := r3 q hq hb1
      have i := r1.it hq
      rw [e, ex] at i
      exact ⟨r1.c1, i⟩
    have HW := Lib.hid hw
    have hq' : (q : Int) < (n : Int) := by omega
    have hq0 : decide ((q : Int) < 0) = false := decide_eq_false (by omega)
    have hn := h.n16
    clear q1 q2 q3 hw hk h ex
    go_enter Try.func12, Try.ntmps12
    go_wp2_with fail
    refine HW.out.mono ?_
    rintro e w1 ⟨rfl, o1⟩
    have bX := Box.new w1 x
    have oX : Only [] w (w1.alloc (.cells #[.int .u64 x.k, .int .i64 x.i] 43)) := o1.alloc _
    have HN := Lib.hid (hr.out _ oX)
    have HX := Lib.hid (And.intro bX oX)
    clear o1 bX oX
    go_wp2_with fail
    refine HN.out.mono ?_
    rintro e w2 ⟨rfl, o2⟩
    have bX2 := HX.out.1.only o2 (by simp)
    have a0 := bX2.c0
    have a1 := bX2.c1
    have O2 := Lib.hid (HX.out.2.trans' o2)
    obtain ⟨r0, r1, r2⟩ := HRF.out w2 O2.out
    clear bX2 o2
    go_wp2_with fail
    go_quiet (fail)
    go_wp2_with fail
    go_ret
    exact ⟨rfl, O2.out.drewN _⟩
end Go.Proofs.Ytjblafpbffkapaa
