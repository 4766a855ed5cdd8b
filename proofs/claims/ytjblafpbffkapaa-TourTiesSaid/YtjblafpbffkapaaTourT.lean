/-
  One step of a play: a deed done to a tournament and to the document's.
-/
import Derived.Test.YtjblafpbffkapaaTourH
import Derived.Test.YtjblafpbffkapaaTourE
import Derived.Deep.DeepCutAuto
namespace Go.Proofs.Ytjblafpbffkapaa
set_option maxRecDepth 100000
open Go.RowKit Go.ChangeMaps Go.MapKept
set_option linter.unusedVariables false
set_option linter.unusedSimpArgs false

/-- What a step leaves. -/
def Stepped (w : World) (tb ib nb xb hb yb n : Nat) (w' : World) : Prop := ∃ hs g, Pairs w' tb ib nb xb hb yb n hs g ∧ Only [ib, nb, hb, yb] w w'

theorem Pairs.refKeep {w w' : World} {tb ib nb xb hb yb n : Nat} {hs : Nat → Bool} {g : Nat → It} (h : Pairs w tb ib nb xb hb yb n hs g) (o : Only [ib, nb] w w') : RefTour w' xb hb yb n hs g :=
  h.ref.only o (fun b hb hc => h.ap b (by simp at hc ⊢; rcases hc with h | h <;> simp [h]) hb)
theorem Pairs.done {w0 w w2 w3 : World} {tb ib nb xb hb yb n : Nat} {hs hs' : Nat → Bool} {g g' : Nat → It} (h : Pairs w tb ib nb xb hb yb n hs g) (o0 : Only [] w0 w) (t : TourOf w2 tb ib nb n hs' g') (o2 : Only [ib, nb] w w2) (r : RefTour w3 xb hb yb n hs' g') (o3 : Only [hb, yb] w2 w3) : Stepped w0 tb ib nb xb hb yb n w3 := by
  refine ⟨hs', g', ⟨t.only o3 (fun b hb hc => h.ap b hb (by simp at hc ⊢; rcases hc with h | h <;> simp [h])), r, h.ap⟩, ?_⟩
  refine ((o0.mono (T := [ib, nb, hb, yb]) (by simp)).trans' (o2.mono (T := [ib, nb, hb, yb]) ?_)).trans' (o3.mono (T := [ib, nb, hb, yb]) ?_)
  · intro k hk; simp at hk ⊢; rcases hk with h | h <;> simp [h]
  · intro k hk; simp at hk ⊢; rcases hk with h | h <;> simp [h]
theorem Pairs.same {w0 w : World} {tb ib nb xb hb yb n : Nat} {hs : Nat → Bool} {g : Nat → It} (h : Pairs w tb ib nb xb hb yb n hs g) (o0 : Only [] w0 w) : Stepped w0 tb ib nb xb hb yb n w := ⟨hs, g, h, o0.mono (by simp)⟩
theorem Box.put {w : World} {b : Nat} {x : It} (h : Box w b x) (k j : Int) : Box ((w.setCell ⟨b, 0, none⟩ (.int .u64 k)).setCell ⟨b, 1, none⟩ (.int .i64 j)) b ⟨k, j⟩ := by
  unfold Box at h ⊢
  simp [World.setCell, Array.getElem?_modify, h]
set_option maxRecDepth 100000 in
set_option maxHeartbeats 400000 in
theorem tSmall (d : Dd) (hd : d.ok) : ∃ k : Int, ∀ w, Calls Try.prog 25 #[.agg #[.int .i64 d.a, .int .u64 d.b, .int .i64 d.c]] w fun e w' => e = .returned (.int .u64 k) ∧ Only [] w w' := by
  obtain ⟨b0, b1⟩ := u64ok_to hd.2.1
  by_cases h : d.b % 11 = 10
  · have h' : (d.b % 11 == 10) = true := by simpa using h
    clear h
    refine ⟨d.b, fun w => ?_⟩
    go_enter Try.func25, Try.ntmps25
    go_wp2
    go_ret
    exact ⟨rfl, (Only.refl _ _).alloc _⟩
  · have h' : (d.b % 11 == 10) = false := by simpa using h
    clear h
    refine ⟨d.b % 14, fun w => ?_⟩
    go_enter Try.func25, Try.ntmps25
    go_wp2
    go_ret
    exact ⟨rfl, (Only.refl _ _).alloc _⟩

set_option maxRecDepth 100000 in
set_option maxHeartbeats 4000000 in
theorem tStep (w : World) (tb ib nb xb hb yb n : Nat) (hs : Nat → Bool) (g : Nat → It) (h : Pairs w tb ib nb xb hb yb n hs g) (d : Dd) (hd : d.ok) :
    Calls Try.prog 13 #[.pointer (some ⟨tb, 0, none⟩), .pointer (some ⟨xb, 0, none⟩), .agg #[.int .i64 d.a, .int .u64 d.b, .int .i64 d.c]] w fun e w' => e = .returned (.bool true) ∧ Stepped w tb ib nb xb hb yb n w' := by
  have hn := h.n16
  obtain ⟨L, hL⟩ := tLeaf d n hn.2
  obtain ⟨q4, hq4, m4⟩ := tModN d.a 4 (by omega) (by omega)
  obtain ⟨q3, hq3, m3⟩ := tModN d.a 3 (by omega) (by omega)
  change ∀ w, Calls _ _ #[.int .i64 d.a, .int .i64 4] w _ at m4
  change ∀ w, Calls _ _ #[.int .i64 d.a, .int .i64 3] w _ at m3
  have M4 := Lib.hid m4
  have M3 := Lib.hid m3
  have HL := Lib.hid hL
  have hxb : xb < w.heap.size := h.lt xb (by simp)
  have HC : Hid (∀ W, Only [] w W → W.cell? ⟨xb, 0, none⟩ = some (.slice (some ⟨hb, 0, none⟩) n n) ∧ W.cell? ⟨xb, 1, none⟩ = some (.slice (some ⟨yb, 0, none⟩) n n)) := fun W o => by
    obtain ⟨bs, ys, r1, -, -⟩ := h.ref.only0 o
    exact ⟨r1.c0, r1.c1⟩
  have c0 := (HC.out w (Only.refl _ _)).1
  have o0 : Only [] w (w.alloc (.cells #[.int .i64 d.a, .int .u64 d.b, .int .i64 d.c] 37)) := (Only.refl [] w).alloc _
  have bD := DBox.new w d
  have H := Lib.hid h
  have O0 := Lib.hid o0
  have BD := Lib.hid bD
  clear m4 m3 hL h o0 bD
  go_enter Try.func13, Try.ntmps13
  go_wp2_with fail
  obtain ⟨N, eN⟩ : ∃ N, w.heap.size = N := ⟨_, rfl⟩
  have EN := Lib.hid eN
  rw [eN] at BD ⊢
  generalize hW : w.alloc (.cells #[.int .i64 d.a, .int .u64 d.b, .int .i64 d.c] 37) = W at *
  obtain ⟨d0, d1, d2⟩ := BD.out.c
  have c0 := (HC.out W O0.out).1
  clear hW eN
  go_still_tail 6, (by kernel_rfl)
  change wpList _ _ _ _ _ W.drew
  go_wp2_with fail
  refine (HL.out _).mono ?_
  rintro e w1 ⟨rfl, o1⟩
  have oW1 : Hid (Only [] w w1) := O0.out.drew.trans' o1
  have bD1 := BD.out.only ((Only.refl [] _).drew.trans' o1) (by simp)
  have BD1 := Lib.hid bD1
  clear d0 d1 d2 c0 o1 bD1 HL O0 BD
  obtain ⟨d0, d1, d2⟩ := BD1.out.c
  go_wp2_with fail
  refine (M4.out _).mono ?_
  rintro e w1 ⟨rfl, rfl⟩
  have hP1 := Lib.hid (H.out.only0 oW1.out)
  by_cases h3 : q4 = 3
  · subst h3
    by_cases hin : 0 ≤ L ∧ L < (n : Int)
    · obtain ⟨q, rfl⟩ : ∃ q : Nat, L = q := ⟨L.toNat, by omega⟩
      have un := Lib.hid ((tUnset w1 tb ib nb n hs g hP1.out.ours (q : Int)).mono (fun e w' h => h.1 hin))
      have rl : Hid (∀ W, Only [ib, nb] w1 W → Calls Try.prog 24 #[.pointer (some ⟨xb, 0, none⟩), .int .i64 (q : Int)] W fun e w' => e = .returned (.bool true) ∧ w' = W) := fun W o => by
        have := rLeaf W xb hb yb n hs g (hP1.out.refKeep o) (q : Int)
        rw [decide_eq_true hin] at this
        exact this
      have hqn : (q : Int) < (n : Int) := hin.2
      have hqn' : q < n := by omega
      clear hin
      go_wp2_with fail
      refine un.out.mono ?_
      rintro e w2 ⟨rfl, h2, o2⟩
      have R2 := Lib.hid (And.intro h2 o2)
      clear h2 o2
      go_wp2_with fail
      refine (rl.out w2 R2.out.2).mono ?_
      rintro e w2 ⟨rfl, rfl⟩
      go_wp2_with fail
      refine (rl.out w2 R2.out.2).mono ?_
      rintro e w2 ⟨rfl, rfl⟩
      have rf := hP1.out.refKeep R2.out.2
      obtain ⟨bs, ys, r1, -, -⟩ := id rf
      have x0 := r1.c0
      have fr := r1.has.fr q
      have cq := r1.hb_ hqn'
      have RF := Lib.hid rf
      clear rf r1
      go_wp2_with fail
      go_ret
      have eq : (q : Int).toNat = q := Int.toNat_natCast q
      have h2 := R2.out.1
      rw [eq] at h2
      exact ⟨rfl, hP1.out.done oW1.out h2 R2.out.2 (RF.out.unset hqn') ((Only.refl _ _).setCell (by simp) _)⟩
    · have un := Lib.hid ((tUnset w1 tb ib nb n hs g hP1.out.ours L).mono (fun e w' h => h.2 hin))
      have rl : Hid (∀ W, Only [] w1 W → Calls Try.prog 24 #[.pointer (some ⟨xb, 0, none⟩), .int .i64 L] W fun e w' => e = .returned (.bool false) ∧ w' = W) := fun W o => by
        have := rLeaf W xb hb yb n hs g (hP1.out.ref.only0 o) L
        rw [decide_eq_false hin] at this
        exact this
      clear hin
      go_wp2_with fail
      refine un.out.mono ?_
      rintro e w2 ⟨rfl, o2⟩
      have R2 := Lib.hid o2
      clear o2
      go_wp2_with fail
      refine (rl.out w2 R2.out).mono ?_
      rintro e w2 ⟨rfl, rfl⟩
      go_wp2_with fail
      refine (rl.out w2 R2.out).mono ?_
      rintro e w2 ⟨rfl, rfl⟩
      go_wp2_with fail
      go_ret
      exact ⟨rfl, (hP1.out.only0 R2.out).same (oW1.out.trans' R2.out)⟩
  · have h3' : ((q4 : Int) == 3) = false := by simp; omega
    obtain ⟨k, hsm⟩ := tSmall d hd
    have SM := Lib.hid hsm
    have hN1 : N < w1.heap.size := BD1.out.lt
    clear h3 hsm
    go_upto_region 8 with fail
    go_cut [8] (fun s8 wx => ∃ (B : Nat) (x : It), s8 = .pointer (some ⟨B, 0, none⟩) ∧ Hid (Box wx B x ∧ Only [] w1 wx ∧ w1.heap.size ≤ B))
    case first =>
      have nB : N ≠ w1.heap.size := by omega
      go_region_held3 (fun w' => w'.cell? ⟨N, 0, none⟩ = some (.int .i64 d.a) ∧ w'.cell? ⟨N, 1, none⟩ = some (.int .u64 d.b) ∧ w'.cell? ⟨N, 2, none⟩ = some (.int .i64 d.c))
        (first | go_keep | (exact ⟨e0, e1, e2⟩) | (exact ⟨cell_past (cell_past e0 (.inl nB)) (.inl nB), cell_past (cell_past e1 (.inl nB)) (.inl nB), cell_past (cell_past e2 (.inl nB)) (.inl nB)⟩))
        (first
          | (go_at_call 25; refine (SM.out _).mono ?_; rintro e w2 ⟨rfl, o1⟩; have e0 := o1.stay (p := ⟨N, 0, none⟩) (v := .int .i64 d.a) (by go_simp); have e1 := o1.stay (p := ⟨N, 1, none⟩) (v := .int .u64 d.b) (by go_simp); have e2 := o1.stay (p := ⟨N, 2, none⟩) (v := .int .i64 d.c) (by go_simp); have hN2 : N < w2.heap.size := World.block_lt_of_cell? w2 ⟨N, 0, none⟩ e0; (try (have bz1 : Box w2 w1.heap.size ⟨0, 0⟩ := by (refine Box.only (S := []) ?_ o1 (by simp); exact Box.new w1 ⟨0, 0⟩)); have z0 := bz1.c0; have z1 := bz1.c1; have f0 := bz1.fr 0; have f1 := bz1.fr 1))
          | (go_at_call 21; refine (M3.out _).mono ?_; rintro e w2 ⟨rfl, rfl⟩))
      all_goals
        have oA : Hid (Only [] w1 w2) := by
          first
            | exact (Only.refl [] w1).drew.trans' o1
            | exact ((Only.refl [] w1).alloc _).drew.trans' o1
        have hs2 : w1.heap.size ≤ w2.heap.size := oA.out.size
        go_wp2_with fail
        go_meet
        case rel =>
          first
            | exact ⟨w2.heap.size, ⟨k, q3⟩, rfl, Box.new w2 ⟨k, q3⟩, oA.out.alloc _, hs2⟩
            | exact ⟨w1.heap.size, ⟨k, q3⟩, rfl, bz1.put k q3, (oA.out.setCell (.inr (Nat.le_refl _)) _).setCell (.inr (Nat.le_refl _)) _, Nat.le_refl _⟩
    case rest =>
      obtain ⟨B, x, rfl, HX⟩ := hcut
      have O2 := Lib.hid (oW1.out.trans' HX.out.2.1)
      have hP2 := Lib.hid (H.out.only0 O2.out)
      have b0 := HX.out.1.c0
      have b1 := HX.out.1.c1
      have hBl : ∀ b ∈ [tb, ib, nb, xb, hb, yb], b ≠ B := fun b hb e => by
        have := hP1.out.lt b hb
        have := HX.out.2.2
        omega
      have HBL := Lib.hid hBl
      clear hBl d0 d1 d2
      by_cases hin : 0 ≤ L ∧ L < (n : Int)
      · obtain ⟨q, rfl⟩ : ∃ q : Nat, L = q := ⟨L.toNat, by omega⟩
        have un := Lib.hid ((tSet wc tb ib nb n hs g hP2.out.ours (q : Int) x).mono (fun e w' h => h.1 hin))
        have rl : Hid (∀ W, Only [ib, nb] wc W → Calls Try.prog 24 #[.pointer (some ⟨xb, 0, none⟩), .int .i64 (q : Int)] W fun e w' => e = .returned (.bool true) ∧ w' = W) := fun W o => by
          have := rLeaf W xb hb yb n hs g (hP2.out.refKeep o) (q : Int)
          rw [decide_eq_true hin] at this
          exact this
        have hqn : (q : Int) < (n : Int) := hin.2
        have hqn' : q < n := by omega
        clear hin
        go_wp2_with fail
        refine un.out.mono ?_
        rintro e w2 ⟨rfl, h2, o2⟩
        have R2 := Lib.hid (And.intro h2 o2)
        clear h2 o2
        go_wp2_with fail
        refine (rl.out w2 R2.out.2).mono ?_
        rintro e w2 ⟨rfl, rfl⟩
        go_wp2_with fail
        refine (rl.out w2 R2.out.2).mono ?_
        rintro e w2 ⟨rfl, rfl⟩
        have rf := hP2.out.refKeep R2.out.2
        obtain ⟨bs, ys, r1, -, -⟩ := id rf
        have bX := HX.out.1.only R2.out.2 (by simp; exact ⟨fun e => HBL.out ib (by simp) e.symm, fun e => HBL.out nb (by simp) e.symm⟩)
        have y0 := bX.c0
        have y1 := bX.c1
        have x0 := r1.c0
        have x1 := r1.c1
        have fr := r1.has.fr q
        have cq := r1.hb_ hqn'
        have fi0 := r1.items.fr (q * 2)
        have fi1 := r1.items.fr (q * 2 + 1)
        obtain ⟨i0, i1⟩ := r1.it hqn'
        have n1 := r1.ne1
        have n2 := r1.ne2
        have n3 := r1.ne3
        have n4 := HBL.out xb (by simp)
        have n5 := HBL.out hb (by simp)
        have n6 := HBL.out yb (by simp)
        have RF := Lib.hid rf
        clear rf r1 bX b0 b1
        go_wp2_with fail
        go_region
        all_goals
          go_wp2_with fail
          go_ret
          have eq : (q : Int).toNat = q := Int.toNat_natCast q
          have h2 := R2.out.1
          rw [eq] at h2
          exact ⟨rfl, hP2.out.done O2.out h2 R2.out.2 ((RF.out.put hqn' x).only0 ((Only.refl [] _).drew)) (((((Only.refl [hb, yb] _).setCell (by simp) _).setCell (by simp) _).setCell (by simp) _).drew)⟩
      · have un := Lib.hid ((tSet wc tb ib nb n hs g hP2.out.ours L x).mono (fun e w' h => h.2 hin))
        have rl : Hid (∀ W, Only [] wc W → Calls Try.prog 24 #[.pointer (some ⟨xb, 0, none⟩), .int .i64 L] W fun e w' => e = .returned (.bool false) ∧ w' = W) := fun W o => by
          have := rLeaf W xb hb yb n hs g (hP2.out.ref.only0 o) L
          rw [decide_eq_false hin] at this
          exact this
        clear hin
        go_wp2_with fail
        refine un.out.mono ?_
        rintro e w2 ⟨rfl, o2⟩
        have R2 := Lib.hid o2
        clear o2
        go_wp2_with fail
        refine (rl.out w2 R2.out).mono ?_
        rintro e w2 ⟨rfl, rfl⟩
        go_wp2_with fail
        refine (rl.out w2 R2.out).mono ?_
        rintro e w2 ⟨rfl, rfl⟩
        go_wp2_with fail
        go_ret
        exact ⟨rfl, (hP2.out.only0 R2.out).same (O2.out.trans' R2.out)⟩
end Go.Proofs.Ytjblafpbffkapaa
