/-
  awake.
-/
import Derived.Test.YtaaolacfhdfagaaHsR
import Derived.Test.YtaaolacfhdfagaaHsG
namespace Go.Proofs.Ytaaolacfhdfagaa
set_option maxRecDepth 100000
open Go.RowKit
set_option linter.unusedVariables false
set_option linter.unusedSimpArgs false
set_option maxRecDepth 100000

set_option maxHeartbeats 4000000
/-- A row of calls that was built just now. -/
theorem dRow_lit (w : World) (xs : List Dn) (hl : xs.length ≤ 1000) : dE.Row (w.alloc (.cells (dE.flat xs).toArray dE.T)) (.slice (some ⟨w.heap.size, 0, none⟩) xs.length xs.length) xs :=
  ⟨by rw [dE.flat_length], .inr ⟨w.heap.size, xs.length, _, rfl, Nat.zero_le _, heap_alloc_new w _, Nat.le_refl _, by unfold maxLen; omega, by simp [dE.flat_length], by
    rw [List.toList_toArray, List.take_of_length_le (by rw [dE.flat_length]; exact Nat.le_refl _)]⟩⟩
theorem Dns.lit (w : World) (xs : List Dn) (hl : xs.length ≤ 1000) : Dns (w.alloc (.cells (dE.flat xs).toArray dE.T)) (some ⟨w.heap.size, 0, none⟩) xs := Dns.of_row rfl (dRow_lit w xs hl)
def aW (g : Nat) : Dn := ⟨0, 0, 5, 0, 2, 0, 10, some ⟨g, 0, none⟩, 1, 1, 0, 0, 0, 3⟩
def bW : Dn := ⟨1, 0, 0, 0, 0, 0, 0, none, 0, 0, 0, 0, 4, 4⟩
theorem right2 (g : Nat) : RightP [aW g, bW] := by
  refine ⟨fun x hx => ?_, ?_⟩
  · simp at hx
    rcases hx with rfl | rfl <;> rfl
  · refine List.Pairwise.cons (fun y hy => ?_) (List.pairwise_singleton _ _)
    simp at hy
    subst hy
    intro e
    simp [aW, bW] at e
theorem most2 (g : Nat) : mostL [aW g, aW g] = 2 := rfl
theorem parts2 (g : Nat) (p : Pk) : (partsL [((aW g).strip, [p])]).length = 2 := rfl
theorem lAwake (w : World) : Calls Try.prog 9 #[] w fun e w' => e = .returned (.bool true) ∧ Only [] w w' := by
  have h1 := heap_alloc_new w (.cells #[.int .i64 1, .int .i64 0, .int .i64 0] 45)
  have h2 := heap_alloc_new (w.alloc (.cells #[.int .i64 1, .int .i64 0, .int .i64 0] 45)) (.cells (dE.flat [aW w.heap.size]).toArray 30)
  have h3 := heap_alloc_new ((w.alloc (.cells #[.int .i64 1, .int .i64 0, .int .i64 0] 45)).alloc (.cells (dE.flat [aW w.heap.size]).toArray 30)) (.cells (dE.flat [bW]).toArray 30)
  have a2 := Only.alloc (Only.refl [] (w.alloc (.cells #[.int .i64 1, .int .i64 0, .int .i64 0] 45))) (.cells (dE.flat [aW w.heap.size]).toArray 30)
  have a3 := Only.alloc (Only.refl [] ((w.alloc (.cells #[.int .i64 1, .int .i64 0, .int .i64 0] 45)).alloc (.cells (dE.flat [aW w.heap.size]).toArray 30))) (.cells (dE.flat [bW]).toArray 30)
  have g2 := a3.get h2 (by simp)
  rw [World.size_alloc] at g2 h3
  rw [World.size_alloc] at h3
  have rp := ((one_row w ⟨1, 0, 0⟩).only0 a2).only0 a3
  have O0 : Hid (Only [] w (((w.alloc (.cells #[.int .i64 1, .int .i64 0, .int .i64 0] 45)).alloc (.cells (dE.flat [aW w.heap.size]).toArray 30)).alloc (.cells (dE.flat [bW]).toArray 30))) := (((Only.refl [] w).alloc _).alloc _).alloc _
  have B : Hid (∀ V, Only [] (((w.alloc (.cells #[.int .i64 1, .int .i64 0, .int .i64 0] 45)).alloc (.cells (dE.flat [aW w.heap.size]).toArray 30)).alloc (.cells (dE.flat [bW]).toArray 30)) V →
      DnAt V (w.heap.size + 1) 0 (aW w.heap.size) ∧ DnAt V (w.heap.size + 1 + 1) 0 bW ∧ pE.Row V (.slice (some ⟨w.heap.size, 0, none⟩) 1 1) [⟨1, 0, 0⟩]) := fun V o =>
    ⟨DnAt.of_cells (x := aW w.heap.size) (o.get g2 (by simp)), DnAt.of_cells (x := bW) (o.get h3 (by simp)), rp.only0 o⟩
  clear h1 h2 h3 a2 a3 g2 rp
  have al : Hid (∀ (W : World) (o : Obj), Only [] W (W.alloc o)) := fun W o => (Only.refl [] W).alloc o
  go_enter Try.func9, Try.ntmps9
  go_upto_region 3 with fail
  change Code.wp _ _ _ _ (((w.alloc (.cells #[.int .i64 1, .int .i64 0, .int .i64 0] 45)).alloc (.cells (dE.flat [aW w.heap.size]).toArray 30)).alloc (.cells (dE.flat [bW]).toArray 30))
  generalize ((w.alloc (.cells #[.int .i64 1, .int .i64 0, .int .i64 0] 45)).alloc (.cells (dE.flat [aW w.heap.size]).toArray 30)).alloc (.cells (dE.flat [bW]).toArray 30) = W0 at *
  generalize w.heap.size + 1 + 1 = gb at *
  generalize w.heap.size + 1 = ga at *
  generalize w.heap.size = gp at *
  have k1 := Lib.hid (fun (W : World) => cAhead (aW gp) bW W)
  rw [show aheadD (aW gp) bW = true from rfl] at k1
  have k2 := Lib.hid (fun (W : World) => cAhead bW (aW gp) W)
  rw [show aheadD bW (aW gp) = false from rfl] at k2
  have k3 := Lib.hid (fun (W : World) => cRight (some ⟨W.heap.size, 0, none⟩) 2 2 [aW gp, bW] (W.alloc (.cells (dE.flat [aW gp, bW]).toArray dE.T)) rfl (by decide) (Dns.lit W _ (by simp)))
  rw [rightB_t (right2 gp)] at k3
  have k4 := Lib.hid (fun (W : World) => cEnded (some ⟨W.heap.size, 0, none⟩) 2 2 [aW gp, bW] (W.alloc (.cells (dE.flat [aW gp, bW]).toArray dE.T)) rfl (by decide) (Dns.lit W _ (by simp)))
  rw [show (!([aW gp, bW].any opn)) = true from rfl] at k4
  have k5 : Hid (∀ (W : World), Only [] W0 W → _) := fun W o => cParts (some ⟨W.heap.size, 0, none⟩) 1 1 [aW gp] [((aW gp).strip, [⟨1, 0, 0⟩])] (W.alloc (.cells (dE.flat [aW gp]).toArray dE.T)) rfl (by decide) (Dns.lit W _ (by simp)) (AbsL.one ⟨rfl, rfl, (El.Src.of_row (B.out W o).2.2).only0 (al.out W _), fun h => by cases h⟩) (fun x hx => by simp at hx; subst hx; show (1 : Nat) ≤ _; decide)
  have k6 := Lib.hid (fun (W : World) => cMost (some ⟨W.heap.size, 0, none⟩) 2 2 [aW gp, aW gp] (W.alloc (.cells (dE.flat [aW gp, aW gp]).toArray dE.T)) rfl (by decide) (Dns.lit W _ (by simp)))
  rw [most2] at k6
  obtain ⟨x0, x1, x2, x3, x4, x5, x6, x7, x8, x9, x10, x11⟩ := (B.out W0 (Only.refl _ _)).1; (try simp only [Nat.zero_add] at x0 x1 x2 x3 x4 x5 x6 x7 x8 x9 x10 x11)
  obtain ⟨y0, y1, y2, y3, y4, y5, y6, y7, y8, y9, y10, y11⟩ := (B.out W0 (Only.refl _ _)).2.1; (try simp only [Nat.zero_add] at y0 y1 y2 y3 y4 y5 y6 y7 y8 y9 y10 y11)
  simp only [aW] at x0 x1 x2 x3 x4 x5 x6 x7 x8 x9 x10 x11
  simp only [bW] at y0 y1 y2 y3 y4 y5 y6 y7 y8 y9 y10 y11
  go_wp2_with fail
  refine (k1.out W0).mono ?_
  rintro e w1 ⟨rfl, o1⟩
  have O1 : Hid (Only [] W0 w1) := o1
  clear o1 k1 x0 x1 x2 x3 x4 x5 x6 x7 x8 x9 x10 x11 y0 y1 y2 y3 y4 y5 y6 y7 y8 y9 y10 y11
  obtain ⟨x0, x1, x2, x3, x4, x5, x6, x7, x8, x9, x10, x11⟩ := (B.out w1 O1.out).1; (try simp only [Nat.zero_add] at x0 x1 x2 x3 x4 x5 x6 x7 x8 x9 x10 x11)
  obtain ⟨y0, y1, y2, y3, y4, y5, y6, y7, y8, y9, y10, y11⟩ := (B.out w1 O1.out).2.1; (try simp only [Nat.zero_add] at y0 y1 y2 y3 y4 y5 y6 y7 y8 y9 y10 y11)
  simp only [aW] at x0 x1 x2 x3 x4 x5 x6 x7 x8 x9 x10 x11
  simp only [bW] at y0 y1 y2 y3 y4 y5 y6 y7 y8 y9 y10 y11
  go_wp2_with fail
  refine (k2.out w1).mono ?_
  rintro e w2 ⟨rfl, o2⟩
  have O2 : Hid (Only [] W0 w2) := O1.out.trans' o2
  clear o2 k2 x0 x1 x2 x3 x4 x5 x6 x7 x8 x9 x10 x11 y0 y1 y2 y3 y4 y5 y6 y7 y8 y9 y10 y11
  obtain ⟨x0, x1, x2, x3, x4, x5, x6, x7, x8, x9, x10, x11⟩ := (B.out w2 O2.out).1; (try simp only [Nat.zero_add] at x0 x1 x2 x3 x4 x5 x6 x7 x8 x9 x10 x11)
  obtain ⟨y0, y1, y2, y3, y4, y5, y6, y7, y8, y9, y10, y11⟩ := (B.out w2 O2.out).2.1; (try simp only [Nat.zero_add] at y0 y1 y2 y3 y4 y5 y6 y7 y8 y9 y10 y11)
  simp only [aW] at x0 x1 x2 x3 x4 x5 x6 x7 x8 x9 x10 x11
  simp only [bW] at y0 y1 y2 y3 y4 y5 y6 y7 y8 y9 y10 y11
  go_wp2_with fail
  refine (k3.out w2).mono ?_
  rintro e w3 ⟨rfl, o3⟩
  have O3 : Hid (Only [] W0 w3) := O2.out.trans' ((al.out w2 _).trans' o3)
  clear o3 k3 x0 x1 x2 x3 x4 x5 x6 x7 x8 x9 x10 x11 y0 y1 y2 y3 y4 y5 y6 y7 y8 y9 y10 y11
  obtain ⟨x0, x1, x2, x3, x4, x5, x6, x7, x8, x9, x10, x11⟩ := (B.out w3 O3.out).1; (try simp only [Nat.zero_add] at x0 x1 x2 x3 x4 x5 x6 x7 x8 x9 x10 x11)
  obtain ⟨y0, y1, y2, y3, y4, y5, y6, y7, y8, y9, y10, y11⟩ := (B.out w3 O3.out).2.1; (try simp only [Nat.zero_add] at y0 y1 y2 y3 y4 y5 y6 y7 y8 y9 y10 y11)
  simp only [aW] at x0 x1 x2 x3 x4 x5 x6 x7 x8 x9 x10 x11
  simp only [bW] at y0 y1 y2 y3 y4 y5 y6 y7 y8 y9 y10 y11
  go_wp2_with fail
  refine (k4.out w3).mono ?_
  rintro e w4 ⟨rfl, o4⟩
  have O4 : Hid (Only [] W0 w4) := O3.out.trans' ((al.out w3 _).trans' o4)
  clear o4 k4 x0 x1 x2 x3 x4 x5 x6 x7 x8 x9 x10 x11 y0 y1 y2 y3 y4 y5 y6 y7 y8 y9 y10 y11
  obtain ⟨x0, x1, x2, x3, x4, x5, x6, x7, x8, x9, x10, x11⟩ := (B.out w4 O4.out).1; (try simp only [Nat.zero_add] at x0 x1 x2 x3 x4 x5 x6 x7 x8 x9 x10 x11)
  obtain ⟨y0, y1, y2, y3, y4, y5, y6, y7, y8, y9, y10, y11⟩ := (B.out w4 O4.out).2.1; (try simp only [Nat.zero_add] at y0 y1 y2 y3 y4 y5 y6 y7 y8 y9 y10 y11)
  simp only [aW] at x0 x1 x2 x3 x4 x5 x6 x7 x8 x9 x10 x11
  simp only [bW] at y0 y1 y2 y3 y4 y5 y6 y7 y8 y9 y10 y11
  go_wp2_with fail
  refine (k5.out w4 O4.out).mono ?_
  rintro e w5 ⟨A5, q5, c5, rfl, R5, d5⟩
  have O5 : Hid (Only [] W0 w5) := O4.out.trans' ((al.out w4 _).trans' d5.fr.only)
  obtain rfl : q5 = 2 := by have h7 := d5.fr.len; have h8 := d5.rw_.len; rw [parts2] at h8; omega
  clear d5 k5 x0 x1 x2 x3 x4 x5 x6 x7 x8 x9 x10 x11 y0 y1 y2 y3 y4 y5 y6 y7 y8 y9 y10 y11
  obtain ⟨x0, x1, x2, x3, x4, x5, x6, x7, x8, x9, x10, x11⟩ := (B.out w5 O5.out).1; (try simp only [Nat.zero_add] at x0 x1 x2 x3 x4 x5 x6 x7 x8 x9 x10 x11)
  obtain ⟨y0, y1, y2, y3, y4, y5, y6, y7, y8, y9, y10, y11⟩ := (B.out w5 O5.out).2.1; (try simp only [Nat.zero_add] at y0 y1 y2 y3 y4 y5 y6 y7 y8 y9 y10 y11)
  simp only [aW] at x0 x1 x2 x3 x4 x5 x6 x7 x8 x9 x10 x11
  simp only [bW] at y0 y1 y2 y3 y4 y5 y6 y7 y8 y9 y10 y11
  go_wp2_with fail
  refine (k6.out w5).mono ?_
  rintro e w6 ⟨rfl, o6⟩
  have O6 : Hid (Only [] W0 w6) := O5.out.trans' ((al.out w5 _).trans' o6)
  clear o6 k6 x0 x1 x2 x3 x4 x5 x6 x7 x8 x9 x10 x11 y0 y1 y2 y3 y4 y5 y6 y7 y8 y9 y10 y11
  go_wp2_with fail
  go_ret
  exact ⟨rfl, O0.out.trans' O6.out⟩
end Go.Proofs.Ytaaolacfhdfagaa
