/-
  The statements' words: Call.
-/
import Derived.Test.YtklolepmmabijaaGreatMdH
namespace Go.Proofs.YtklolepmmabijaaGreat
set_option maxRecDepth 100000
open Go.RowKit
set_option linter.unusedVariables false
set_option linter.unusedSimpArgs false
set_option maxRecDepth 100000

/-- Call, as numbers. -/
def Cl.near (c : Cl) : Cl :=
  if modI c.f 23 = 22 then c
  else if modI c.op 10 = 0 then ⟨1, modI c.f 5, 1 + modI c.a 5, 1 + modI c.b 3⟩
  else if modI c.op 10 = 1 then ⟨2, modI c.f 5, 0, 0⟩
  else if modI c.op 10 = 6 ∨ modI c.op 10 = 7 then ⟨4, 0, 0, 0⟩
  else if modI c.op 10 = 8 then ⟨5, 0, modI c.a 6, 0⟩
  else if modI c.op 10 = 9 then ⟨6, 0, 0, 0⟩
  else ⟨3, modI c.f 5, if modI c.a 13 = 12 then 1 + modI c.a 65536 else 1 + modI c.a 9, modI c.b 1000⟩
theorem i64_small {a : Int} (h0 : 0 ≤ a) (h1 : a ≤ 1000000) : i64ok a := i64_of (by omega)
theorem Cl.near_ok {c : Cl} (h : c.ok) : c.near.ok := by
  have m := fun (v n : Int) (hn : 0 < n) => modI_lt v hn
  unfold Cl.near
  split
  · exact h
  · split
    · have h1 := m c.f 5 (by decide); have h2 := m c.a 5 (by decide); have h3 := m c.b 3 (by decide)
      exact ⟨i64_small (by first | decide | (simp only; omega)) (by first | decide | (simp only; omega)), i64_small (by first | decide | (simp only; omega)) (by first | decide | (simp only; omega)), i64_small (by first | decide | (simp only; omega)) (by first | decide | (simp only; omega)), i64_small (by first | decide | (simp only; omega)) (by first | decide | (simp only; omega))⟩
    · split
      · have h1 := m c.f 5 (by decide)
        exact ⟨i64_small (by first | decide | (simp only; omega)) (by first | decide | (simp only; omega)), i64_small (by first | decide | (simp only; omega)) (by first | decide | (simp only; omega)), i64_small (by first | decide | (simp only; omega)) (by first | decide | (simp only; omega)), i64_small (by first | decide | (simp only; omega)) (by first | decide | (simp only; omega))⟩
      · split
        · exact ⟨i64_small (by first | decide | (simp only; omega)) (by first | decide | (simp only; omega)), i64_small (by first | decide | (simp only; omega)) (by first | decide | (simp only; omega)), i64_small (by first | decide | (simp only; omega)) (by first | decide | (simp only; omega)), i64_small (by first | decide | (simp only; omega)) (by first | decide | (simp only; omega))⟩
        · split
          · have h1 := m c.a 6 (by decide)
            exact ⟨i64_small (by first | decide | (simp only; omega)) (by first | decide | (simp only; omega)), i64_small (by first | decide | (simp only; omega)) (by first | decide | (simp only; omega)), i64_small (by first | decide | (simp only; omega)) (by first | decide | (simp only; omega)), i64_small (by first | decide | (simp only; omega)) (by first | decide | (simp only; omega))⟩
          · split
            · exact ⟨i64_small (by first | decide | (simp only; omega)) (by first | decide | (simp only; omega)), i64_small (by first | decide | (simp only; omega)) (by first | decide | (simp only; omega)), i64_small (by first | decide | (simp only; omega)) (by first | decide | (simp only; omega)), i64_small (by first | decide | (simp only; omega)) (by first | decide | (simp only; omega))⟩
            · have h1 := m c.f 5 (by decide); have h2 := m c.a 65536 (by decide); have h3 := m c.a 9 (by decide); have h4 := m c.b 1000 (by decide)
              refine ⟨i64_small (by first | decide | (simp only; omega)) (by first | decide | (simp only; omega)), i64_small (by first | decide | (simp only; omega)) (by first | decide | (simp only; omega)), ?_, i64_small (by first | decide | (simp only; omega)) (by first | decide | (simp only; omega))⟩
              simp only
              split
              · exact i64_small (by omega) (by omega)
              · exact i64_small (by omega) (by omega)
theorem only_cl (w : World) (N : Nat) (a b c d : Value) : Only [N] w ((((w.setCell ⟨N, 0, none⟩ a).setCell ⟨N, 1, none⟩ b).setCell ⟨N, 2, none⟩ c).setCell ⟨N, 3, none⟩ d) :=
  ((((Only.refl [N] w).setCell (by simp) _).setCell (by simp) _).setCell (by simp) _).setCell (by simp) _
def clW (w : World) (c : Cl) : World := (w.alloc (.cells #[.int .i64 c.op, .int .i64 c.f, .int .i64 c.a, .int .i64 c.b] 33)).alloc (.cells #[.int .i64 0, .int .i64 0, .int .i64 0, .int .i64 0] 33)
theorem clW_is (w : World) (c : Cl) : Only [] w (clW w c) ∧ CBox (clW w c) w.heap.size c ∧ CBox (clW w c) (w.heap.size + 1) ⟨0, 0, 0, 0⟩ ∧ (clW w c).heap.size = w.heap.size + 2 := by
  unfold clW
  refine ⟨((Only.refl [] w).alloc _).alloc _, (CBox.new w c).only0 ((Only.refl [] _).alloc _), ?_, by simp⟩
  have := CBox.new (w.alloc (.cells #[.int .i64 c.op, .int .i64 c.f, .int .i64 c.a, .int .i64 c.b] 33)) ⟨0, 0, 0, 0⟩
  simpa using this
theorem CBox.fr {w : World} {b : Nat} {c : Cl} (h : CBox w b c) (j : Nat) : w.frozen? ⟨b, j, none⟩ = false := frozen_of_row w b j _ _ h
set_option maxHeartbeats 1000000 in
theorem sCallS (c : Cl) (w : World) (h : modI c.f 23 = 22) : Calls Tryz.prog 12 #[.agg #[.int .i64 c.op, .int .i64 c.f, .int .i64 c.a, .int .i64 c.b]] w fun e w' => e = .returned (.agg #[.int .i64 c.near.op, .int .i64 c.near.f, .int .i64 c.near.a, .int .i64 c.near.b]) ∧ Only [] w w' := by
  obtain ⟨o, bA, bB, hsz⟩ := clW_is w c
  obtain ⟨x0, x1, x2, x3⟩ := bA.c
  obtain ⟨y0, y1, y2, y3⟩ := bB.c
  simp only at y0 y1 y2 y3
  have f0 := bB.fr 0
  have f1 := bB.fr 1
  have f2 := bB.fr 2
  have f3 := bB.fr 3
  have md := Lib.hid (fun (v n : Int) (h : 0 < n) (hn : n ≤ 1000000) (w : World) => sMod v n h hn w)
  have lA := bA.lt
  have lB := bB.lt
  have HA := Lib.hid (And.intro bA bB)
  have HE : Hid (c.near = c) := by show c.near = c; unfold Cl.near; rw [if_pos h]
  have h' : (modI c.f 23 == 22) = true := by simpa using h
  clear h
  go_enter Tryz.func12, Tryz.ntmps12
  go_wp2_with fail
  refine (md.out c.f 23 (by decide) (by decide) (clW w c)).mono ?_
  rintro e W0 ⟨rfl, rfl⟩
  generalize clW w c = W at *
  obtain ⟨N, eN⟩ : ∃ N, w.heap.size = N := ⟨_, rfl⟩
  rw [eN] at x0 x1 x2 x3 y0 y1 y2 y3 f0 f1 f2 f3 lA lB hsz HA ⊢
  have HN := Lib.hid (And.intro o eN)
  clear eN o bA bB
  go_wp2_with fail
  refine bodyPost_ret ?_ rfl ⟨rfl, ?_⟩
  · rw [results_cell1 rfl, HE.out]; go_simp
  · exact HN.out.1.trans (only_cl _ _ _ _ _ _) (by have := HN.out.2; simp; omega)
set_option maxHeartbeats 2000000 in
theorem sCall1 (c : Cl) (w : World) (h : modI c.f 23 ≠ 22) (hE : c.near = ⟨2, modI c.f 5, 0, 0⟩) (q0 : modI c.op 10 ≠ 0) (q1 : modI c.op 10 = 1) : Calls Tryz.prog 12 #[.agg #[.int .i64 c.op, .int .i64 c.f, .int .i64 c.a, .int .i64 c.b]] w fun e w' => e = .returned (.agg #[.int .i64 c.near.op, .int .i64 c.near.f, .int .i64 c.near.a, .int .i64 c.near.b]) ∧ Only [] w w' := by
  obtain ⟨o, bA, bB, hsz⟩ := clW_is w c
  obtain ⟨x0, x1, x2, x3⟩ := bA.c
  obtain ⟨y0, y1, y2, y3⟩ := bB.c
  simp only at y0 y1 y2 y3
  have f0 := bB.fr 0
  have f1 := bB.fr 1
  have f2 := bB.fr 2
  have f3 := bB.fr 3
  have md := Lib.hid (fun (v n : Int) (h : 0 < n) (hn : n ≤ 1000000) (w : World) => sMod v n h hn w)
  have lA := bA.lt
  have lB := bB.lt
  have HA := Lib.hid (And.intro bA bB)
  have h' : (modI c.f 23 == 22) = false := by simpa using h
  have u5 := modI_lt c.f (n := 5) (by decide)
  have a5 := modI_lt c.a (n := 5) (by decide)
  have b3 := modI_lt c.b (n := 3) (by decide)
  have a9 := modI_lt c.a (n := 9) (by decide)
  have a65 := modI_lt c.a (n := 65536) (by decide)
  have HE := Lib.hid hE
  clear hE
  obtain ⟨t, et⟩ : ∃ t, modI c.op 10 = t := ⟨_, rfl⟩
  rw [et] at q0 q1
  have q0' : (t == 0) = false := by simpa using q0
  have q1' : (t == 1) = true := by simpa using q1
  clear q0 q1
  have kO := fun W => sMod c.op 10 (by decide) (by decide) W
  rw [et] at kO
  have KO := Lib.hid kO
  clear h et kO
  go_enter Tryz.func12, Tryz.ntmps12
  go_wp2_with fail
  refine (md.out c.f 23 (by decide) (by decide) (clW w c)).mono ?_
  rintro e W0 ⟨rfl, rfl⟩
  generalize clW w c = W at *
  obtain ⟨N, eN⟩ : ∃ N, w.heap.size = N := ⟨_, rfl⟩
  rw [eN] at x0 x1 x2 x3 y0 y1 y2 y3 f0 f1 f2 f3 lA lB hsz HA ⊢
  have HN := Lib.hid (And.intro o eN)
  clear eN o bA bB
  go_wp2_with fail
  refine (md.out _ _ (by decide) (by decide) _).mono ?_
  rintro e W ⟨rfl, rfl⟩
  have oX : Only [] W (W.alloc (.cells #[.int .i64 0, .int .i64 (modI c.f 5), .int .i64 0, .int .i64 0] 33)) := (Only.refl [] W).alloc _
  have bX : CBox (W.alloc (.cells #[.int .i64 0, .int .i64 (modI c.f 5), .int .i64 0, .int .i64 0] 33)) W.heap.size ⟨0, modI c.f 5, 0, 0⟩ := CBox.new W ⟨0, modI c.f 5, 0, 0⟩
  obtain ⟨bA, bB⟩ := HA.out
  have bA2 := bA.only0 oX
  have bB2 := bB.only0 oX
  have HO := Lib.hid (HN.out.1.trans' oX)
  go_wp2_with fail
  refine (KO.out _).mono ?_
  rintro e W0 ⟨rfl, rfl⟩
  clear KO x0 x1 x2 x3 y0 y1 y2 y3 f0 f1 f2 f3 lA lB HA
  generalize W.alloc (.cells #[.int .i64 0, .int .i64 (modI c.f 5), .int .i64 0, .int .i64 0] 33) = U at *
  rw [hsz] at bX
  obtain ⟨x0, x1, x2, x3⟩ := bA2.c
  obtain ⟨y0, y1, y2, y3⟩ := bB2.c
  obtain ⟨z0, z1, z2, z3⟩ := bX.c
  simp only at y0 y1 y2 y3 z0 z1 z2 z3
  have f0 := bB2.fr 0
  have f1 := bB2.fr 1
  have f2 := bB2.fr 2
  have f3 := bB2.fr 3
  have g0 := bX.fr 0
  have g1 := bX.fr 1
  have g2 := bX.fr 2
  have g3 := bX.fr 3
  have lA := bA2.lt
  have lB := bB2.lt
  have lX := bX.lt
  clear bA bB bA2 bB2 bX oX hsz
  go_wp2_with fail
  refine bodyPost_ret ?_ rfl ⟨rfl, ?_⟩
  · rw [results_cell1 rfl, HE.out]; go_simp
  · have h9 := HN.out.2
    repeat' (first | with_reducible exact HO.out | with_reducible refine Only.setCell ?_ (.inr ?_) _ | with_reducible refine Only.drew ?_)
    all_goals (simp only; omega)
set_option maxHeartbeats 2000000 in
theorem sCall6 (c : Cl) (w : World) (h : modI c.f 23 ≠ 22) (hE : c.near = ⟨4, 0, 0, 0⟩) (q0 : modI c.op 10 ≠ 0) (q1 : modI c.op 10 ≠ 1) (q6 : modI c.op 10 = 6) : Calls Tryz.prog 12 #[.agg #[.int .i64 c.op, .int .i64 c.f, .int .i64 c.a, .int .i64 c.b]] w fun e w' => e = .returned (.agg #[.int .i64 c.near.op, .int .i64 c.near.f, .int .i64 c.near.a, .int .i64 c.near.b]) ∧ Only [] w w' := by
  obtain ⟨o, bA, bB, hsz⟩ := clW_is w c
  obtain ⟨x0, x1, x2, x3⟩ := bA.c
  obtain ⟨y0, y1, y2, y3⟩ := bB.c
  simp only at y0 y1 y2 y3
  have f0 := bB.fr 0
  have f1 := bB.fr 1
  have f2 := bB.fr 2
  have f3 := bB.fr 3
  have md := Lib.hid (fun (v n : Int) (h : 0 < n) (hn : n ≤ 1000000) (w : World) => sMod v n h hn w)
  have lA := bA.lt
  have lB := bB.lt
  have HA := Lib.hid (And.intro bA bB)
  have h' : (modI c.f 23 == 22) = false := by simpa using h
  have u5 := modI_lt c.f (n := 5) (by decide)
  have a5 := modI_lt c.a (n := 5) (by decide)
  have b3 := modI_lt c.b (n := 3) (by decide)
  have a9 := modI_lt c.a (n := 9) (by decide)
  have a65 := modI_lt c.a (n := 65536) (by decide)
  have HE := Lib.hid hE
  clear hE
  obtain ⟨t, et⟩ : ∃ t, modI c.op 10 = t := ⟨_, rfl⟩
  rw [et] at q0 q1 q6
  have q0' : (t == 0) = false := by simpa using q0
  have q1' : (t == 1) = false := by simpa using q1
  have q6' : (t == 6) = true := by simpa using q6
  clear q0 q1 q6
  have kO := fun W => sMod c.op 10 (by decide) (by decide) W
  rw [et] at kO
  have KO := Lib.hid kO
  clear h et kO
  go_enter Tryz.func12, Tryz.ntmps12
  go_wp2_with fail
  refine (md.out c.f 23 (by decide) (by decide) (clW w c)).mono ?_
  rintro e W0 ⟨rfl, rfl⟩
  generalize clW w c = W at *
  obtain ⟨N, eN⟩ : ∃ N, w.heap.size = N := ⟨_, rfl⟩
  rw [eN] at x0 x1 x2 x3 y0 y1 y2 y3 f0 f1 f2 f3 lA lB hsz HA ⊢
  have HN := Lib.hid (And.intro o eN)
  clear eN o bA bB
  go_wp2_with fail
  refine (md.out _ _ (by decide) (by decide) _).mono ?_
  rintro e W ⟨rfl, rfl⟩
  have oX : Only [] W (W.alloc (.cells #[.int .i64 0, .int .i64 (modI c.f 5), .int .i64 0, .int .i64 0] 33)) := (Only.refl [] W).alloc _
  have bX : CBox (W.alloc (.cells #[.int .i64 0, .int .i64 (modI c.f 5), .int .i64 0, .int .i64 0] 33)) W.heap.size ⟨0, modI c.f 5, 0, 0⟩ := CBox.new W ⟨0, modI c.f 5, 0, 0⟩
  obtain ⟨bA, bB⟩ := HA.out
  have bA2 := bA.only0 oX
  have bB2 := bB.only0 oX
  have HO := Lib.hid (HN.out.1.trans' oX)
  go_wp2_with fail
  refine (KO.out _).mono ?_
  rintro e W0 ⟨rfl, rfl⟩
  clear KO x0 x1 x2 x3 y0 y1 y2 y3 f0 f1 f2 f3 lA lB HA
  generalize W.alloc (.cells #[.int .i64 0, .int .i64 (modI c.f 5), .int .i64 0, .int .i64 0] 33) = U at *
  rw [hsz] at bX
  obtain ⟨x0, x1, x2, x3⟩ := bA2.c
  obtain ⟨y0, y1, y2, y3⟩ := bB2.c
  obtain ⟨z0, z1, z2, z3⟩ := bX.c
  simp only at y0 y1 y2 y3 z0 z1 z2 z3
  have f0 := bB2.fr 0
  have f1 := bB2.fr 1
  have f2 := bB2.fr 2
  have f3 := bB2.fr 3
  have g0 := bX.fr 0
  have g1 := bX.fr 1
  have g2 := bX.fr 2
  have g3 := bX.fr 3
  have lA := bA2.lt
  have lB := bB2.lt
  have lX := bX.lt
  clear bA bB bA2 bB2 bX oX hsz
  go_wp2_with fail
  refine bodyPost_ret ?_ rfl ⟨rfl, ?_⟩
  · rw [results_cell1 rfl, HE.out]; go_simp
  · have h9 := HN.out.2
    repeat' (first | with_reducible exact HO.out | with_reducible refine Only.setCell ?_ (.inr ?_) _ | with_reducible refine Only.drew ?_)
    all_goals (simp only; omega)
set_option maxHeartbeats 2000000 in
theorem sCall7 (c : Cl) (w : World) (h : modI c.f 23 ≠ 22) (hE : c.near = ⟨4, 0, 0, 0⟩) (q0 : modI c.op 10 ≠ 0) (q1 : modI c.op 10 ≠ 1) (q6 : modI c.op 10 ≠ 6) (q7 : modI c.op 10 = 7) : Calls Tryz.prog 12 #[.agg #[.int .i64 c.op, .int .i64 c.f, .int .i64 c.a, .int .i64 c.b]] w fun e w' => e = .returned (.agg #[.int .i64 c.near.op, .int .i64 c.near.f, .int .i64 c.near.a, .int .i64 c.near.b]) ∧ Only [] w w' := by
  obtain ⟨o, bA, bB, hsz⟩ := clW_is w c
  obtain ⟨x0, x1, x2, x3⟩ := bA.c
  obtain ⟨y0, y1, y2, y3⟩ := bB.c
  simp only at y0 y1 y2 y3
  have f0 := bB.fr 0
  have f1 := bB.fr 1
  have f2 := bB.fr 2
  have f3 := bB.fr 3
  have md := Lib.hid (fun (v n : Int) (h : 0 < n) (hn : n ≤ 1000000) (w : World) => sMod v n h hn w)
  have lA := bA.lt
  have lB := bB.lt
  have HA := Lib.hid (And.intro bA bB)
  have h' : (modI c.f 23 == 22) = false := by simpa using h
  have u5 := modI_lt c.f (n := 5) (by decide)
  have a5 := modI_lt c.a (n := 5) (by decide)
  have b3 := modI_lt c.b (n := 3) (by decide)
  have a9 := modI_lt c.a (n := 9) (by decide)
  have a65 := modI_lt c.a (n := 65536) (by decide)
  have HE := Lib.hid hE
  clear hE
  obtain ⟨t, et⟩ : ∃ t, modI c.op 10 = t := ⟨_, rfl⟩
  rw [et] at q0 q1 q6 q7
  have q0' : (t == 0) = false := by simpa using q0
  have q1' : (t == 1) = false := by simpa using q1
  have q6' : (t == 6) = false := by simpa using q6
  have q7' : (t == 7) = true := by simpa using q7
  clear q0 q1 q6 q7
  have kO := fun W => sMod c.op 10 (by decide) (by decide) W
  rw [et] at kO
  have KO := Lib.hid kO
  clear h et kO
  go_enter Tryz.func12, Tryz.ntmps12
  go_wp2_with fail
  refine (md.out c.f 23 (by decide) (by decide) (clW w c)).mono ?_
  rintro e W0 ⟨rfl, rfl⟩
  generalize clW w c = W at *
  obtain ⟨N, eN⟩ : ∃ N, w.heap.size = N := ⟨_, rfl⟩
  rw [eN] at x0 x1 x2 x3 y0 y1 y2 y3 f0 f1 f2 f3 lA lB hsz HA ⊢
  have HN := Lib.hid (And.intro o eN)
  clear eN o bA bB
  go_wp2_with fail
  refine (md.out _ _ (by decide) (by decide) _).mono ?_
  rintro e W ⟨rfl, rfl⟩
  have oX : Only [] W (W.alloc (.cells #[.int .i64 0, .int .i64 (modI c.f 5), .int .i64 0, .int .i64 0] 33)) := (Only.refl [] W).alloc _
  have bX : CBox (W.alloc (.cells #[.int .i64 0, .int .i64 (modI c.f 5), .int .i64 0, .int .i64 0] 33)) W.heap.size ⟨0, modI c.f 5, 0, 0⟩ := CBox.new W ⟨0, modI c.f 5, 0, 0⟩
  obtain ⟨bA, bB⟩ := HA.out
  have bA2 := bA.only0 oX
  have bB2 := bB.only0 oX
  have HO := Lib.hid (HN.out.1.trans' oX)
  go_wp2_with fail
  refine (KO.out _).mono ?_
  rintro e W0 ⟨rfl, rfl⟩
  clear KO x0 x1 x2 x3 y0 y1 y2 y3 f0 f1 f2 f3 lA lB HA
  generalize W.alloc (.cells #[.int .i64 0, .int .i64 (modI c.f 5), .int .i64 0, .int .i64 0] 33) = U at *
  rw [hsz] at bX
  obtain ⟨x0, x1, x2, x3⟩ := bA2.c
  obtain ⟨y0, y1, y2, y3⟩ := bB2.c
  obtain ⟨z0, z1, z2, z3⟩ := bX.c
  simp only at y0 y1 y2 y3 z0 z1 z2 z3
  have f0 := bB2.fr 0
  have f1 := bB2.fr 1
  have f2 := bB2.fr 2
  have f3 := bB2.fr 3
  have g0 := bX.fr 0
  have g1 := bX.fr 1
  have g2 := bX.fr 2
  have g3 := bX.fr 3
  have lA := bA2.lt
  have lB := bB2.lt
  have lX := bX.lt
  clear bA bB bA2 bB2 bX oX hsz
  go_wp2_with fail
  refine bodyPost_ret ?_ rfl ⟨rfl, ?_⟩
  · rw [results_cell1 rfl, HE.out]; go_simp
  · have h9 := HN.out.2
    repeat' (first | with_reducible exact HO.out | with_reducible refine Only.setCell ?_ (.inr ?_) _ | with_reducible refine Only.drew ?_)
    all_goals (simp only; omega)
set_option maxHeartbeats 2000000 in
theorem sCall8 (c : Cl) (w : World) (h : modI c.f 23 ≠ 22) (hE : c.near = ⟨5, 0, modI c.a 6, 0⟩) (q0 : modI c.op 10 ≠ 0) (q1 : modI c.op 10 ≠ 1) (q6 : modI c.op 10 ≠ 6) (q7 : modI c.op 10 ≠ 7) (q8 : modI c.op 10 = 8) : Calls Tryz.prog 12 #[.agg #[.int .i64 c.op, .int .i64 c.f, .int .i64 c.a, .int .i64 c.b]] w fun e w' => e = .returned (.agg #[.int .i64 c.near.op, .int .i64 c.near.f, .int .i64 c.near.a, .int .i64 c.near.b]) ∧ Only [] w w' := by
  obtain ⟨o, bA, bB, hsz⟩ := clW_is w c
  obtain ⟨x0, x1, x2, x3⟩ := bA.c
  obtain ⟨y0, y1, y2, y3⟩ := bB.c
  simp only at y0 y1 y2 y3
  have f0 := bB.fr 0
  have f1 := bB.fr 1
  have f2 := bB.fr 2
  have f3 := bB.fr 3
  have md := Lib.hid (fun (v n : Int) (h : 0 < n) (hn : n ≤ 1000000) (w : World) => sMod v n h hn w)
  have lA := bA.lt
  have lB := bB.lt
  have HA := Lib.hid (And.intro bA bB)
  have h' : (modI c.f 23 == 22) = false := by simpa using h
  have u5 := modI_lt c.f (n := 5) (by decide)
  have a5 := modI_lt c.a (n := 5) (by decide)
  have b3 := modI_lt c.b (n := 3) (by decide)
  have a9 := modI_lt c.a (n := 9) (by decide)
  have a65 := modI_lt c.a (n := 65536) (by decide)
  have HE := Lib.hid hE
  clear hE
  obtain ⟨t, et⟩ : ∃ t, modI c.op 10 = t := ⟨_, rfl⟩
  rw [et] at q0 q1 q6 q7 q8
  have q0' : (t == 0) = false := by simpa using q0
  have q1' : (t == 1) = false := by simpa using q1
  have q6' : (t == 6) = false := by simpa using q6
  have q7' : (t == 7) = false := by simpa using q7
  have q8' : (t == 8) = true := by simpa using q8
  clear q0 q1 q6 q7 q8
  have kO := fun W => sMod c.op 10 (by decide) (by decide) W
  rw [et] at kO
  have KO := Lib.hid kO
  clear h et kO
  go_enter Tryz.func12, Tryz.ntmps12
  go_wp2_with fail
  refine (md.out c.f 23 (by decide) (by decide) (clW w c)).mono ?_
  rintro e W0 ⟨rfl, rfl⟩
  generalize clW w c = W at *
  obtain ⟨N, eN⟩ : ∃ N, w.heap.size = N := ⟨_, rfl⟩
  rw [eN] at x0 x1 x2 x3 y0 y1 y2 y3 f0 f1 f2 f3 lA lB hsz HA ⊢
  have HN := Lib.hid (And.intro o eN)
  clear eN o bA bB
  go_wp2_with fail
  refine (md.out _ _ (by decide) (by decide) _).mono ?_
  rintro e W ⟨rfl, rfl⟩
  have oX : Only [] W (W.alloc (.cells #[.int .i64 0, .int .i64 (modI c.f 5), .int .i64 0, .int .i64 0] 33)) := (Only.refl [] W).alloc _
  have bX : CBox (W.alloc (.cells #[.int .i64 0, .int .i64 (modI c.f 5), .int .i64 0, .int .i64 0] 33)) W.heap.size ⟨0, modI c.f 5, 0, 0⟩ := CBox.new W ⟨0, modI c.f 5, 0, 0⟩
  obtain ⟨bA, bB⟩ := HA.out
  have bA2 := bA.only0 oX
  have bB2 := bB.only0 oX
  have HO := Lib.hid (HN.out.1.trans' oX)
  go_wp2_with fail
  refine (KO.out _).mono ?_
  rintro e W0 ⟨rfl, rfl⟩
  clear KO x0 x1 x2 x3 y0 y1 y2 y3 f0 f1 f2 f3 lA lB HA
  generalize W.alloc (.cells #[.int .i64 0, .int .i64 (modI c.f 5), .int .i64 0, .int .i64 0] 33) = U at *
  rw [hsz] at bX
  obtain ⟨x0, x1, x2, x3⟩ := bA2.c
  obtain ⟨y0, y1, y2, y3⟩ := bB2.c
  obtain ⟨z0, z1, z2, z3⟩ := bX.c
  simp only at y0 y1 y2 y3 z0 z1 z2 z3
  have f0 := bB2.fr 0
  have f1 := bB2.fr 1
  have f2 := bB2.fr 2
  have f3 := bB2.fr 3
  have g0 := bX.fr 0
  have g1 := bX.fr 1
  have g2 := bX.fr 2
  have g3 := bX.fr 3
  have lA := bA2.lt
  have lB := bB2.lt
  have lX := bX.lt
  clear bA bB bA2 bB2 bX oX hsz
  go_wp2_with fail
  refine (md.out _ _ (by decide) (by decide) _).mono ?_
  rintro e U ⟨rfl, rfl⟩
  go_wp2_with fail
  refine bodyPost_ret ?_ rfl ⟨rfl, ?_⟩
  · rw [results_cell1 rfl, HE.out]; go_simp
  · have h9 := HN.out.2
    repeat' (first | with_reducible exact HO.out | with_reducible refine Only.setCell ?_ (.inr ?_) _ | with_reducible refine Only.drew ?_)
    all_goals (simp only; omega)
set_option maxHeartbeats 2000000 in
theorem sCall9 (c : Cl) (w : World) (h : modI c.f 23 ≠ 22) (hE : c.near = ⟨6, 0, 0, 0⟩) (q0 : modI c.op 10 ≠ 0) (q1 : modI c.op 10 ≠ 1) (q6 : modI c.op 10 ≠ 6) (q7 : modI c.op 10 ≠ 7) (q8 : modI c.op 10 ≠ 8) (q9 : modI c.op 10 = 9) : Calls Tryz.prog 12 #[.agg #[.int .i64 c.op, .int .i64 c.f, .int .i64 c.a, .int .i64 c.b]] w fun e w' => e = .returned (.agg #[.int .i64 c.near.op, .int .i64 c.near.f, .int .i64 c.near.a, .int .i64 c.near.b]) ∧ Only [] w w' := by
  obtain ⟨o, bA, bB, hsz⟩ := clW_is w c
  obtain ⟨x0, x1, x2, x3⟩ := bA.c
  obtain ⟨y0, y1, y2, y3⟩ := bB.c
  simp only at y0 y1 y2 y3
  have f0 := bB.fr 0
  have f1 := bB.fr 1
  have f2 := bB.fr 2
  have f3 := bB.fr 3
  have md := Lib.hid (fun (v n : Int) (h : 0 < n) (hn : n ≤ 1000000) (w : World) => sMod v n h hn w)
  have lA := bA.lt
  have lB := bB.lt
  have HA := Lib.hid (And.intro bA bB)
  have h' : (modI c.f 23 == 22) = false := by simpa using h
  have u5 := modI_lt c.f (n := 5) (by decide)
  have a5 := modI_lt c.a (n := 5) (by decide)
  have b3 := modI_lt c.b (n := 3) (by decide)
  have a9 := modI_lt c.a (n := 9) (by decide)
  have a65 := modI_lt c.a (n := 65536) (by decide)
  have HE := Lib.hid hE
  clear hE
  obtain ⟨t, et⟩ : ∃ t, modI c.op 10 = t := ⟨_, rfl⟩
  rw [et] at q0 q1 q6 q7 q8 q9
  have q0' : (t == 0) = false := by simpa using q0
  have q1' : (t == 1) = false := by simpa using q1
  have q6' : (t == 6) = false := by simpa using q6
  have q7' : (t == 7) = false := by simpa using q7
  have q8' : (t == 8) = false := by simpa using q8
  have q9' : (t == 9) = true := by simpa using q9
  clear q0 q1 q6 q7 q8 q9
  have kO := fun W => sMod c.op 10 (by decide) (by decide) W
  rw [et] at kO
  have KO := Lib.hid kO
  clear h et kO
  go_enter Tryz.func12, Tryz.ntmps12
  go_wp2_with fail
  refine (md.out c.f 23 (by decide) (by decide) (clW w c)).mono ?_
  rintro e W0 ⟨rfl, rfl⟩
  generalize clW w c = W at *
  obtain ⟨N, eN⟩ : ∃ N, w.heap.size = N := ⟨_, rfl⟩
  rw [eN] at x0 x1 x2 x3 y0 y1 y2 y3 f0 f1 f2 f3 lA lB hsz HA ⊢
  have HN := Lib.hid (And.intro o eN)
  clear eN o bA bB
  go_wp2_with fail
  refine (md.out _ _ (by decide) (by decide) _).mono ?_
  rintro e W ⟨rfl, rfl⟩
  have oX : Only [] W (W.alloc (.cells #[.int .i64 0, .int .i64 (modI c.f 5), .int .i64 0, .int .i64 0] 33)) := (Only.refl [] W).alloc _
  have bX : CBox (W.alloc (.cells #[.int .i64 0, .int .i64 (modI c.f 5), .int .i64 0, .int .i64 0] 33)) W.heap.size ⟨0, modI c.f 5, 0, 0⟩ := CBox.new W ⟨0, modI c.f 5, 0, 0⟩
  obtain ⟨bA, bB⟩ := HA.out
  have bA2 := bA.only0 oX
  have bB2 := bB.only0 oX
  have HO := Lib.hid (HN.out.1.trans' oX)
  go_wp2_with fail
  refine (KO.out _).mono ?_
  rintro e W0 ⟨rfl, rfl⟩
  clear KO x0 x1 x2 x3 y0 y1 y2 y3 f0 f1 f2 f3 lA lB HA
  generalize W.alloc (.cells #[.int .i64 0, .int .i64 (modI c.f 5), .int .i64 0, .int .i64 0] 33) = U at *
  rw [hsz] at bX
  obtain ⟨x0, x1, x2, x3⟩ := bA2.c
  obtain ⟨y0, y1, y2, y3⟩ := bB2.c
  obtain ⟨z0, z1, z2, z3⟩ := bX.c
  simp only at y0 y1 y2 y3 z0 z1 z2 z3
  have f0 := bB2.fr 0
  have f1 := bB2.fr 1
  have f2 := bB2.fr 2
  have f3 := bB2.fr 3
  have g0 := bX.fr 0
  have g1 := bX.fr 1
  have g2 := bX.fr 2
  have g3 := bX.fr 3
  have lA := bA2.lt
  have lB := bB2.lt
  have lX := bX.lt
  clear bA bB bA2 bB2 bX oX hsz
  go_wp2_with fail
  refine bodyPost_ret ?_ rfl ⟨rfl, ?_⟩
  · rw [results_cell1 rfl, HE.out]; go_simp
  · have h9 := HN.out.2
    repeat' (first | with_reducible exact HO.out | with_reducible refine Only.setCell ?_ (.inr ?_) _ | with_reducible refine Only.drew ?_)
    all_goals (simp only; omega)
end Go.Proofs.YtklolepmmabijaaGreat
