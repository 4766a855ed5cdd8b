/-
  awake; events and locations by value, slices of events, as they come in.
-/
import Derived.Test.YtmgmfihjojhilaaRcP
import Derived.Test.YtmgmfihjojhilaaRcR
import Derived.Test.YtmgmfihjojhilaaClkW
namespace Go.Proofs.Ytmgmfihjojhilaa
set_option maxRecDepth 100000
open Go.RowKit Go.ChangeShapes Go.WideShapes Go.ChangeAt Go.Joins Go.Deep
set_option linter.unusedVariables false
set_option linter.unusedSimpArgs false
set_option maxRecDepth 100000

/-- A row of events that was built just now. -/
theorem eRow_lit (w : World) (xs : List Ev) (hl : xs.length ≤ 1000) : eE.Row (w.alloc (.cells (eE.flat xs).toArray eE.T)) (.slice (some ⟨w.heap.size, 0, none⟩) xs.length xs.length) xs :=
  ⟨by rw [eE.flat_length], .inr ⟨w.heap.size, xs.length, _, rfl, Nat.zero_le _, heap_alloc_new w _, Nat.le_refl _, by unfold maxLen; omega, by simp [eE.flat_length], by
    rw [List.toList_toArray, List.take_of_length_le (by rw [eE.flat_length]; exact Nat.le_refl _)]⟩⟩
theorem Evs.lit (w : World) (xs : List Ev) (hl : xs.length ≤ 1000) : Evs (w.alloc (.cells (eE.flat xs).toArray eE.T)) (some ⟨w.heap.size, 0, none⟩) xs := Evs.of_row (eRow_lit w xs hl)
theorem i64_small (n : Int) (h : -100 ≤ n ∧ n ≤ 100) : i64ok n := i64_of (by omega)
def evW : Ev := ⟨0, 6, ⟨16, 0, 0⟩⟩
def evR : Ev := ⟨1, 5, ⟨16, 0, 0⟩⟩
def evL : Ev := ⟨1, 1, ⟨16, 0, 0⟩⟩
def evN : Ev := ⟨-1, 1, ⟨0, 0, 0⟩⟩
theorem first2 : FirstL [evW, evR] 0 1 true :=
  .inl ⟨by decide, .inr ⟨rfl, 0, 1, rfl, rfl, by decide, by decide, by decide +kernel, fun j' hj' i' hi' => by omega, fun i' hi' => by omega⟩⟩
theorem clk1 : clk (evs [evL]) 0 = [0, 1] := by decide +kernel
theorem lc_ok16 : (⟨16, 0, 0⟩ : Lc).ok := ⟨i64_small _ (by decide), i64_small _ (by decide), i64_small _ (by decide)⟩
set_option maxHeartbeats 2000000 in
theorem lAwake (w : World) : Calls Try.prog 14 #[] w fun e w' => e = .returned (.bool true) ∧ Only [] w w' := by
  have k1 := Lib.hid (fun (W : World) => cFirst (some ⟨W.heap.size, 0, none⟩) 2 2 [evW, evR] (W.alloc (.cells (eE.flat [evW, evR]).toArray eE.T)) 0 1 true rfl (by decide) (Evs.lit W _ (by decide)) (fun i hi => by
    match i, hi with
    | 0, _ => exact lc_ok16
    | 1, _ => exact lc_ok16) first2)
  have k2 := Lib.hid (fun (W : World) => cClocksR (some ⟨W.heap.size, 0, none⟩) 1 1 [evL] (W.alloc (.cells (eE.flat [evL]).toArray eE.T)) rfl (by decide) (Evs.lit W _ (by decide)) (fun i hi => by
    match i, hi with
    | 0, _ => exact lc_ok16))
  have k3 := Lib.hid (fun (W : World) (A : Option Addr) (c : Nat) (h : Nums 0 W A [0, 1]) => iPlain _ A _ 2 c 2 [0, 1] rfl (by decide) (h.only0 ((Only.refl [] W).alloc (.cells #[.int .i64 0, .int .i64 1] 3))) (Nums.lit2 W 0 1))
  have k4 := Lib.hid (fun (W : World) => by have c := cRight none 0 0 [] W rfl (by decide) (Evs.nil _ _); rw [show okL [] = true from rfl] at c; exact c)
  have k5 := Lib.hid (fun (W : World) => by have c := cRight (some ⟨W.heap.size, 0, none⟩) 1 1 [evN] (W.alloc (.cells (eE.flat [evN]).toArray eE.T)) rfl (by decide) (Evs.lit W _ (by decide)); rw [show okL [evN] = false by decide] at c; exact c)
  have al : Hid (∀ (W : World) (o : Obj), Only [] W (W.alloc o)) := fun W o => (Only.refl [] W).alloc o
  have LB : Hid (∀ W, Only [] (w.alloc (.cells #[.int .i64 16, .int .i64 0, .int .i64 0] 34)) W → W.cell? ⟨w.heap.size, 0, none⟩ = some (.int .i64 16) ∧ W.cell? ⟨w.heap.size, 1, none⟩ = some (.int .i64 0) ∧ W.cell? ⟨w.heap.size, 2, none⟩ = some (.int .i64 0)) := fun W o => by
    have hb := o.get (heap_alloc_new w (.cells #[.int .i64 16, .int .i64 0, .int .i64 0] 34)) (by simp)
    exact ⟨by rw [cell_of_row W _ _ _ _ (0, 0) hb]; rfl, by rw [cell_of_row W _ _ _ _ (0, 0) hb]; rfl, by rw [cell_of_row W _ _ _ _ (0, 0) hb]; rfl⟩
  have OL : Hid (Only [] w (w.alloc (.cells #[.int .i64 16, .int .i64 0, .int .i64 0] 34))) := (Only.refl [] w).alloc _
  have n1 : clkN [evL] = 1 := rfl
  rw [n1] at k2
  clear n1
  go_enter Try.func14, Try.ntmps14
  go_upto_region 2 with fail
  generalize w.alloc (.cells #[.int .i64 16, .int .i64 0, .int .i64 0] 34) = W0 at *
  generalize w.heap.size = bl at *
  obtain ⟨l0, l1, l2⟩ := LB.out W0 (Only.refl _ _)
  go_wp2_with fail
  refine (k1.out W0).mono ?_
  rintro e w1 ⟨rfl, o1⟩
  have O1 : Hid (Only [] W0 w1) := (al.out W0 _).trans' o1
  clear o1 k1 l0 l1 l2
  obtain ⟨l0, l1, l2⟩ := LB.out w1 O1.out
  go_wp2_with fail
  refine (k2.out w1).mono ?_
  rintro e w2 ⟨A2, c2, rfl, r2, o2⟩
  have O2 : Hid (Only [] W0 w2) := O1.out.trans' ((al.out w1 _).trans' o2)
  obtain ⟨gr, B, mm, cc, rfl, x0, nn, ll, _⟩ := r2 0 (by decide)
  rw [clk1] at nn ll
  obtain rfl : mm = 2 := ll.symm
  have N2 := Lib.hid nn
  clear o2 k2 l0 l1 l2 r2 nn ll
  have x1 : (w2.alloc (.cells #[.int .i64 0, .int .i64 1] 3)).cell? ⟨gr, 0, none⟩ = some (.slice B 2 cc) := ((al.out w2 _).cell (World.block_lt_of_cell? _ _ x0) (by simp)).trans x0
  go_wp2_with fail
  refine (k3.out w2 B cc N2.out).mono ?_
  rintro e w3 ⟨rfl, o3⟩
  have O3 : Hid (Only [] W0 w3) := O2.out.trans' ((al.out w2 _).trans' o3)
  clear o3 k3 N2
  go_wp2_with fail
  refine (k4.out w3).mono ?_
  rintro e w4 ⟨rfl, o4⟩
  have O4 : Hid (Only [] W0 w4) := O3.out.trans' o4
  clear o4 k4
  go_wp2_with fail
  refine (k5.out w4).mono ?_
  rintro e w5 ⟨rfl, o5⟩
  have O5 : Hid (Only [] W0 w5) := O4.out.trans' ((al.out w4 _).trans' o5)
  clear o5 k5
  go_wp2_with fail
  go_ret
  exact ⟨rfl, OL.out.trans' O5.out⟩

/-! ### as they come in -/
theorem cellsEv : Try.prog.cellsOf 36 = 5 := by kernel_rfl
theorem cellsLc : Try.prog.cellsOf 34 = 3 := by kernel_rfl
theorem cellsI : Try.prog.cellsOf 3 = 1 := by kernel_rfl
theorem array5e {α : Type} {cs : Array α} (h : cs.size = 5) : ∃ c0 c1 c2 c3 c4, cs = #[c0, c1, c2, c3, c4] := by
  obtain ⟨l⟩ := cs
  match l, h with
  | [c0, c1, c2, c3, c4], _ => exact ⟨c0, c1, c2, c3, c4, rfl⟩
theorem add_atR (x : Addr) (n j : Nat) (hj : 0 < j) {b o : Nat} {s : Option Nat} (h : x.add n = ⟨b, o, s⟩) : x.add (n + j) = ⟨b, o + j, none⟩ := by
  unfold Addr.add at h ⊢
  rw [if_neg (by omega)]
  split at h
  · rename_i h0
    subst h0
    subst h
    simp
  · injection h with h1 h2 h3
    subst h1 h2
    simp [Nat.add_assoc]
section
variable {H : Type} {enc : TypeId × Value → H} {w : World} {sp : Nat → Bool} {held : Bool} {fuel : Nat}
theorem open_evs {a : Option Addr} {len cap : Nat} {x : DataW H × List MemPlace} (h : DataW.trod enc Try.prog w 0 sp held fuel 22 [.slice a len cap] = some x) : ∃ ds, InEvs w a len ds := by
  rcases open_slice Try.underlying22 h with ⟨e, _⟩ | ⟨ad, len', cap', m, n, D, Pl, e, _, hl, hm, hmm, _, hx⟩
  · injection e with e _
    injection e with e1 e2 e3
    subst e1 e2
    exact ⟨fun _ => default, fun k hk => absurd hk (by omega)⟩
  · injection e with e _
    injection e with e1 e2 e3
    subst e1 e2 e3
    have hlm : len ≤ m := by rw [hmm]; split <;> omega
    have each : ∀ k, k < len → ∃ z : Ev, z.ok ∧ ∃ (b o : Nat) (s : Option Nat), ad.add (k * 5) = ⟨b, o, s⟩ ∧ b < w.heap.size ∧ w.cell? ⟨b, o, s⟩ = some (.int .i64 z.who) ∧ w.cell? ⟨b, o + 1, none⟩ = some (.int .i64 z.kind) ∧ w.cell? ⟨b, o + 2, none⟩ = some (.int .i64 z.lc.k) ∧ w.cell? ⟨b, o + 3, none⟩ = some (.int .i64 z.lc.a) ∧ w.cell? ⟨b, o + 4, none⟩ = some (.int .i64 z.lc.b) := by
      intro k hk
      obtain ⟨cs', g1, g2⟩ := hx k (by omega)
      rw [cellsEv] at g1
      obtain ⟨_, hcl, hcell⟩ := World.cells?_some g1
      obtain ⟨ys, n', _, _, _, hyl, hf⟩ := DataW.trod_struct Try.underlying36 g2
      match cs', hcl with
      | [v0, v1, v2, v3, v4], _ =>
        have t0 := hf 0 _ rfl
        have t1 := hf 1 _ rfl
        have t2 := hf 2 _ rfl
        simp [cellsI, cellsLc] at t0 t1 t2
        match ys, hyl with
        | [u0, u1, u2], _ =>
          simp at t0 t1 t2
          obtain ⟨z0, q0, _, w0⟩ := DataW.trod_int Try.underlying3 t0
          obtain ⟨z1, q1, _, w1⟩ := DataW.trod_int Try.underlying3 t1
          obtain ⟨ys', n2, _, _, _, hyl', hf'⟩ := DataW.trod_struct Try.underlying34 t2
          have t3 := hf' 0 _ rfl
          have t4 := hf' 1 _ rfl
          have t5 := hf' 2 _ rfl
          simp [cellsI] at t3 t4 t5
          match ys', hyl' with
          | [u3, u4, u5], _ =>
            simp at t3 t4 t5
            obtain ⟨z2, q2, _, w2⟩ := DataW.trod_int Try.underlying3 t3
            obtain ⟨z3, q3, _, w3⟩ := DataW.trod_int Try.underlying3 t4
            obtain ⟨z4, q4, _, w4⟩ := DataW.trod_int Try.underlying3 t5
            injection q0 with q0 _
            injection q1 with q1 _
            injection q2 with q2 _
            injection q3 with q3 _
            injection q4 with q4 _
            subst q0 q1 q2 q3 q4
            have e0 := hcell 0 (by omega)
            have e1 := hcell 1 (by omega)
            have e2 := hcell 2 (by omega)
            have e3 := hcell 3 (by omega)
            have e4 := hcell 4 (by omega)
            rw [Go.Deep.add_add] at e0 e1 e2 e3 e4
            simp at e0 e1 e2 e3 e4
            obtain ⟨⟨b, o, s⟩, eA⟩ : ∃ A, ad.add (k * 5) = A := ⟨_, rfl⟩
            rw [eA] at e0
            rw [add_atR ad (k * 5) 1 (by omega) eA] at e1
            rw [add_atR ad (k * 5) 2 (by omega) eA] at e2
            rw [add_atR ad (k * 5) 3 (by omega) eA] at e3
            rw [add_atR ad (k * 5) 4 (by omega) eA] at e4
            exact ⟨⟨z0, z1, ⟨z2, z3, z4⟩⟩, ⟨w0, w1, w2, w3, w4⟩, b, o, s, eA, World.block_lt_of_cell? w _ e0, e0, e1, e2, e3, e4⟩
    obtain ⟨q, hq⟩ := choose_lt each
    refine ⟨q, fun k hk => ?_⟩
    obtain ⟨hok, b, o, s, r1, r2, r3, r4, r5, r6, r7⟩ := hq k hk
    exact ⟨hok, ad, b, o, s, rfl, r1, r2, r3, r4, r5, r6, r7⟩
end
end Go.Proofs.Ytmgmfihjojhilaa
