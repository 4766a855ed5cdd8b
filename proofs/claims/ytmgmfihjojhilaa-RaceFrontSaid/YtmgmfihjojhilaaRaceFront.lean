/-
  weighbridgelaw13.RaceFront returns true for every input, and leaves its arguments as they were. No condition but that the arguments are values of their types.
-/
import Derived.Test.YtmgmfihjojhilaaRows
import Derived.Test.YtmgmfihjojhilaaRcU
import Derived.WalkKit
import Derived.ProofKit
import Derived.OpenShut
import Derived.ChangeOld
import Derived.Below
namespace Go.Proofs.Ytmgmfihjojhilaa.raceFront
open Go.ChangeShapes Go.WideShapes Go.ChangeAt Go.RowKit
set_option linter.unusedVariables false
set_option linter.unusedSimpArgs false

set_option maxRecDepth 100000 in
set_option maxHeartbeats 4000000 in
theorem walk (a0 : Option Addr) (len0 cap0 : Nat) (z0 : Nat → Ev) (a1 : Option Addr) (len1 cap1 : Nat) (z1 : Nat → Int) (a2 : Int) (w : World) (w0 : InEvs w a0 len0 z0) (w1 : InNums .i64 w a1 len1 z1) (w2 : (Lit.int .i64 a2).wf = true) :
    Calls Try.prog 7 #[.slice a0 len0 cap0, .slice a1 len1 cap1, .int .i64 a2] w fun e w' => e = .returned (.bool true) ∧ Below w.heap.size w w' := by
  have LG := Lib.hid (lLong w a0 len0 cap0 z0 a1 len1 cap1 z1 w0 w1)
  clear w0 w1
  go_enter Try.func7, Try.ntmps7
  go_wp2_with fail
  refine LG.out.mono ?_
  rintro e v1 ⟨A, m, c, rfl, hm, xs, R1⟩
  have R := Lib.hid R1
  clear LG R1
  have ML := Lib.hid R.out.len
  have O : Hid (Only [] v1 v1) := Only.refl [] v1
  have kR := Lib.hid (fun (W : World) (o : Only [] v1 W) => cRight A m c xs W ML.out (by omega) (R.out.only0 o).ev)
  have rR := Lib.hid (fun (W : World) (o : Only [] v1 W) => (rRight A m c xs W ML.out (by omega) (R.out.only0 o).ev).mono fun e w' q => (⟨q.1, by rw [q.2]; exact Only.refl [] _⟩ : e = .returned (.bool (okL xs)) ∧ Only [] W w'))
  have kC := Lib.hid (fun (W : World) (o : Only [] v1 W) => cClocksR A m c xs W ML.out (by omega) (R.out.only0 o).ev R.out.lc)
  have rC := Lib.hid (fun (W : World) (o : Only [] v1 W) => rClocksR A m c xs W ML.out (by omega) (R.out.only0 o).ev)
  have kB := Lib.hid (fun (i j : Int) (W : World) (o : Only [] v1 W) => cBefore A m c xs i j W ML.out (by omega) (R.out.only0 o).ev R.out.lc)
  have kA := Lib.hid (fun (W : World) => lAwake W)
  have md := Lib.hid (fun (v n : Int) (h : 0 < n) (hn : n ≤ 1000000) (w : World) => cMod v n h hn w)
  rcases hok : okL xs
  · have rR := Lib.hid rR.out
    rw [hok] at kR rR
    clear hok
    go_wp2_with fail
    refine (kA.out _).mono ?_
    rintro e V ⟨rfl, o⟩
    have O := Lib.hid (O.out.trans' o)
    
    clear o
    go_wp2_with fail
    refine (rR.out _ O.out).mono ?_
    rintro e V ⟨rfl, o⟩
    have O := Lib.hid (O.out.trans' o)
    
    clear o
    go_wp2_with fail
    refine (kA.out _).mono ?_
    rintro e V ⟨rfl, o⟩
    have O := Lib.hid (O.out.trans' o)
    
    clear o
    go_wp2_with fail
    refine (kR.out _ O.out).mono ?_
    rintro e V ⟨rfl, o⟩
    have O := Lib.hid (O.out.trans' o)
    
    clear o
    go_wp2_with fail
    go_ret
    exact ⟨by simp, (R.out.only.trans' O.out).below (Nat.le_refl _) (by simp)⟩
  rw [hok] at kR rR
  have OK := Lib.hid hok
  clear hok
  obtain ⟨q, hq, hqm⟩ : ∃ q : Nat, modI a2 ((m : Int) + 1) = (q : Int) ∧ q < m + 1 := by
    obtain ⟨q, h1, h2⟩ := modI_nat a2 (n := m + 1) (by omega)
    exact ⟨q, by rw [← h1]; rfl, h2⟩
  have mq := Lib.hid (fun (W : World) => md.out a2 ((m : Int) + 1) (by omega) (by omega) W)
  rw [hq] at mq
  clear hq
  have hO : Hid (∀ i, i < m → okE (evs xs i) = true) := fun i hi => okL_iff.1 OK.out i (by have := ML.out; omega)
  have hqm' : q ≤ m := by omega
  have TL : Hid ((xs.take q).length = q) := by show _ = _; rw [List.length_take]; have := ML.out; omega
  have TE : Hid (∀ k, k < q → evs (xs.take q) k = evs xs k) := fun k hk => evs_take hk
  have TLc : Hid (∀ i, i < q → (evs (xs.take q) i).lc.ok) := fun i hi => by rw [TE.out i hi]; exact R.out.lc i (by omega)
  have tC := Lib.hid (fun (W : World) (o : Only [] v1 W) => cClocksR A q q (xs.take q) W TL.out (by omega) ((R.out.only0 o).ev.take q) TLc.out)
  have N1 : Hid (clkN xs = m) := by show _ = _; rw [clkN_ok OK.out]; exact ML.out
  have N2 : Hid (clkN (xs.take q) = q) := by show _ = _; rw [clkN_ok (okL_take OK.out q)]; exact TL.out
  rw [N2.out] at tC
  clear kC
  have kF := Lib.hid (fun (W : World) (o : Only [] v1 W) => cClocksF A m c xs W ML.out (by omega) (R.out.only0 o).ev OK.out R.out.lc)
  obtain ⟨fa, fb, fk, hF⟩ := FirstL.is xs
  obtain ⟨ga, gb, gk, hG⟩ := FirstL.is (xs.take q)
  have F := Lib.hid hF
  have GF := Lib.hid hG
  have F1 : Hid (FirstIs (evs xs) m fa fb fk) := by have := hF.ok_is OK.out; rw [ML.out] at this; exact this
  have G1 : Hid (FirstIs (evs xs) q ga gb gk) := by have := hG.ok_is (okL_take OK.out q); rw [TL.out] at this; exact this.congr TE.out
  clear hF hG
  have k1 := Lib.hid (fun (W : World) (o : Only [] v1 W) => cFirst A m c xs W fa fb fk ML.out (by omega) (R.out.only0 o).ev R.out.lc F.out)
  have k2 := Lib.hid (fun (W : World) (o : Only [] v1 W) => cFirst A q q (xs.take q) W ga gb gk TL.out (by omega) ((R.out.only0 o).ev.take q) TLc.out GF.out)
  have hmc : m ≤ c := by
    rcases R.out.row.2 with ⟨e, e2⟩ | ⟨g, cap, cur, e, _, _, hnc, _⟩
    · injection e with e0 e1 e3; omega
    · injection e with e0 e1 e3; omega
  have hAc : A = none → c = 0 := fun hA => by
    rcases R.out.row.2 with ⟨e, e2⟩ | ⟨g, cap, cur, e, _⟩
    · injection e with e0 e1 e3
    · rw [hA] at e; cases e
  go_wp2_with fail
  refine (kA.out _).mono ?_
  rintro e V ⟨rfl, o⟩
  have O := Lib.hid (O.out.trans' o)
  
  clear o
  go_wp2_with fail
  refine (rR.out _ O.out).mono ?_
  rintro e V ⟨rfl, o⟩
  have O := Lib.hid (O.out.trans' o)
  
  clear o
  have b1 : (q : Int) ≤ (m : Int) := by omega
  have b2 : (q : Int) ≤ (c : Int) := by omega
  have b3 : ¬ ((m : Int) < (q : Int)) := by omega
  have b4 : ¬ ((c : Int) < (q : Int)) := by omega
  have b5 : q ≤ c := by omega
  go_wp2_with fail
  refine (mq.out _).mono ?_
  rintro e V2 ⟨rfl, hv⟩
  rw [hv]
  clear hv mq
  have hA : A = none ∨ ∃ gA, A = some ⟨gA, 0, none⟩ := by
    rcases R.out.row.2 with ⟨e, e2⟩ | ⟨g, cap, cur, e, _⟩
    · injection e with e0; exact .inl e0
    · injection e with e0; exact .inr ⟨g, e0⟩
  go_wp2_with fail
  rcases hA with rfl | ⟨gA, rfl⟩
  · -- none
    obtain rfl : q = 0 := by have := hAc rfl; omega
    have hm0 := Lib.hid (hAc rfl)
    clear hAc
    refine wp_region_held_drew (S := (fun _ => True)) (by kernel_rfl) trivial (fun hHeld => ?_)
    refine takeH (i := 0) (v := ?_) rfl (by kernel_rfl) (by kernel_rfl) (by kernel_rfl) (fun _ _ _ h => h) (Or.inl ⟨by rfl, ?_⟩) (by assumption) ?_
    rotate_left 1
    · (intro w hSw; (try dsimp only at hSw); go_simp; try (with_reducible rfl))
    try simp only [Act.put, List.setIfInBounds_toArray, List.set_cons_zero, List.set_cons_succ]
    refine takeH (i := 2) (v := ?_) rfl (by kernel_rfl) (by kernel_rfl) (by kernel_rfl) (fun _ _ _ h => h) (Or.inl ⟨by rfl, ?_⟩) (by assumption) ?_
    rotate_left 1
    · (intro w hSw; (try dsimp only at hSw); go_simp; try (with_reducible rfl))
    try simp only [Act.put, List.setIfInBounds_toArray, List.set_cons_zero, List.set_cons_succ]
    refine takeH (i := 3) (v := ?_) rfl (by kernel_rfl) (by kernel_rfl) (by kernel_rfl) (fun _ _ _ h => h) (Or.inl ⟨by rfl, ?_⟩) (by assumption) ?_
    rotate_left 1
    · (intro w hSw; (try dsimp only at hSw); go_simp; try (with_reducible rfl))
    try simp only [Act.put, List.setIfInBounds_toArray, List.set_cons_zero, List.set_cons_succ]
    refine takeH (i := 4) (v := ?_) rfl (by kernel_rfl) (by kernel_rfl) (by kernel_rfl) (fun _ _ _ h => h) (Or.inl ⟨by rfl, ?_⟩) (by assumption) ?_
    rotate_left 1
    · (intro w hSw; (try dsimp only at hSw); go_simp; try (with_reducible rfl))
    try simp only [Act.put, List.setIfInBounds_toArray, List.set_cons_zero, List.set_cons_succ]
    refine takeH (i := 5) (v := ?_) rfl (by kernel_rfl) (by kernel_rfl) (by kernel_rfl) (fun _ _ _ h => h) (Or.inl ⟨by rfl, ?_⟩) (by assumption) ?_
    rotate_left 1
    · (intro w hSw; (try dsimp only at hSw); go_simp; try (with_reducible rfl))
    try simp only [Act.put, List.setIfInBounds_toArray, List.set_cons_zero, List.set_cons_succ]
    refine wpAnyH_ready (rs := [1]) (by kernel_rfl) (by simp) ?_
    refine consH rfl (fun K hK => ?_) AllReadyH.nil
    go_simp
    refine (kF.out _ O.out.drew).mono ?_
    rintro e V3 ⟨A5, c5, rfl, ⟨r5, hc5, hA5⟩, o⟩
    have O := Lib.hid (O.out.drew.trans' o)
    have R5 := Lib.hid r5
    have HA5 := Lib.hid hA5
    clear o r5 kF hA5
    refine hK.out _ _ trivial (fun hHeld2 => ?_)
    clear hK K hHeld
    have hHeld := hHeld2
    clear hHeld2
    try simp only [Act.put, List.setIfInBounds_toArray, List.set_cons_zero, List.set_cons_succ]
    refine wpAnyH_ready (rs := [6]) (by kernel_rfl) (by simp) ?_
    refine consH rfl (fun K hK => ?_) AllReadyH.nil
    go_simp
    refine (tC.out _ O.out).mono ?_
    rintro e V4 ⟨A6, c6, rfl, r6, o⟩
    have O := Lib.hid (O.out.trans' o)
    have R5 := Lib.hid (R5.out.only0 o)
    have R6 := Lib.hid r6
    clear o r6 tC
    refine hK.out _ _ trivial (fun hHeld2 => ?_)
    clear hK K hHeld
    have hHeld := hHeld2
    clear hHeld2
    try simp only [Act.put, List.setIfInBounds_toArray, List.set_cons_zero, List.set_cons_succ]
    refine takeH (i := 7) (v := ?_) rfl (by kernel_rfl) (by kernel_rfl) (by kernel_rfl) (fun _ _ _ h => h) (Or.inl ⟨by rfl, ?_⟩) (by assumption) ?_
    rotate_left 1
    · (intro w hSw; (try dsimp only at hSw); go_simp; try (with_reducible rfl))
    try simp only [Act.put, List.setIfInBounds_toArray, List.set_cons_zero, List.set_cons_succ]
    refine takeH (i := 8) (v := ?_) rfl (by kernel_rfl) (by kernel_rfl) (by kernel_rfl) (fun _ _ _ h => h) (Or.inl ⟨by rfl, ?_⟩) (by assumption) ?_
    rotate_left 1
    · (intro w hSw; (try dsimp only at hSw); go_simp; try (with_reducible rfl))
    try simp only [Act.put, List.setIfInBounds_toArray, List.set_cons_zero, List.set_cons_succ]
    refine wpAnyH_done (by kernel_rfl) ?_ _
    have RA : Hid (Rd V4 A5 0 (clk (evs xs))) := R5.out.less hqm'
    have RB : Hid (Rd V4 A6 0 (clk (evs xs))) := R6.out.congr fun k hk => clk_front TE.out hk
    have hq1 : 0 ≤ 1000 := by omega
    have HC := Lib.hid (hClocks V4 A5 A6 0 c5 c6 (clk (evs xs)) hq1 RA.out RB.out)
    have b6 : 0 ≤ c5 := by omega
    rcases HA5.out with ⟨hn1, hn2, hn3⟩ | ⟨gB, rfl⟩
    · -- row none
      have HM0 := Lib.hid hn2
      clear hn2
      subst hn1 hn3
      go_wp2_with fail
      refine HC.out.mono ?_
      rintro e V5 ⟨rfl, o⟩
      have O := Lib.hid (O.out.trans' o)
      clear o HC
      go_wp2_with fail
      refine (k1.out _ O.out).mono ?_
      rintro e V ⟨rfl, o⟩
      have O := Lib.hid (O.out.trans' o)
      
      clear o
      go_wp2_with fail
      refine (k2.out _ O.out).mono ?_
      rintro e V ⟨rfl, o⟩
      have O := Lib.hid (O.out.trans' o)
      
      clear o
      rcases fk
      · obtain rfl := (F1.out.none_front hqm' G1.out)
        go_wp2_with fail
        go_ret
        exact ⟨by simp, (R.out.only.trans' O.out).below (Nat.le_refl _) (by simp)⟩
      · obtain ⟨i, j, rfl, rfl, hij, hjm, hcf, hlq⟩ := F1.out.form
        have SF := Lib.hid (F1.out.some_front hqm' G1.out)
        exfalso
        have := hm0.out
        omega
    · -- row some
      go_wp2_with fail
      refine HC.out.mono ?_
      rintro e V5 ⟨rfl, o⟩
      have O := Lib.hid (O.out.trans' o)
      clear o HC
      go_wp2_with fail
      refine (k1.out _ O.out).mono ?_
      rintro e V ⟨rfl, o⟩
      have O := Lib.hid (O.out.trans' o)
      
      clear o
      go_wp2_with fail
      refine (k2.out _ O.out).mono ?_
      rintro e V ⟨rfl, o⟩
      have O := Lib.hid (O.out.trans' o)
      
      clear o
      rcases fk
      · obtain rfl := (F1.out.none_front hqm' G1.out)
        go_wp2_with fail
        go_ret
        exact ⟨by simp, (R.out.only.trans' O.out).below (Nat.le_refl _) (by simp)⟩
      · obtain ⟨i, j, rfl, rfl, hij, hjm, hcf, hlq⟩ := F1.out.form
        have SF := Lib.hid (F1.out.some_front hqm' G1.out)
        exfalso
        have := hm0.out
        omega
  · -- some
    refine wp_region_held_drew (S := (fun _ => True)) (by kernel_rfl) trivial (fun hHeld => ?_)
    refine takeH (i := 0) (v := ?_) rfl (by kernel_rfl) (by kernel_rfl) (by kernel_rfl) (fun _ _ _ h => h) (Or.inl ⟨by rfl, ?_⟩) (by assumption) ?_
    rotate_left 1
    · (intro w hSw; (try dsimp only at hSw); go_simp; try (with_reducible rfl))
    try simp only [Act.put, List.setIfInBounds_toArray, List.set_cons_zero, List.set_cons_succ]
    refine takeH (i := 2) (v := ?_) rfl (by kernel_rfl) (by kernel_rfl) (by kernel_rfl) (fun _ _ _ h => h) (Or.inl ⟨by rfl, ?_⟩) (by assumption) ?_
    rotate_left 1
    · (intro w hSw; (try dsimp only at hSw); go_simp; try (with_reducible rfl))
    try simp only [Act.put, List.setIfInBounds_toArray, List.set_cons_zero, List.set_cons_succ]
    refine takeH (i := 3) (v := ?_) rfl (by kernel_rfl) (by kernel_rfl) (by kernel_rfl) (fun _ _ _ h => h) (Or.inl ⟨by rfl, ?_⟩) (by assumption) ?_
    rotate_left 1
    · (intro w hSw; (try dsimp only at hSw); go_simp; try (with_reducible rfl))
    try simp only [Act.put, List.setIfInBounds_toArray, List.set_cons_zero, List.set_cons_succ]
    refine takeH (i := 4) (v := ?_) rfl (by kernel_rfl) (by kernel_rfl) (by kernel_rfl) (fun _ _ _ h => h) (Or.inl ⟨by rfl, ?_⟩) (by assumption) ?_
    rotate_left 1
    · (intro w hSw; (try dsimp only at hSw); go_simp; try (with_reducible rfl))
    try simp only [Act.put, List.setIfInBounds_toArray, List.set_cons_zero, List.set_cons_succ]
    refine takeH (i := 5) (v := ?_) rfl (by kernel_rfl) (by kernel_rfl) (by kernel_rfl) (fun _ _ _ h => h) (Or.inl ⟨by rfl, ?_⟩) (by assumption) ?_
    rotate_left 1
    · (intro w hSw; (try dsimp only at hSw); go_simp; try (with_reducible rfl))
    try simp only [Act.put, List.setIfInBounds_toArray, List.set_cons_zero, List.set_cons_succ]
    refine wpAnyH_ready (rs := [1]) (by kernel_rfl) (by simp) ?_
    refine consH rfl (fun K hK => ?_) AllReadyH.nil
    go_simp
    refine (kF.out _ O.out.drew).mono ?_
    rintro e V3 ⟨A5, c5, rfl, ⟨r5, hc5, hA5⟩, o⟩
    have O := Lib.hid (O.out.drew.trans' o)
    have R5 := Lib.hid r5
    have HA5 := Lib.hid hA5
    clear o r5 kF hA5
    refine hK.out _ _ trivial (fun hHeld2 => ?_)
    clear hK K hHeld
    have hHeld := hHeld2
    clear hHeld2
    try simp only [Act.put, List.setIfInBounds_toArray, List.set_cons_zero, List.set_cons_succ]
    refine wpAnyH_ready (rs := [6]) (by kernel_rfl) (by simp) ?_
    refine consH rfl (fun K hK => ?_) AllReadyH.nil
    go_simp
    refine (tC.out _ O.out).mono ?_
    rintro e V4 ⟨A6, c6, rfl, r6, o⟩
    have O := Lib.hid (O.out.trans' o)
    have R5 := Lib.hid (R5.out.only0 o)
    have R6 := Lib.hid r6
    clear o r6 tC
    refine hK.out _ _ trivial (fun hHeld2 => ?_)
    clear hK K hHeld
    have hHeld := hHeld2
    clear hHeld2
    try simp only [Act.put, List.setIfInBounds_toArray, List.set_cons_zero, List.set_cons_succ]
    refine takeH (i := 7) (v := ?_) rfl (by kernel_rfl) (by kernel_rfl) (by kernel_rfl) (fun _ _ _ h => h) (Or.inl ⟨by rfl, ?_⟩) (by assumption) ?_
    rotate_left 1
    · (intro w hSw; (try dsimp only at hSw); go_simp; try (with_reducible rfl))
    try simp only [Act.put, List.setIfInBounds_toArray, List.set_cons_zero, List.set_cons_succ]
    refine takeH (i := 8) (v := ?_) rfl (by kernel_rfl) (by kernel_rfl) (by kernel_rfl) (fun _ _ _ h => h) (Or.inl ⟨by rfl, ?_⟩) (by assumption) ?_
    rotate_left 1
    · (intro w hSw; (try dsimp only at hSw); go_simp; try (with_reducible rfl))
    try simp only [Act.put, List.setIfInBounds_toArray, List.set_cons_zero, List.set_cons_succ]
    refine wpAnyH_done (by kernel_rfl) ?_ _
    have RA : Hid (Rd V4 A5 q (clk (evs xs))) := R5.out.less hqm'
    have RB : Hid (Rd V4 A6 q (clk (evs xs))) := R6.out.congr fun k hk => clk_front TE.out hk
    have hq1 : q ≤ 1000 := by omega
    have HC := Lib.hid (hClocks V4 A5 A6 q c5 c6 (clk (evs xs)) hq1 RA.out RB.out)
    have b6 : q ≤ c5 := by omega
    have b7 : (q : Int) ≤ (c5 : Int) := by omega
    have b8 : ¬ ((c5 : Int) < (q : Int)) := by omega
    rcases HA5.out with ⟨hn1, hn2, hn3⟩ | ⟨gB, rfl⟩
    · -- row none
      obtain rfl : q = 0 := by omega
      have HM0 := Lib.hid hn2
      clear hn2
      subst hn1 hn3
      go_wp2_with fail
      refine HC.out.mono ?_
      rintro e V5 ⟨rfl, o⟩
      have O := Lib.hid (O.out.trans' o)
      clear o HC
      go_wp2_with fail
      refine (k1.out _ O.out).mono ?_
      rintro e V ⟨rfl, o⟩
      have O := Lib.hid (O.out.trans' o)
      
      clear o
      go_wp2_with fail
      refine (k2.out _ O.out).mono ?_
      rintro e V ⟨rfl, o⟩
      have O := Lib.hid (O.out.trans' o)
      
      clear o
      rcases fk
      · obtain rfl := (F1.out.none_front hqm' G1.out)
        go_wp2_with fail
        go_ret
        exact ⟨by simp, (R.out.only.trans' O.out).below (Nat.le_refl _) (by simp)⟩
      · obtain ⟨i, j, rfl, rfl, hij, hjm, hcf, hlq⟩ := F1.out.form
        have SF := Lib.hid (F1.out.some_front hqm' G1.out)
        exfalso
        have := HM0.out
        omega
    · -- row some
      go_wp2_with fail
      refine HC.out.mono ?_
      rintro e V5 ⟨rfl, o⟩
      have O := Lib.hid (O.out.trans' o)
      clear o HC
      go_wp2_with fail
      refine (k1.out _ O.out).mono ?_
      rintro e V ⟨rfl, o⟩
      have O := Lib.hid (O.out.trans' o)
      
      clear o
      go_wp2_with fail
      refine (k2.out _ O.out).mono ?_
      rintro e V ⟨rfl, o⟩
      have O := Lib.hid (O.out.trans' o)
      
      clear o
      rcases fk
      · obtain rfl := (F1.out.none_front hqm' G1.out)
        go_wp2_with fail
        go_ret
        exact ⟨by simp, (R.out.only.trans' O.out).below (Nat.le_refl _) (by simp)⟩
      · obtain ⟨i, j, rfl, rfl, hij, hjm, hcf, hlq⟩ := F1.out.form
        have SF := Lib.hid (F1.out.some_front hqm' G1.out)
        have cf := Lib.hid (fun (W : World) => cConf (evs xs i) (evs xs j) W)
        rw [hcf] at cf
        have bf := Lib.hid (fun (W : World) (o : Only [] v1 W) => kB.out (i : Int) (j : Int) W o)
        rw [befB_nat OK.out (by have := ML.out; omega) (by have := ML.out; omega), hlq, Bool.and_false] at bf
        have cel : Hid (∀ u' : World, Only [] v1 u' → u'.cell? ⟨gA, i * 5, none⟩ = some (.int .i64 (evs xs i).who) ∧ u'.cell? ⟨gA, i * 5 + 1, none⟩ = some (.int .i64 (evs xs i).kind) ∧ u'.cell? ⟨gA, i * 5 + 2, none⟩ = some (.int .i64 (evs xs i).lc.k) ∧ u'.cell? ⟨gA, i * 5 + 3, none⟩ = some (.int .i64 (evs xs i).lc.a) ∧ u'.cell? ⟨gA, i * 5 + 4, none⟩ = some (.int .i64 (evs xs i).lc.b) ∧ u'.cell? ⟨gA, j * 5, none⟩ = some (.int .i64 (evs xs j).who) ∧ u'.cell? ⟨gA, j * 5 + 1, none⟩ = some (.int .i64 (evs xs j).kind) ∧ u'.cell? ⟨gA, j * 5 + 2, none⟩ = some (.int .i64 (evs xs j).lc.k) ∧ u'.cell? ⟨gA, j * 5 + 3, none⟩ = some (.int .i64 (evs xs j).lc.a) ∧ u'.cell? ⟨gA, j * 5 + 4, none⟩ = some (.int .i64 (evs xs j).lc.b)) := fun u' o => by
          obtain ⟨gx, eg, y0, y1, y2, y3, y4⟩ := ((R.out.only0 o).ev).at_ (k := i) (by have := ML.out; omega)
          obtain ⟨gy, eg2, y5, y6, y7, y8, y9⟩ := ((R.out.only0 o).ev).at_ (k := j) (by have := ML.out; omega)
          injection eg with eg
          injection eg with eg
          injection eg2 with eg2
          injection eg2 with eg2
          subst eg eg2
          exact ⟨y0, y1, y2, y3, y4, y5, y6, y7, y8, y9⟩
        have n1 : ¬ ((i : Int) < 0) := by omega
        have n2 : decide ((i : Int) < 0) = false := decide_eq_false n1
        have n3 : ¬ ((j : Int) ≤ (i : Int)) := by omega
        have n4 : decide ((j : Int) ≤ (i : Int)) = false := decide_eq_false n3
        have n5 : ¬ ((m : Int) ≤ (j : Int)) := by omega
        have n6 : decide ((m : Int) ≤ (j : Int)) = false := decide_eq_false n5
        have n7 : decide (j ≤ i) = false := decide_eq_false (by omega)
        have n8 : decide (m ≤ j) = false := decide_eq_false (by omega)
        have him : (i : Int) < (m : Int) := by omega
        have hjm' : (j : Int) < (m : Int) := by omega
        go_wp2_with fail
        have st : Hid (Only [] v1 V.drew) := O.out.drew
        refine wp_region_held_drew (S := (fun u' => u'.cell? ⟨gA, i * 5, none⟩ = some (.int .i64 (evs xs i).who) ∧ u'.cell? ⟨gA, i * 5 + 1, none⟩ = some (.int .i64 (evs xs i).kind) ∧ u'.cell? ⟨gA, i * 5 + 2, none⟩ = some (.int .i64 (evs xs i).lc.k) ∧ u'.cell? ⟨gA, i * 5 + 3, none⟩ = some (.int .i64 (evs xs i).lc.a) ∧ u'.cell? ⟨gA, i * 5 + 4, none⟩ = some (.int .i64 (evs xs i).lc.b) ∧ u'.cell? ⟨gA, j * 5, none⟩ = some (.int .i64 (evs xs j).who) ∧ u'.cell? ⟨gA, j * 5 + 1, none⟩ = some (.int .i64 (evs xs j).kind) ∧ u'.cell? ⟨gA, j * 5 + 2, none⟩ = some (.int .i64 (evs xs j).lc.k) ∧ u'.cell? ⟨gA, j * 5 + 3, none⟩ = some (.int .i64 (evs xs j).lc.a) ∧ u'.cell? ⟨gA, j * 5 + 4, none⟩ = some (.int .i64 (evs xs j).lc.b))) (by kernel_rfl) (cel.out _ st.out) (fun hHeld => ?_)
        refine takeH (i := 0) (v := ?_) rfl (by kernel_rfl) (by kernel_rfl) (by kernel_rfl) (fun _ _ _ h => h) (Or.inl ⟨by rfl, ?_⟩) (by assumption) ?_
        rotate_left 1
        · (intro w hSw; (try dsimp only at hSw); go_simp; try (with_reducible rfl))
        try simp only [Act.put, List.setIfInBounds_toArray, List.set_cons_zero, List.set_cons_succ]
        refine takeH (i := 1) (v := ?_) rfl (by kernel_rfl) (by kernel_rfl) (by kernel_rfl) (fun _ _ _ h => h) (Or.inl ⟨by rfl, ?_⟩) (by assumption) ?_
        rotate_left 1
        · (intro w hSw; (try dsimp only at hSw); go_simp; try (with_reducible rfl))
        try simp only [Act.put, List.setIfInBounds_toArray, List.set_cons_zero, List.set_cons_succ]
        refine takeH (i := 2) (v := ?_) rfl (by kernel_rfl) (by kernel_rfl) (by kernel_rfl) (fun _ _ _ h => h) (Or.inl ⟨by rfl, ?_⟩) (by assumption) ?_
        rotate_left 1
        · (intro w hSw; (try dsimp only at hSw); go_simp; try (with_reducible rfl))
        try simp only [Act.put, List.setIfInBounds_toArray, List.set_cons_zero, List.set_cons_succ]
        refine takeH (i := 3) (v := ?_) rfl (by kernel_rfl) (by kernel_rfl) (by kernel_rfl) (fun _ _ _ h => h) (Or.inl ⟨by rfl, ?_⟩) (by assumption) ?_
        rotate_left 1
        · (intro w hSw; (try dsimp only at hSw); go_simp; try (with_reducible rfl))
        try simp only [Act.put, List.setIfInBounds_toArray, List.set_cons_zero, List.set_cons_succ]
        refine takeH (i := 4) (v := ?_) rfl (by kernel_rfl) (by kernel_rfl) (by kernel_rfl) (fun _ _ _ h => h) (Or.inl ⟨by rfl, ?_⟩) (by assumption) ?_
        rotate_left 1
        · (intro w hSw; (try dsimp only at hSw); go_simp; try (with_reducible rfl))
        try simp only [Act.put, List.setIfInBounds_toArray, List.set_cons_zero, List.set_cons_succ]
        refine takeH (i := 5) (v := ?_) rfl (by kernel_rfl) (by kernel_rfl) (by kernel_rfl) (fun _ _ _ h => h) (Or.inl ⟨by rfl, ?_⟩) (by assumption) ?_
        rotate_left 1
        · (intro w hSw; (try dsimp only at hSw); go_simp; try (with_reducible rfl))
        try simp only [Act.put, List.setIfInBounds_toArray, List.set_cons_zero, List.set_cons_succ]
        refine takeH (i := 6) (v := ?_) rfl (by kernel_rfl) (by kernel_rfl) (by kernel_rfl) (fun _ _ _ h => h) (Or.inl ⟨by rfl, ?_⟩) (by assumption) ?_
        rotate_left 1
        · (intro w hSw; (try dsimp only at hSw); go_simp; try (with_reducible rfl))
        try simp only [Act.put, List.setIfInBounds_toArray, List.set_cons_zero, List.set_cons_succ]
        refine takeH (i := 7) (v := ?_) rfl (by kernel_rfl) (by kernel_rfl) (by kernel_rfl) (fun _ _ _ h => h) (Or.inl ⟨by rfl, ?_⟩) (by assumption) ?_
        rotate_left 1
        · (intro w hSw; (try dsimp only at hSw); go_simp; try (with_reducible rfl))
        try simp only [Act.put, List.setIfInBounds_toArray, List.set_cons_zero, List.set_cons_succ]
        refine takeH (i := 8) (v := ?_) rfl (by kernel_rfl) (by kernel_rfl) (by kernel_rfl) (fun _ _ _ h => h) (Or.inl ⟨by rfl, ?_⟩) (by assumption) ?_
        rotate_left 1
        · (intro w hSw; (try dsimp only at hSw); go_simp; try (with_reducible rfl))
        try simp only [Act.put, List.setIfInBounds_toArray, List.set_cons_zero, List.set_cons_succ]
        refine takeH (i := 9) (v := ?_) rfl (by kernel_rfl) (by kernel_rfl) (by kernel_rfl) (fun _ _ _ h => h) (Or.inl ⟨by rfl, ?_⟩) (by assumption) ?_
        rotate_left 1
        · (intro w hSw; (try dsimp only at hSw); go_simp; try (with_reducible rfl))
        try simp only [Act.put, List.setIfInBounds_toArray, List.set_cons_zero, List.set_cons_succ]
        refine takeH (i := 10) (v := ?_) rfl (by kernel_rfl) (by kernel_rfl) (by kernel_rfl) (fun _ _ _ h => h) (Or.inl ⟨by rfl, ?_⟩) (by assumption) ?_
        rotate_left 1
        · (intro w hSw; (try dsimp only at hSw); go_simp; try (with_reducible rfl))
        try simp only [Act.put, List.setIfInBounds_toArray, List.set_cons_zero, List.set_cons_succ]
        refine takeH (i := 11) (v := ?_) rfl (by kernel_rfl) (by kernel_rfl) (by kernel_rfl) (fun _ _ _ h => h) (Or.inl ⟨by rfl, ?_⟩) (by assumption) ?_
        rotate_left 1
        · (intro w hSw; (try dsimp only at hSw); go_simp; try (with_reducible rfl))
        try simp only [Act.put, List.setIfInBounds_toArray, List.set_cons_zero, List.set_cons_succ]
        refine takeH (i := 12) (v := ?_) rfl (by kernel_rfl) (by kernel_rfl) (by kernel_rfl) (fun _ _ _ h => h) (Or.inl ⟨by rfl, ?_⟩) (by assumption) ?_
        rotate_left 1
        · (intro w hSw; (try dsimp only at hSw); go_simp; try (with_reducible rfl))
        try simp only [Act.put, List.setIfInBounds_toArray, List.set_cons_zero, List.set_cons_succ]
        refine takeH (i := 13) (v := ?_) rfl (by kernel_rfl) (by kernel_rfl) (by kernel_rfl) (fun _ _ _ h => h) (Or.inl ⟨by rfl, ?_⟩) (by assumption) ?_
        rotate_left 1
        · (intro w hSw; (try dsimp only at hSw); go_simp; try (with_reducible rfl))
        try simp only [Act.put, List.setIfInBounds_toArray, List.set_cons_zero, List.set_cons_succ]
        refine takeH (i := 14) (v := ?_) rfl (by kernel_rfl) (by kernel_rfl) (by kernel_rfl) (fun _ _ _ h => h) (Or.inl ⟨by rfl, ?_⟩) (by assumption) ?_
        rotate_left 1
        · (intro w hSw; (try dsimp only at hSw); go_simp; try (with_reducible rfl))
        try simp only [Act.put, List.setIfInBounds_toArray, List.set_cons_zero, List.set_cons_succ]
        refine takeH (i := 15) (v := ?_) rfl (by kernel_rfl) (by kernel_rfl) (by kernel_rfl) (fun _ _ _ h => h) (Or.inl ⟨by rfl, ?_⟩) (by assumption) ?_
        rotate_left 1
        · (intro w hSw; (try dsimp only at hSw); go_simp; try (with_reducible rfl))
        try simp only [Act.put, List.setIfInBounds_toArray, List.set_cons_zero, List.set_cons_succ]
        refine takeH (i := 16) (v := ?_) rfl (by kernel_rfl) (by kernel_rfl) (by kernel_rfl) (fun _ _ _ h => h) (Or.inl ⟨by rfl, ?_⟩) (by assumption) ?_
        rotate_left 1
        · (intro w hSw; (try dsimp only at hSw); go_simp; try (with_reducible rfl))
        try simp only [Act.put, List.setIfInBounds_toArray, List.set_cons_zero, List.set_cons_succ]
        refine takeH (i := 17) (v := ?_) rfl (by kernel_rfl) (by kernel_rfl) (by kernel_rfl) (fun _ _ _ h => h) (Or.inl ⟨by rfl, ?_⟩) (by assumption) ?_
        rotate_left 1
        · (intro w hSw; (try dsimp only at hSw); go_simp; try (with_reducible rfl))
        try simp only [Act.put, List.setIfInBounds_toArray, List.set_cons_zero, List.set_cons_succ]
        refine takeH (i := 18) (v := ?_) rfl (by kernel_rfl) (by kernel_rfl) (by kernel_rfl) (fun _ _ _ h => h) (Or.inl ⟨by rfl, ?_⟩) (by assumption) ?_
        rotate_left 1
        · (intro w hSw; (try dsimp only at hSw); go_simp; try (with_reducible rfl))
        try simp only [Act.put, List.setIfInBounds_toArray, List.set_cons_zero, List.set_cons_succ]
        refine takeH (i := 19) (v := ?_) rfl (by kernel_rfl) (by kernel_rfl) (by kernel_rfl) (fun _ _ _ h => h) (Or.inl ⟨by rfl, ?_⟩) (by assumption) ?_
        rotate_left 1
        · (intro w hSw; (try dsimp only at hSw); go_simp; try (with_reducible rfl))
        try simp only [Act.put, List.setIfInBounds_toArray, List.set_cons_zero, List.set_cons_succ]
        refine takeH (i := 20) (v := ?_) rfl (by kernel_rfl) (by kernel_rfl) (by kernel_rfl) (fun _ _ _ h => h) (Or.inl ⟨by rfl, ?_⟩) (by assumption) ?_
        rotate_left 1
        · (intro w hSw; (try dsimp only at hSw); go_simp; try (with_reducible rfl))
        try simp only [Act.put, List.setIfInBounds_toArray, List.set_cons_zero, List.set_cons_succ]
        refine takeH (i := 21) (v := ?_) rfl (by kernel_rfl) (by kernel_rfl) (by kernel_rfl) (fun _ _ _ h => h) (Or.inl ⟨by rfl, ?_⟩) (by assumption) ?_
        rotate_left 1
        · (intro w hSw; (try dsimp only at hSw); go_simp; try (with_reducible rfl))
        try simp only [Act.put, List.setIfInBounds_toArray, List.set_cons_zero, List.set_cons_succ]
        refine wpAnyH_ready (rs := [22]) (by kernel_rfl) (by simp) ?_
        refine consH rfl (fun K hK => ?_) AllReadyH.nil
        go_simp
        refine (cf.out _).mono ?_
        rintro e V6 ⟨rfl, o⟩
        have st := Lib.hid (st.out.trans' o)
        clear o
        refine hK.out _ _ (cel.out _ st.out) (fun hHeld2 => ?_)
        clear hK K hHeld
        have hHeld := hHeld2
        clear hHeld2
        try simp only [Act.put, List.setIfInBounds_toArray, List.set_cons_zero, List.set_cons_succ]
        refine takeH (i := 23) (v := ?_) rfl (by kernel_rfl) (by kernel_rfl) (by kernel_rfl) (fun _ _ _ h => h) (Or.inl ⟨by rfl, ?_⟩) (by assumption) ?_
        rotate_left 1
        · (intro w hSw; (try dsimp only at hSw); go_simp; try (with_reducible rfl))
        try simp only [Act.put, List.setIfInBounds_toArray, List.set_cons_zero, List.set_cons_succ]
        refine takeH (i := 24) (v := ?_) rfl (by kernel_rfl) (by kernel_rfl) (by kernel_rfl) (fun _ _ _ h => h) (Or.inl ⟨by rfl, ?_⟩) (by assumption) ?_
        rotate_left 1
        · (intro w hSw; (try dsimp only at hSw); go_simp; try (with_reducible rfl))
        try simp only [Act.put, List.setIfInBounds_toArray, List.set_cons_zero, List.set_cons_succ]
        refine takeH (i := 25) (v := ?_) rfl (by kernel_rfl) (by kernel_rfl) (by kernel_rfl) (fun _ _ _ h => h) (Or.inl ⟨by rfl, ?_⟩) (by assumption) ?_
        rotate_left 1
        · (intro w hSw; (try dsimp only at hSw); go_simp; try (with_reducible rfl))
        try simp only [Act.put, List.setIfInBounds_toArray, List.set_cons_zero, List.set_cons_succ]
        refine takeH (i := 26) (v := ?_) rfl (by kernel_rfl) (by kernel_rfl) (by kernel_rfl) (fun _ _ _ h => h) (Or.inl ⟨by rfl, ?_⟩) (by assumption) ?_
        rotate_left 1
        · (intro w hSw; (try dsimp only at hSw); go_simp; try (with_reducible rfl))
        try simp only [Act.put, List.setIfInBounds_toArray, List.set_cons_zero, List.set_cons_succ]
        refine takeH (i := 27) (v := ?_) rfl (by kernel_rfl) (by kernel_rfl) (by kernel_rfl) (fun _ _ _ h => h) (Or.inl ⟨by rfl, ?_⟩) (by assumption) ?_
        rotate_left 1
        · (intro w hSw; (try dsimp only at hSw); go_simp; try (with_reducible rfl))
        try simp only [Act.put, List.setIfInBounds_toArray, List.set_cons_zero, List.set_cons_succ]
        refine takeH (i := 28) (v := ?_) rfl (by kernel_rfl) (by kernel_rfl) (by kernel_rfl) (fun _ _ _ h => h) (Or.inl ⟨by rfl, ?_⟩) (by assumption) ?_
        rotate_left 1
        · (intro w hSw; (try dsimp only at hSw); go_simp; try (with_reducible rfl))
        try simp only [Act.put, List.setIfInBounds_toArray, List.set_cons_zero, List.set_cons_succ]
        refine wpAnyH_ready (rs := [29]) (by kernel_rfl) (by simp) ?_
        refine consH rfl (fun K hK => ?_) AllReadyH.nil
        go_simp
        refine (bf.out _ st.out).mono ?_
        rintro e V7 ⟨rfl, o⟩
        have st := Lib.hid (st.out.trans' o)
        clear o
        refine hK.out _ _ (cel.out _ st.out) (fun hHeld2 => ?_)
        clear hK K hHeld
        have hHeld := hHeld2
        clear hHeld2
        try simp only [Act.put, List.setIfInBounds_toArray, List.set_cons_zero, List.set_cons_succ]
        refine takeH (i := 30) (v := ?_) rfl (by kernel_rfl) (by kernel_rfl) (by kernel_rfl) (fun _ _ _ h => h) (Or.inl ⟨by rfl, ?_⟩) (by assumption) ?_
        rotate_left 1
        · (intro w hSw; (try dsimp only at hSw); go_simp; try (with_reducible rfl))
        try simp only [Act.put, List.setIfInBounds_toArray, List.set_cons_zero, List.set_cons_succ]
        refine wpAnyH_done (by kernel_rfl) ?_ _
        by_cases hjq : j < q
        · obtain ⟨rfl, rfl, rfl⟩ := SF.out.1 hjq
          have n9 : (j : Int) < (q : Int) := by omega
          have e1 : ((i : Int) == (i : Int)) = true := by simp
          go_wp2_with fail
          go_ret
          exact ⟨by simp, (R.out.only.trans' st.out).below (Nat.le_refl _) (by simp)⟩
        · obtain rfl := SF.out.2 hjq
          have n9 : ¬ ((j : Int) < (q : Int)) := by omega
          have n10 : decide ((j : Int) < (q : Int)) = false := decide_eq_false n9
          go_wp2_with fail
          go_ret
          exact ⟨by simp, (R.out.only.trans' st.out).below (Nat.le_refl _) (by simp)⟩

/-! ### The step from the walk to the statement -/
set_option maxRecDepth 100000 in
theorem lifted (os : Os) (started : os.Started) (H : Type) (enc : TypeId × Value → H) :
    ReturnsInHanded {} Try.checked os 7 .any (Rows.raceFrontSpec.pre6 enc Try.prog Try.f7 Rows.raceFrontRow.domain false) (Rows.raceFrontSpec.post enc Try.prog Try.f7 false true false false) := by
  refine returnsInHanded_of_change (C := Try.checked) own started (by kernel_rfl) Try.func7
    (ChangeSpec.witness6 (enc := enc) (C := Try.checked) false ⟨#[], #[.slice none 0 0, .slice none 0 0, .int .i64 0], []⟩ 8 (by kernel_rfl) (by kernel_rfl) (by kernel_rfl) (by kernel_rfl)) ?_
  intro W base args ds gs before hval0 hW hcnd _
  have hval : ∀ (j : Nat) t v, Try.f7.params[j]? = some t → args[j]? = some v → Value.okWide Try.prog W .any base t v := hval0
  have hW' := hW
  obtain ⟨p, q, hA0, hV, rfl, hfz, hnd⟩ := hW
  have hA : DataW.TrodAll enc Try.prog W 0 (fun _ => true) true Try.f7.params.toList args.toList ds p := hA0
  rw [Try.params7] at hA hval
  obtain ⟨v0, vs0, d0, ds0, p0, q0, hargs, rfl, rfl, h0, r0⟩ := trodAll_cons hA
  obtain ⟨v1, vs1, d1, ds1, p1, q1, rfl, rfl, rfl, h1, r1⟩ := trodAll_cons r0
  obtain ⟨v2, vs2, d2, ds2, p2, q2, rfl, rfl, rfl, h2, r2⟩ := trodAll_cons r1
  obtain ⟨rfl, rfl, rfl⟩ := trodAll_nil r2
  obtain rfl : args = #[v0, v1, v2] := by cases args; simp_all
  obtain ⟨rfl, rfl⟩ := trodVars_none hV
  obtain ⟨a0, len0, cap0, rfl⟩ := okWide_slice Try.underlying22 (hval 0 22 v0 rfl rfl)
  have k0 := h0
  have lt0 : ∀ x ∈ p0, x.block < W.heap.size := by obtain ⟨m, hm⟩ := k0; exact DataW.trod_lt m _ _ _ hm
  obtain ⟨z0, w0⟩ : ∃ z, InEvs W a0 len0 z := by
    obtain ⟨fuel, hf⟩ := h0
    exact open_evs hf
  obtain ⟨a1, len1, cap1, rfl⟩ := okWide_slice Try.underlying23 (hval 1 23 v1 rfl rfl)
  have k1 := h1
  have lt1 : ∀ x ∈ p1, x.block < W.heap.size := by obtain ⟨m, hm⟩ := k1; exact DataW.trod_lt m _ _ _ hm
  obtain ⟨z1, w1⟩ : ∃ z, InNums .i64 W a1 len1 z := by
    obtain ⟨fuel, hf⟩ := h1
    exact open_numsF Try.underlying23 Try.underlying3 (by kernel_rfl) hf
  obtain ⟨a2, rfl, rfl, rfl, w2⟩ := open_int Try.underlying3 (hval 2 3 v2 rfl rfl) h2
  clear hA0 hval0
  refine (walk a0 len0 cap0 z0 a1 len1 cap1 z1 a2 W w0 w1 w2).mono fun e W' ⟨he, bel⟩ => ?_
  subst he
  exact ⟨_, rfl, _, _, _, [], _, [], hW', trodAll_mk1 (shut_bool Try.underlying4 _), (trodAll_cons_mk (Below.trod laidOut (by kernel_rfl) (of_decide_eq_true (by kernel_rfl)) k0 bel lt0) (trodAll_cons_mk (Below.trod laidOut (by kernel_rfl) (of_decide_eq_true (by kernel_rfl)) k1 bel lt1) (trodAll_cons_mk (shut_int Try.underlying3 w2) trodAll_mk0))), rfl, bel.frame _, fun h => by cases h⟩

theorem over : Rows.raceFrontRow.holds Try.pinned (OpenSpec.ofChange Rows.raceFrontSpec) :=
  OpenClaim.holds_of_wide 7 Try.f7 rfl rfl rfl rfl rfl rfl rfl ⟨rfl, rfl, rfl, rfl, rfl⟩ rfl rfl rfl rfl rfl (by kernel_rfl) Try.func7 (by kernel_rfl)
    (of_decide_eq_true (by kernel_rfl)) (by unfold Func.isWrapper; first | (rw [if_pos (by decide +kernel)]; kernel_rfl) | (rw [if_neg (by decide +kernel)]; exact ⟨rfl, rfl⟩))
    (fun os started H enc _ => lifted os started H enc)

/-- The statement. -/
theorem proved : Rows.RaceFrontSaid := over
#print axioms proved
end Go.Proofs.Ytmgmfihjojhilaa.raceFront
