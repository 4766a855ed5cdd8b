/-
  weighbridgelaw13.RaceKept returns true for every input, and leaves its arguments as they were. No condition but that the arguments are values of their types.
-/
import Derived.Test.YtmgmfihjojhilaaRows
import Derived.Test.YtmgmfihjojhilaaRcV
import Derived.WalkKit
import Derived.ProofKit
import Derived.OpenShut
import Derived.ChangeOld
import Derived.Below
namespace Go.Proofs.Ytmgmfihjojhilaa.raceKept
open Go.ChangeShapes Go.WideShapes Go.ChangeAt Go.RowKit
set_option linter.unusedVariables false
set_option linter.unusedSimpArgs false

set_option maxRecDepth 100000 in
set_option maxHeartbeats 4000000 in
theorem walk (a0 : Option Addr) (len0 cap0 : Nat) (z0 : Nat → Ev) (a1 : Option Addr) (len1 cap1 : Nat) (z1 : Nat → Int) (w : World) (w0 : InEvs w a0 len0 z0) (w1 : InNums .i64 w a1 len1 z1) :
    Calls Try.prog 10 #[.slice a0 len0 cap0, .slice a1 len1 cap1] w fun e w' => e = .returned (.bool true) ∧ Below w.heap.size w w' := by
  have LG := Lib.hid (lLong w a0 len0 cap0 z0 a1 len1 cap1 z1 w0 w1)
  clear w0 w1
  go_enter Try.func10, Try.ntmps10
  go_wp2_with fail
  refine LG.out.mono ?_
  rintro e v1 ⟨A, m, c, rfl, hm, xs, R1⟩
  have R := Lib.hid R1
  clear LG R1
  have ML := Lib.hid R.out.len
  have ow := Lib.hid (eOwn A m c xs ⟨9, 0, ⟨0, 0, 0⟩⟩ v1 ML.out (by omega) R.out.ev (El.Src.of_row R.out.row))
  dsimp only at ow
  go_wp2_with fail
  refine ow.out.mono ?_
  rintro e v2 ⟨gO, rfl, ev2, o2, hgO⟩
  have EO := Lib.hid ev2
  have O2 := Lib.hid o2
  have OW := Lib.hid (R.out.only.trans' o2)
  clear ow ev2 o2 hgO
  obtain ⟨fa, fb, fk, hF⟩ := FirstL.is xs
  have F := Lib.hid hF
  clear hF
  have kC := Lib.hid (fun (W : World) (o : Only [] v2 W) => cClocksC (some ⟨gO, 0, none⟩) m (m + 3) xs W ML.out (by omega) (EO.out.head.only0 o) R.out.lc)
  have rC := Lib.hid (fun (W : World) (o : Only [] v2 W) => rClocksC A m c xs W ML.out (by omega) ((R.out.ev.only0 O2.out).only0 o))
  have kC2 := Lib.hid (fun (W : World) (o : Only [] v2 W) => cClocksR (some ⟨gO, 0, none⟩) m (m + 3) xs W ML.out (by omega) (EO.out.head.only0 o) R.out.lc)
  have kF := Lib.hid (fun (W : World) (o : Only [] v2 W) => cFirst (some ⟨gO, 0, none⟩) m (m + 3) xs W fa fb fk ML.out (by omega) (EO.out.head.only0 o) R.out.lc F.out)
  have kB := Lib.hid (fun (W : World) (o : Only [] v2 W) => cBefore (some ⟨gO, 0, none⟩) m (m + 3) xs 0 1 W ML.out (by omega) (EO.out.head.only0 o) R.out.lc)
  have kK := Lib.hid (fun (W : World) (o : Only [] v2 W) => eKept (some ⟨gO, 0, none⟩) m xs A c ⟨9, 0, ⟨0, 0, 0⟩⟩ W ML.out (by omega) (EO.out.only0 o) ((R.out.ev.only0 O2.out).only0 o))
  dsimp only at kK
  have H64 := Lib.hid (clk64 (xs := xs) (by have := ML.out; omega))
  have HN : Hid (clkN xs ≤ 100) := by show _ ≤ _; have := clkN_le xs; have := ML.out; omega
  generalize clkN xs = N at *
  generalize clk (evs xs) = cs at *
  generalize befB xs 0 1 = bb at *
  clear F ML R EO O2
  go_wp2_with fail
  refine (kC.out v2 (Only.refl [] _)).mono ?_
  rintro e v3 ⟨A3, c3, rfl, hs3, f3⟩
  have F3 := Lib.hid f3
  clear f3 kC
  go_wp2_with fail
  refine (rC.out v3 F3.out.only).mono ?_
  rintro e v4 ⟨A4, c4, rfl, hs4, f4⟩
  have F4 := Lib.hid f4
  clear f4 rC
  have K4 := Lib.hid (KP.start F3.out F4.out)
  have D3 := Lib.hid ((F3.out.row.rd H64.out).only0 F4.out.only)
  have D4 := Lib.hid (F4.out.row.rd H64.out)
  clear F3 F4
  generalize v3.heap.size = H at *
  go_wp2_with fail
  refine (lAwake v4).mono ?_
  rintro e v5 ⟨rfl, o⟩
  have K5 := Lib.hid (K4.out.only0 o)
  have hc := Lib.hid (hClocks v5 A3 A4 N c3 c4 cs (by have := HN.out; omega) (D3.out.only0 o) (D4.out.only0 o))
  clear o K4 D3 D4
  go_wp2_with fail
  refine hc.out.mono ?_
  rintro e v6 ⟨rfl, o⟩
  have K6 := Lib.hid (K5.out.only0 o)
  clear o K5 hc
  go_wp2_with fail
  go_loopg [9] (N + 1) (fun gk si wr => ∃ i : Nat, si = .int .i64 (i : Int) ∧ i ≤ N ∧ N + 1 ≤ gk + i ∧ Hid (KP v2 wr H A3 A4 N c4 hs3 hs4 cs i))
  case atStart => exact ⟨0, rfl, by omega, by omega, K6.out⟩
  case round =>
    obtain ⟨i, rfl, hi, hg, K⟩ := hrel
    clear K6
    by_cases hiN : i < N
    · have h1 : (i : Int) < (N : Int) := by omega
      obtain ⟨gr, ⟨B, n1, c1⟩, g, rfl, _, _, _, _, hs1, x1, t1, _⟩ := K.out.rest i (Nat.le_refl i) hiN
      dsimp only at x1
      have T1 := Lib.hid t1
      have HS1 := Lib.hid hs1
      have l1 : Hid ((cs i).length = n1) := t1.len
      have sp := Lib.hid (iSpoil 0 wr B n1 c1 (cs i) l1.out (by have := H64.out i hiN; have := l1.out; omega) t1.nums.zero)
      clear t1 hs1
      go_wp2_with fail
      refine sp.out.mono ?_
      rintro e w5 ⟨rfl, o5⟩
      have K' : Hid (KP v2 w5 H (some ⟨gr, 0, none⟩) A4 N c4 hs3 hs4 cs (i + 1)) := K.out.spoil hiN HS1.out o5
      clear sp o5 K T1 HS1 l1 x1
      by_cases hi1 : i + 1 < N
      · have h2 : (i : Int) + 1 < (N : Int) := by omega
        have hw : IntKind.i64.wrap ((i : Int) + 1) = (i : Int) + 1 := by rw [IntKind.wrap_i64]; have := HN.out; omega
        have h0 : (0 : Int) ≤ (i : Int) + 1 := by omega
        have hn : ((i : Int) + 1).toNat = i + 1 := by omega
        have hd : decide ((i : Int) + 1 < (N : Int)) = true := decide_eq_true h2
        have KD : Hid (KP v2 w5.drew H (some ⟨gr, 0, none⟩) A4 N c4 hs3 hs4 cs (i + 1)) := K'.out.only0 (Only.refl [] w5).drew
        obtain ⟨gr2, ⟨B2, n2, c2⟩, g2, e2, _, _, _, lt2, _, x2, t2, _⟩ := KD.out.rest (i + 1) (Nat.le_refl _) hi1
        obtain ⟨gr4, B4, n4, c4', rfl, x4, n4', l4, b4⟩ := (KD.out.rd H64.out) (i + 1) hi1
        obtain rfl : n2 = n4 := by have := t2.len; simp only at this; omega
        obtain rfl : gr = gr2 := by injection e2 with e2; injection e2
        have lt4 := World.block_lt_of_cell? _ _ x4
        have cel : Hid (∀ W, Only [] w5.drew W → W.cell? ⟨gr, i + 1, none⟩ = some (.slice B2 n2 c2) ∧ W.cell? ⟨gr4, i + 1, none⟩ = some (.slice B4 n2 c4')) := fun W o => ⟨(o.cell lt2 (by simp)).trans x2, (o.cell lt4 (by simp)).trans x4⟩
        have pl := Lib.hid (fun (W : World) (o : Only [] w5.drew W) => iPlain W B2 B4 n2 c2 c4' (cs (i + 1)) l4 (by omega) (t2.nums.zero.only0 o) (n4'.only0 o))
        clear t2 n4' l4 b4 e2 lt2 lt4 x2 x4 K'
        have st : Hid (Only [] w5.drew w5.drew) := Only.refl [] _
        go_wp2_with fail
        refine wp_region_held_drew (S := (fun W => W.cell? ⟨gr, i + 1, none⟩ = some (.slice B2 n2 c2) ∧ W.cell? ⟨gr4, i + 1, none⟩ = some (.slice B4 n2 c4'))) (by kernel_rfl) (cel.out _ st.out) (fun hHeld => ?_)
        refine takeH (i := 0) (v := ?_) rfl (by kernel_rfl) (by kernel_rfl) (by kernel_rfl) (fun _ _ _ h => h) (Or.inl ⟨by rfl, ?_⟩) (by assumption) ?_
        rotate_left 1
        · (intro w hSw; (try dsimp only at hSw); go_simp; try (with_reducible rfl))
        try simp only [Act.put, List.setIfInBounds_toArray, List.set_cons_zero, List.set_cons_succ]
        refine takeH (i := 1) (v := ?_) rfl (by kernel_rfl) (by kernel_rfl) (by kernel_rfl) (fun _ _ _ h => h) (Or.inl ⟨by rfl, ?_⟩) (by assumption) ?_
        rotate_left 1
        · (intro w hSw; (try dsimp only at hSw); go_simp; try (with_reducible rfl))
        try simp only [Act.put, List.setIfInBounds_toArray, List.set_cons_zero, List.set_cons_succ]
        refine takeH (i := 2) (v := ?_) rfl (by kernel_rfl) (by kernel_rfl) (by kernel_rfl) (fun _ _ _ h => h) (Or.inl ⟨by rfl, ?_⟩) (by assumption) ?_
        rotate_left 1
        · (intro w hSw; (try dsimp only at hSw); go_simp; try (with_reducible rfl))
        try simp only [Act.put, List.setIfInBounds_toArray, List.set_cons_zero, List.set_cons_succ]
        refine takeH (i := 3) (v := ?_) rfl (by kernel_rfl) (by kernel_rfl) (by kernel_rfl) (fun _ _ _ h => h) (Or.inl ⟨by rfl, ?_⟩) (by assumption) ?_
        rotate_left 1
        · (intro w hSw; (try dsimp only at hSw); go_simp; try (with_reducible rfl))
        try simp only [Act.put, List.setIfInBounds_toArray, List.set_cons_zero, List.set_cons_succ]
        refine takeH (i := 4) (v := ?_) rfl (by kernel_rfl) (by kernel_rfl) (by kernel_rfl) (fun _ _ _ h => h) (Or.inl ⟨by rfl, ?_⟩) (by assumption) ?_
        rotate_left 1
        · (intro w hSw; (try dsimp only at hSw); go_simp; try (with_reducible rfl))
        try simp only [Act.put, List.setIfInBounds_toArray, List.set_cons_zero, List.set_cons_succ]
        refine takeH (i := 5) (v := ?_) rfl (by kernel_rfl) (by kernel_rfl) (by kernel_rfl) (fun _ _ _ h => h) (Or.inl ⟨by rfl, ?_⟩) (by assumption) ?_
        rotate_left 1
        · (intro w hSw; (try dsimp only at hSw); go_simp; try (with_reducible rfl))
        try simp only [Act.put, List.setIfInBounds_toArray, List.set_cons_zero, List.set_cons_succ]
        refine takeH (i := 6) (v := ?_) rfl (by kernel_rfl) (by kernel_rfl) (by kernel_rfl) (fun _ _ _ h => h) (Or.inl ⟨by rfl, ?_⟩) (by assumption) ?_
        rotate_left 1
        · (intro w hSw; (try dsimp only at hSw); go_simp; try (with_reducible rfl))
        try simp only [Act.put, List.setIfInBounds_toArray, List.set_cons_zero, List.set_cons_succ]
        refine takeH (i := 7) (v := ?_) rfl (by kernel_rfl) (by kernel_rfl) (by kernel_rfl) (fun _ _ _ h => h) (Or.inl ⟨by rfl, ?_⟩) (by assumption) ?_
        rotate_left 1
        · (intro w hSw; (try dsimp only at hSw); go_simp; try (with_reducible rfl))
        try simp only [Act.put, List.setIfInBounds_toArray, List.set_cons_zero, List.set_cons_succ]
        refine takeH (i := 8) (v := ?_) rfl (by kernel_rfl) (by kernel_rfl) (by kernel_rfl) (fun _ _ _ h => h) (Or.inl ⟨by rfl, ?_⟩) (by assumption) ?_
        rotate_left 1
        · (intro w hSw; (try dsimp only at hSw); go_simp; try (with_reducible rfl))
        try simp only [Act.put, List.setIfInBounds_toArray, List.set_cons_zero, List.set_cons_succ]
        refine takeH (i := 9) (v := ?_) rfl (by kernel_rfl) (by kernel_rfl) (by kernel_rfl) (fun _ _ _ h => h) (Or.inl ⟨by rfl, ?_⟩) (by assumption) ?_
        rotate_left 1
        · (intro w hSw; (try dsimp only at hSw); go_simp; try (with_reducible rfl))
        try simp only [Act.put, List.setIfInBounds_toArray, List.set_cons_zero, List.set_cons_succ]
        refine takeH (i := 10) (v := ?_) rfl (by kernel_rfl) (by kernel_rfl) (by kernel_rfl) (fun _ _ _ h => h) (Or.inl ⟨by rfl, ?_⟩) (by assumption) ?_
        rotate_left 1
        · (intro w hSw; (try dsimp only at hSw); go_simp; try (with_reducible rfl))
        try simp only [Act.put, List.setIfInBounds_toArray, List.set_cons_zero, List.set_cons_succ]
        refine takeH (i := 11) (v := ?_) rfl (by kernel_rfl) (by kernel_rfl) (by kernel_rfl) (fun _ _ _ h => h) (Or.inl ⟨by rfl, ?_⟩) (by assumption) ?_
        rotate_left 1
        · (intro w hSw; (try dsimp only at hSw); go_simp; try (with_reducible rfl))
        try simp only [Act.put, List.setIfInBounds_toArray, List.set_cons_zero, List.set_cons_succ]
        refine takeH (i := 12) (v := ?_) rfl (by kernel_rfl) (by kernel_rfl) (by kernel_rfl) (fun _ _ _ h => h) (Or.inl ⟨by rfl, ?_⟩) (by assumption) ?_
        rotate_left 1
        · (intro w hSw; (try dsimp only at hSw); go_simp; try (with_reducible rfl))
        try simp only [Act.put, List.setIfInBounds_toArray, List.set_cons_zero, List.set_cons_succ]
        refine takeH (i := 13) (v := ?_) rfl (by kernel_rfl) (by kernel_rfl) (by kernel_rfl) (fun _ _ _ h => h) (Or.inl ⟨by rfl, ?_⟩) (by assumption) ?_
        rotate_left 1
        · (intro w hSw; (try dsimp only at hSw); go_simp; try (with_reducible rfl))
        try simp only [Act.put, List.setIfInBounds_toArray, List.set_cons_zero, List.set_cons_succ]
        refine takeH (i := 14) (v := ?_) rfl (by kernel_rfl) (by kernel_rfl) (by kernel_rfl) (fun _ _ _ h => h) (Or.inl ⟨by rfl, ?_⟩) (by assumption) ?_
        rotate_left 1
        · (intro w hSw; (try dsimp only at hSw); go_simp; try (with_reducible rfl))
        try simp only [Act.put, List.setIfInBounds_toArray, List.set_cons_zero, List.set_cons_succ]
        refine takeH (i := 15) (v := ?_) rfl (by kernel_rfl) (by kernel_rfl) (by kernel_rfl) (fun _ _ _ h => h) (Or.inl ⟨by rfl, ?_⟩) (by assumption) ?_
        rotate_left 1
        · (intro w hSw; (try dsimp only at hSw); go_simp; try (with_reducible rfl))
        try simp only [Act.put, List.setIfInBounds_toArray, List.set_cons_zero, List.set_cons_succ]
        refine wpAnyH_ready (rs := [16]) (by kernel_rfl) (by simp) ?_
        refine consH rfl (fun K hK => ?_) AllReadyH.nil
        go_simp
        refine (pl.out _ st.out).mono ?_
        rintro e V3 ⟨rfl, o⟩
        have st := Lib.hid (st.out.trans' o)
        clear o
        refine hK.out _ _ (cel.out _ st.out) (fun hHeld2 => ?_)
        clear hK K hHeld
        have hHeld := hHeld2
        clear hHeld2
        try simp only [Act.put, List.setIfInBounds_toArray, List.set_cons_zero, List.set_cons_succ]
        refine takeH (i := 17) (v := ?_) rfl (by kernel_rfl) (by kernel_rfl) (by kernel_rfl) (fun _ _ _ h => h) (Or.inl ⟨by rfl, ?_⟩) (by assumption) ?_
        rotate_left 1
        · (intro w hSw; (try dsimp only at hSw); go_simp; try (with_reducible rfl))
        try simp only [Act.put, List.setIfInBounds_toArray, List.set_cons_zero, List.set_cons_succ]
        refine takeH (i := 18) (v := ?_) rfl (by kernel_rfl) (by kernel_rfl) (by kernel_rfl) (fun _ _ _ h => h) (Or.inl ⟨by rfl, ?_⟩) (by assumption) ?_
        rotate_left 1
        · (intro w hSw; (try dsimp only at hSw); go_simp; try (with_reducible rfl))
        try simp only [Act.put, List.setIfInBounds_toArray, List.set_cons_zero, List.set_cons_succ]
        refine wpAnyH_done (by kernel_rfl) ?_ _
        go_wp2_with fail
        go_roundg (N + 1 - (i + 1))
        case measure => omega
        case rel => exact ⟨i + 1, by simp, by omega, by omega, KD.out.only0 st.out⟩
      · have h2 : ¬ ((i : Int) + 1 < (N : Int)) := by omega
        have h3 : decide ((i : Int) + 1 < (N : Int)) = false := decide_eq_false h2
        have hw : IntKind.i64.wrap ((i : Int) + 1) = (i : Int) + 1 := by rw [IntKind.wrap_i64]; have := HN.out; omega
        have KD : Hid (KP v2 w5.drew H (some ⟨gr, 0, none⟩) A4 N c4 hs3 hs4 cs (i + 1)) := K'.out.only0 (Only.refl [] w5).drew
        clear K'
        go_wp2_with fail
        refine wp_region_held_drew (S := (fun _ => True)) (by kernel_rfl) trivial (fun hHeld => ?_)
        refine takeH (i := 0) (v := ?_) rfl (by kernel_rfl) (by kernel_rfl) (by kernel_rfl) (fun _ _ _ h => h) (Or.inl ⟨by rfl, ?_⟩) (by assumption) ?_
        rotate_left 1
        · (intro w hSw; (try dsimp only at hSw); go_simp; try (with_reducible rfl))
        try simp only [Act.put, List.setIfInBounds_toArray, List.set_cons_zero, List.set_cons_succ]
        refine takeH (i := 1) (v := ?_) rfl (by kernel_rfl) (by kernel_rfl) (by kernel_rfl) (fun _ _ _ h => h) (Or.inl ⟨by rfl, ?_⟩) (by assumption) ?_
        rotate_left 1
        · (intro w hSw; (try dsimp only at hSw); go_simp; try (with_reducible rfl))
        try simp only [Act.put, List.setIfInBounds_toArray, List.set_cons_zero, List.set_cons_succ]
        refine takeH (i := 2) (v := ?_) rfl (by kernel_rfl) (by kernel_rfl) (by kernel_rfl) (fun _ _ _ h => h) (Or.inl ⟨by rfl, ?_⟩) (by assumption) ?_
        rotate_left 1
        · (intro w hSw; (try dsimp only at hSw); go_simp; try (with_reducible rfl))
        try simp only [Act.put, List.setIfInBounds_toArray, List.set_cons_zero, List.set_cons_succ]
        refine takeH (i := 3) (v := ?_) rfl (by kernel_rfl) (by kernel_rfl) (by kernel_rfl) (fun _ _ _ h => h) (Or.inl ⟨by rfl, ?_⟩) (by assumption) ?_
        rotate_left 1
        · (intro w hSw; (try dsimp only at hSw); go_simp; try (with_reducible rfl))
        try simp only [Act.put, List.setIfInBounds_toArray, List.set_cons_zero, List.set_cons_succ]
        refine takeH (i := 4) (v := ?_) rfl (by kernel_rfl) (by kernel_rfl) (by kernel_rfl) (fun _ _ _ h => h) (Or.inl ⟨by rfl, ?_⟩) (by assumption) ?_
        rotate_left 1
        · (intro w hSw; (try dsimp only at hSw); go_simp; try (with_reducible rfl))
        try simp only [Act.put, List.setIfInBounds_toArray, List.set_cons_zero, List.set_cons_succ]
        refine takeH (i := 5) (v := ?_) rfl (by kernel_rfl) (by kernel_rfl) (by kernel_rfl) (fun _ _ _ h => h) (Or.inl ⟨by rfl, ?_⟩) (by assumption) ?_
        rotate_left 1
        · (intro w hSw; (try dsimp only at hSw); go_simp; try (with_reducible rfl))
        try simp only [Act.put, List.setIfInBounds_toArray, List.set_cons_zero, List.set_cons_succ]
        refine takeH (i := 6) (v := undef) rfl (by kernel_rfl) (by kernel_rfl) (by kernel_rfl) (fun _ _ _ h => h) (Or.inr ⟨by rfl, rfl⟩) (by assumption) ?_
        try simp only [Act.put, List.setIfInBounds_toArray, List.set_cons_zero, List.set_cons_succ]
        refine takeH (i := 7) (v := undef) rfl (by kernel_rfl) (by kernel_rfl) (by kernel_rfl) (fun _ _ _ h => h) (Or.inr ⟨by rfl, rfl⟩) (by assumption) ?_
        try simp only [Act.put, List.setIfInBounds_toArray, List.set_cons_zero, List.set_cons_succ]
        refine takeH (i := 8) (v := undef) rfl (by kernel_rfl) (by kernel_rfl) (by kernel_rfl) (fun _ _ _ h => h) (Or.inr ⟨by rfl, rfl⟩) (by assumption) ?_
        try simp only [Act.put, List.setIfInBounds_toArray, List.set_cons_zero, List.set_cons_succ]
        refine takeH (i := 9) (v := undef) rfl (by kernel_rfl) (by kernel_rfl) (by kernel_rfl) (fun _ _ _ h => h) (Or.inr ⟨by rfl, rfl⟩) (by assumption) ?_
        try simp only [Act.put, List.setIfInBounds_toArray, List.set_cons_zero, List.set_cons_succ]
        refine takeH (i := 10) (v := undef) rfl (by kernel_rfl) (by kernel_rfl) (by kernel_rfl) (fun _ _ _ h => h) (Or.inr ⟨by rfl, rfl⟩) (by assumption) ?_
        try simp only [Act.put, List.setIfInBounds_toArray, List.set_cons_zero, List.set_cons_succ]
        refine takeH (i := 11) (v := undef) rfl (by kernel_rfl) (by kernel_rfl) (by kernel_rfl) (fun _ _ _ h => h) (Or.inr ⟨by rfl, rfl⟩) (by assumption) ?_
        try simp only [Act.put, List.setIfInBounds_toArray, List.set_cons_zero, List.set_cons_succ]
        refine takeH (i := 12) (v := undef) rfl (by kernel_rfl) (by kernel_rfl) (by kernel_rfl) (fun _ _ _ h => h) (Or.inr ⟨by rfl, rfl⟩) (by assumption) ?_
        try simp only [Act.put, List.setIfInBounds_toArray, List.set_cons_zero, List.set_cons_succ]
        refine takeH (i := 13) (v := undef) rfl (by kernel_rfl) (by kernel_rfl) (by kernel_rfl) (fun _ _ _ h => h) (Or.inr ⟨by rfl, rfl⟩) (by assumption) ?_
        try simp only [Act.put, List.setIfInBounds_toArray, List.set_cons_zero, List.set_cons_succ]
        refine takeH (i := 14) (v := undef) rfl (by kernel_rfl) (by kernel_rfl) (by kernel_rfl) (fun _ _ _ h => h) (Or.inr ⟨by rfl, rfl⟩) (by assumption) ?_
        try simp only [Act.put, List.setIfInBounds_toArray, List.set_cons_zero, List.set_cons_succ]
        refine takeH (i := 15) (v := undef) rfl (by kernel_rfl) (by kernel_rfl) (by kernel_rfl) (fun _ _ _ h => h) (Or.inr ⟨by rfl, rfl⟩) (by assumption) ?_
        try simp only [Act.put, List.setIfInBounds_toArray, List.set_cons_zero, List.set_cons_succ]
        refine takeH (i := 16) (v := undef) rfl (by kernel_rfl) (by kernel_rfl) (by kernel_rfl) (fun _ _ _ h => h) (Or.inr ⟨by rfl, rfl⟩) (by assumption) ?_
        try simp only [Act.put, List.setIfInBounds_toArray, List.set_cons_zero, List.set_cons_succ]
        refine takeH (i := 17) (v := undef) rfl (by kernel_rfl) (by kernel_rfl) (by kernel_rfl) (fun _ _ _ h => h) (Or.inr ⟨by rfl, rfl⟩) (by assumption) ?_
        try simp only [Act.put, List.setIfInBounds_toArray, List.set_cons_zero, List.set_cons_succ]
        refine takeH (i := 18) (v := ?_) rfl (by kernel_rfl) (by kernel_rfl) (by kernel_rfl) (fun _ _ _ h => h) (Or.inl ⟨by rfl, ?_⟩) (by assumption) ?_
        rotate_left 1
        · (intro w hSw; (try dsimp only at hSw); go_simp; try (with_reducible rfl))
        try simp only [Act.put, List.setIfInBounds_toArray, List.set_cons_zero, List.set_cons_succ]
        refine wpAnyH_done (by kernel_rfl) ?_ _
        go_wp2_with fail
        go_roundg (N + 1 - (i + 1))
        case measure => omega
        case rel => exact ⟨i + 1, by simp, by omega, by omega, KD.out⟩
    · have h2 : ¬ ((i : Int) < (N : Int)) := by omega
      have h3 : decide ((i : Int) < (N : Int)) = false := decide_eq_false h2
      have O := Lib.hid K.out.only
      have D := Lib.hid (K.out.rd H64.out)
      clear K h2
      go_wp2_with fail
      refine (kF.out _ O.out).mono ?_
      rintro e V ⟨rfl, o⟩
      have O := Lib.hid (O.out.trans' o)
      have D := Lib.hid (D.out.only0 o)
      clear o
      go_wp2_with fail
      refine (kB.out _ O.out).mono ?_
      rintro e V ⟨rfl, o⟩
      have O := Lib.hid (O.out.trans' o)
      have D := Lib.hid (D.out.only0 o)
      clear o
      go_wp2_with fail
      refine (kK.out _ O.out).mono ?_
      rintro e V ⟨rfl, o⟩
      have O := Lib.hid (O.out.trans' o)
      have D := Lib.hid (D.out.only0 o)
      clear o
      go_wp2_with fail
      refine (kC2.out _ O.out).mono ?_
      rintro e V ⟨A9, c9, rfl, d9, o⟩
      have O := Lib.hid (O.out.trans' o)
      have hc := Lib.hid (hClocks V A9 A4 N c9 c4 cs (by have := HN.out; omega) d9 (D.out.only0 o))
      clear o d9 D
      go_wp2_with fail
      refine hc.out.mono ?_
      rintro e V ⟨rfl, o⟩
      have O := Lib.hid (O.out.trans' o)
      clear o
      go_wp2_with fail
      go_ret
      exact ⟨by simp, (OW.out.trans' O.out).below (Nat.le_refl _) (by simp)⟩

/-! ### The step from the walk to the statement -/
set_option maxRecDepth 100000 in
theorem lifted (os : Os) (started : os.Started) (H : Type) (enc : TypeId × Value → H) :
    ReturnsInHanded {} Try.checked os 10 .any (Rows.raceKeptSpec.pre6 enc Try.prog Try.f10 Rows.raceKeptRow.domain false) (Rows.raceKeptSpec.post enc Try.prog Try.f10 false true false false) := by
  refine returnsInHanded_of_change (C := Try.checked) own started (by kernel_rfl) Try.func10
    (ChangeSpec.witness6 (enc := enc) (C := Try.checked) false ⟨#[], #[.slice none 0 0, .slice none 0 0], []⟩ 8 (by kernel_rfl) (by kernel_rfl) (by kernel_rfl) (by kernel_rfl)) ?_
  intro W base args ds gs before hval0 hW hcnd _
  have hval : ∀ (j : Nat) t v, Try.f10.params[j]? = some t → args[j]? = some v → Value.okWide Try.prog W .any base t v := hval0
  have hW' := hW
  obtain ⟨p, q, hA0, hV, rfl, hfz, hnd⟩ := hW
  have hA : DataW.TrodAll enc Try.prog W 0 (fun _ => true) true Try.f10.params.toList args.toList ds p := hA0
  rw [Try.params10] at hA hval
  obtain ⟨v0, vs0, d0, ds0, p0, q0, hargs, rfl, rfl, h0, r0⟩ := trodAll_cons hA
  obtain ⟨v1, vs1, d1, ds1, p1, q1, rfl, rfl, rfl, h1, r1⟩ := trodAll_cons r0
  obtain ⟨rfl, rfl, rfl⟩ := trodAll_nil r1
  obtain rfl : args = #[v0, v1] := by cases args; simp_all
  obtain ⟨rfl, rfl⟩ := trodVars_none hV
  obtain ⟨a0, len0, cap0, rfl⟩ := okWide_slice Try.underlying22 (hval 0 22 v0 rfl rfl)
  have k0 := h0
  have lt0 : ∀ x ∈ p0, x.block < W.heap.size := by obtain ⟨m, hm⟩ := k0; exact DataW.trod_lt m _ _ _ hm
  obtain ⟨z0, w0⟩ : ∃ z, InEvs W a0 len0 z := by
    obtain ⟨fuel, hf⟩ := h0
    exact open_evs hf
  obtain ⟨a1, len1, cap1, rfl⟩ := okWide_slice Try.underlying23 (hval 1 23 v1 rfl rfl)
  have k1 := h1
  have lt1 : ∀ x ∈ p1, x.block < W.heap.size := by obtain ⟨m, hm⟩ := k1; exact DataW.trod_lt m _ _ _ hm
  obtain ⟨z1, w1⟩ : ∃ z, InNums .i64 W a1 len1 z := by
    obtain ⟨fuel, hf⟩ := h1
    exact open_numsF Try.underlying23 Try.underlying3 (by kernel_rfl) hf
  clear hA0 hval0
  refine (walk a0 len0 cap0 z0 a1 len1 cap1 z1 W w0 w1).mono fun e W' ⟨he, bel⟩ => ?_
  subst he
  exact ⟨_, rfl, _, _, _, [], _, [], hW', trodAll_mk1 (shut_bool Try.underlying4 _), (trodAll_cons_mk (Below.trod laidOut (by kernel_rfl) (of_decide_eq_true (by kernel_rfl)) k0 bel lt0) (trodAll_cons_mk (Below.trod laidOut (by kernel_rfl) (of_decide_eq_true (by kernel_rfl)) k1 bel lt1) trodAll_mk0)), rfl, bel.frame _, fun h => by cases h⟩

theorem over : Rows.raceKeptRow.holds Try.pinned (OpenSpec.ofChange Rows.raceKeptSpec) :=
  OpenClaim.holds_of_wide 10 Try.f10 rfl rfl rfl rfl rfl rfl rfl ⟨rfl, rfl, rfl, rfl, rfl⟩ rfl rfl rfl rfl rfl (by kernel_rfl) Try.func10 (by kernel_rfl)
    (of_decide_eq_true (by kernel_rfl)) (by unfold Func.isWrapper; first | (rw [if_pos (by decide +kernel)]; kernel_rfl) | (rw [if_neg (by decide +kernel)]; exact ⟨rfl, rfl⟩))
    (fun os started H enc _ => lifted os started H enc)

/-- The statement. -/
theorem proved : Rows.RaceKeptSaid := over
#print axioms proved
end Go.Proofs.Ytmgmfihjojhilaa.raceKept
