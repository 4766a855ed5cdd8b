/-
  weighbridgelaw13.RaceHands returns true for every input, and leaves its arguments as they were. No condition but that the arguments are values of their types.
-/
import Derived.Test.YtmgmfihjojhilaaRows
import Derived.Test.YtmgmfihjojhilaaRcX
import Derived.WalkKit
import Derived.ProofKit
import Derived.OpenShut
import Derived.ChangeOld
import Derived.Below
namespace Go.Proofs.Ytmgmfihjojhilaa.raceHands
open Go.ChangeShapes Go.WideShapes Go.ChangeAt Go.RowKit
set_option linter.unusedVariables false
set_option linter.unusedSimpArgs false

set_option maxRecDepth 100000 in
set_option maxHeartbeats 4000000 in
theorem walk (a0 : Int) (a1 : Int) (f2 l2 m2 : Int) (f3 l3 m3 : Int) (a4 : Int) (a5 : Int) (a6 : Int) (w : World) (w0 : (Lit.int .i64 a0).wf = true) (w1 : (Lit.int .i64 a1).wf = true) (wf2 : (Lit.int .i64 f2).wf = true) (wl2 : (Lit.int .i64 l2).wf = true) (wm2 : (Lit.int .i64 m2).wf = true) (wf3 : (Lit.int .i64 f3).wf = true) (wl3 : (Lit.int .i64 l3).wf = true) (wm3 : (Lit.int .i64 m3).wf = true) (w4 : (Lit.int .i64 a4).wf = true) (w5 : (Lit.int .i64 a5).wf = true) (w6 : (Lit.int .i64 a6).wf = true) :
    Calls Try.prog 8 #[.int .i64 a0, .int .i64 a1, .agg #[.int .i64 f2, .int .i64 l2, .int .i64 m2], .agg #[.int .i64 f3, .int .i64 l3, .int .i64 m3], .int .i64 a4, .int .i64 a5, .int .i64 a6] w fun e w' => e = .returned (.bool true) ∧ Below w.heap.size w w' := by
  have XL : Hid ((⟨f2, l2, m2⟩ : Lc).ok) := ⟨wf2, wl2, wm2⟩
  have YL : Hid ((⟨f3, l3, m3⟩ : Lc).ok) := ⟨wf3, wl3, wm3⟩
  clear w0 w1 w4 w5 w6 wf2 wl2 wm2 wf3 wl3 wm3
  have OB : Hid (Only [] w ((w.alloc (.cells #[.int .i64 f2, .int .i64 l2, .int .i64 m2] 34)).alloc (.cells #[.int .i64 f3, .int .i64 l3, .int .i64 m3] 34))) := ((Only.refl [] w).alloc _).alloc _
  have hx := ((Only.refl [] (w.alloc (.cells #[.int .i64 f2, .int .i64 l2, .int .i64 m2] 34))).alloc (.cells #[.int .i64 f3, .int .i64 l3, .int .i64 m3] 34)).get (heap_alloc_new w (.cells #[.int .i64 f2, .int .i64 l2, .int .i64 m2] 34)) (by simp)
  have hy := heap_alloc_new (w.alloc (.cells #[.int .i64 f2, .int .i64 l2, .int .i64 m2] 34)) (.cells #[.int .i64 f3, .int .i64 l3, .int .i64 m3] 34)
  rw [World.size_alloc] at hy
  go_enter Try.func8, Try.ntmps8
  go_upto_region 1 with fail
  generalize (w.alloc (.cells #[.int .i64 f2, .int .i64 l2, .int .i64 m2] 34)).alloc (.cells #[.int .i64 f3, .int .i64 l3, .int .i64 m3] 34) = W at *
  generalize w.heap.size = g at *
  have HX : Hid (∀ V, Only [] W V → V.cell? ⟨g, 0, none⟩ = some (.int .i64 f2) ∧ V.cell? ⟨g, 1, none⟩ = some (.int .i64 l2) ∧ V.cell? ⟨g, 2, none⟩ = some (.int .i64 m2)) := fun V o => by
    have hb := o.get hx (by simp)
    exact ⟨by rw [cell_of_row V _ _ _ _ (0, 0) hb]; rfl, by rw [cell_of_row V _ _ _ _ (0, 0) hb]; rfl, by rw [cell_of_row V _ _ _ _ (0, 0) hb]; rfl⟩
  have HY : Hid (∀ V, Only [] W V → V.cell? ⟨g + 1, 0, none⟩ = some (.int .i64 f3) ∧ V.cell? ⟨g + 1, 1, none⟩ = some (.int .i64 l3) ∧ V.cell? ⟨g + 1, 2, none⟩ = some (.int .i64 m3)) := fun V o => by
    have hb := o.get hy (by simp)
    exact ⟨by rw [cell_of_row V _ _ _ _ (0, 0) hb]; rfl, by rw [cell_of_row V _ _ _ _ (0, 0) hb]; rfl, by rw [cell_of_row V _ _ _ _ (0, 0) hb]; rfl⟩
  clear hx hy
  obtain ⟨i0, i1, i2⟩ := HX.out W (Only.refl _ _)
  obtain ⟨j0, j1, j2⟩ := HY.out W (Only.refl _ _)
  have md := Lib.hid (fun (v n : Int) (h : 0 < n) (hn : n ≤ 1000000) (V : World) => cMod v n h hn V)
  obtain ⟨u, hu, hu64⟩ := modI_nat a0 (n := 64) (by decide)
  obtain ⟨v, hv, hv64⟩ := modI_nat a1 (n := 64) (by decide)
  have mu : Hid (∀ V, Calls Try.prog 21 #[.int .i64 a0, .int .i64 64] V fun e w' => e = .returned (.int .i64 (u : Int)) ∧ w' = V) := fun V => by have h := md.out a0 64 (by decide) (by decide) V; rw [show modI a0 64 = (u : Int) from hu] at h; exact h
  have mv : Hid (∀ V, Calls Try.prog 21 #[.int .i64 a1, .int .i64 64] V fun e w' => e = .returned (.int .i64 (v : Int)) ∧ w' = V) := fun V => by have h := md.out a1 64 (by decide) (by decide) V; rw [show modI a1 64 = (v : Int) from hv] at h; exact h
  clear hu hv
  have lq := lc_eql ⟨f2, l2, m2⟩ ⟨f3, l3, m3⟩
  dsimp only at lq
  go_wp2_with fail
  refine (mu.out _).mono ?_
  rintro e V ⟨rfl, hv⟩
  rw [hv]
  clear hv mu
  go_wp2_with fail
  refine (mv.out _).mono ?_
  rintro e V ⟨rfl, hv⟩
  rw [hv]
  clear hv mv
  have HU64 := Lib.hid (And.intro hu64 hv64)
  by_cases huv : u = v
  · have e1 : ((u : Int) == (v : Int)) = true := by simp [huv]
    clear huv
    go_wp2_with (refine (lAwake _).mono ?_; rintro e V ⟨rfl, o⟩; have O := Lib.hid o; clear o)
    go_ret
    exact ⟨by simp, (OB.out.trans' O.out).below (Nat.le_refl _) (by simp)⟩
  have e1 : ((u : Int) == (v : Int)) = false := by simp; omega
  have HUV := Lib.hid huv
  clear huv
  by_cases hxy : (⟨f2, l2, m2⟩ : Lc) = ⟨f3, l3, m3⟩
  · rw [decide_eq_true hxy] at lq
    clear hxy
    go_wp2_with (refine (lAwake _).mono ?_; rintro e V ⟨rfl, o⟩; have O := Lib.hid o; clear o)
    go_ret
    exact ⟨by simp, (OB.out.trans' O.out).below (Nat.le_refl _) (by simp)⟩
  rw [decide_eq_false hxy] at lq
  have HXY := Lib.hid hxy
  clear hxy
  obtain ⟨t, ht, ht2⟩ := modI_nat a4 (n := 2) (by decide)
  obtain ⟨k, hk, hk2⟩ := modI_nat a6 (n := 2) (by decide)
  obtain ⟨r, hr, hr3⟩ := modI_nat a5 (n := 3) (by decide)
  have mt : Hid (∀ V, Calls Try.prog 21 #[.int .i64 a4, .int .i64 2] V fun e w' => e = .returned (.int .i64 (t : Int)) ∧ w' = V) := fun V => by have h := md.out a4 2 (by decide) (by decide) V; rw [show modI a4 2 = (t : Int) from ht] at h; exact h
  have mk : Hid (∀ V, Calls Try.prog 21 #[.int .i64 a6, .int .i64 2] V fun e w' => e = .returned (.int .i64 (k : Int)) ∧ w' = V) := fun V => by have h := md.out a6 2 (by decide) (by decide) V; rw [show modI a6 2 = (k : Int) from hk] at h; exact h
  have mr : Hid (∀ V, Calls Try.prog 21 #[.int .i64 a5, .int .i64 3] V fun e w' => e = .returned (.int .i64 (r : Int)) ∧ w' = V) := fun V => by have h := md.out a5 3 (by decide) (by decide) V; rw [show modI a5 3 = (r : Int) from hr] at h; exact h
  clear ht hk hr
  have HT : Hid (2 + (t : Int) = 2 ∨ 2 + (t : Int) = 3) := by show _ ∨ _; omega
  have HK : Hid (5 + (k : Int) = 5 ∨ 5 + (k : Int) = 6) := by show _ ∨ _; omega
  have wt : IntKind.i64.wrap (2 + (t : Int)) = 2 + (t : Int) := by rw [IntKind.wrap_i64]; omega
  have wk : IntKind.i64.wrap (5 + (k : Int)) = 5 + (k : Int) := by rw [IntKind.wrap_i64]; omega
  have wt2 : wrap64 (2 + (t : Int)) = 2 + (t : Int) := by unfold wrap64; omega
  have wk2 : wrap64 (5 + (k : Int)) = 5 + (k : Int) := by unfold wrap64; omega
  go_wp2_with fail
  refine (mt.out _).mono ?_
  rintro e V ⟨rfl, hv⟩
  rw [hv]
  clear hv mt
  go_wp2_with fail
  refine (mk.out _).mono ?_
  rintro e V ⟨rfl, hv⟩
  rw [hv]
  clear hv mk
  obtain ⟨hr0, HR0, HRc⟩ : ∃ hr : Int, (hr = 1 ∨ hr = 3 ∨ hr = 4) ∧ (W.alloc (.cells #[.int .i64 1, .int .i64 3, .int .i64 4] 3)).cell? ⟨W.heap.size, r, none⟩ = some (.int .i64 hr) := by
    have hb := heap_alloc_new W (.cells #[.int .i64 1, .int .i64 3, .int .i64 4] 3)
    generalize W.alloc (.cells #[.int .i64 1, .int .i64 3, .int .i64 4] 3) = X at *
    match r, hr3 with
    | 0, _ => exact ⟨1, .inl rfl, by rw [cell_of_row X _ _ _ _ (0, 0) hb]; rfl⟩
    | 1, _ => exact ⟨3, .inr (.inl rfl), by rw [cell_of_row X _ _ _ _ (0, 0) hb]; rfl⟩
    | 2, _ => exact ⟨4, .inr (.inr rfl), by rw [cell_of_row X _ _ _ _ (0, 0) hb]; rfl⟩
  have HR := Lib.hid HR0
  clear HR0
  go_upto_region 5 with fail
  clear wt wt2 wk wk2 lq e1 hu64 hv64
  generalize 2 + (t : Int) = tl at *
  generalize 5 + (k : Int) = kd at *
  have hr3i : (r : Int) < 3 := by omega
  have OR : Hid (Only [] W (W.alloc (.cells #[.int .i64 1, .int .i64 3, .int .i64 4] 3))) := (Only.refl [] W).alloc _
  clear i0 i1 i2 j0 j1 j2
  go_wp2_with fail
  refine (mr.out _).mono ?_
  rintro e V ⟨rfl, hv⟩
  rw [hv]
  clear hv mr
  generalize W.alloc (.cells #[.int .i64 1, .int .i64 3, .int .i64 4] 3) = X1 at *
  generalize W.heap.size = g1 at *
  go_upto_region 6 with fail
  clear HRc
  obtain ⟨i0, i1, i2⟩ := HX.out X1 OR.out
  have cel : Hid (∀ V, Only [] X1 V → V.cell? ⟨g, 0, none⟩ = some (.int .i64 f2) ∧ V.cell? ⟨g, 1, none⟩ = some (.int .i64 l2) ∧ V.cell? ⟨g, 2, none⟩ = some (.int .i64 m2)) := fun V o => HX.out V (OR.out.trans' o)
  clear i0 i1 i2
  have st : Hid (Only [] X1 X1.drew) := (Only.refl [] X1).drew
  refine (fun (main : ∀ (pA pB : Nat) (Y : World), (Only [] X1 Y ∧ (Y.heap[pA]? = some (.cells #[.int .i64 (u : Int), .int .i64 6, .int .i64 f2, .int .i64 l2, .int .i64 m2] 36 (0, 0)) ∧ Y.heap[pB]? = some (.cells #[.int .i64 (v : Int), .int .i64 kd, .int .i64 f2, .int .i64 l2, .int .i64 m2] 36 (0, 0)))) → (?G : Nat → Nat → World → Prop) pA pB Y) => ?body) ?pf
  case body =>
    refine wp_region_held_drew (S := (fun V => V.cell? ⟨g, 0, none⟩ = some (.int .i64 f2) ∧ V.cell? ⟨g, 1, none⟩ = some (.int .i64 l2) ∧ V.cell? ⟨g, 2, none⟩ = some (.int .i64 m2))) (by kernel_rfl) (cel.out _ st.out) (fun hHeld => ?_)
    refine takeH (i := 0) (v := ?_) rfl (by kernel_rfl) (by kernel_rfl) (by kernel_rfl) (fun _ _ _ h => h) (Or.inl ⟨by rfl, ?_⟩) (by assumption) ?_
    rotate_left 1
    · (intro w hSw; (try dsimp only at hSw); go_simp; try (with_reducible rfl))
    try simp only [Act.put, List.setIfInBounds_toArray, List.set_cons_zero, List.set_cons_succ]
    refine takeH (i := 1) (v := ?_) rfl (by kernel_rfl) (by kernel_rfl) (by kernel_rfl) (fun _ _ _ h => h) (Or.inl ⟨by rfl, ?_⟩) (by assumption) ?_
    rotate_left 1
    · (intro w hSw; (try dsimp only at hSw); go_simp; try (with_reducible rfl))
    try simp only [Act.put, List.setIfInBounds_toArray, List.set_cons_zero, List.set_cons_succ]
    refine takeH (i := 3) (v := ?_) rfl (by kernel_rfl) (by kernel_rfl) (by kernel_rfl) (fun _ _ _ h => h) (Or.inl ⟨by rfl, ?_⟩) (by assumption) ?_
    rotate_left 1
    · (intro w hSw; (try dsimp only at hSw); go_simp; try (with_reducible rfl))
    try simp only [Act.put, List.setIfInBounds_toArray, List.set_cons_zero, List.set_cons_succ]
    refine takeH (i := 4) (v := ?_) rfl (by kernel_rfl) (by kernel_rfl) (by kernel_rfl) (fun _ _ _ h => h) (Or.inl ⟨by rfl, ?_⟩) (by assumption) ?_
    rotate_left 1
    · (intro w hSw; (try dsimp only at hSw); go_simp; try (with_reducible rfl))
    try simp only [Act.put, List.setIfInBounds_toArray, List.set_cons_zero, List.set_cons_succ]
    refine takeH (i := 5) (v := ?_) rfl (by kernel_rfl) (by kernel_rfl) (by kernel_rfl) (fun _ _ _ h => h) (Or.inl ⟨by rfl, ?_⟩) (by assumption) ?_
    rotate_left 1
    · (intro w hSw; (try dsimp only at hSw); go_simp; try (with_reducible rfl))
    try simp only [Act.put, List.setIfInBounds_toArray, List.set_cons_zero, List.set_cons_succ]
    refine takeH (i := 2) (v := ?_) rfl (by kernel_rfl) (by kernel_rfl) (by kernel_rfl) (fun _ _ _ h => h) (Or.inl ⟨by rfl, ?_⟩) (by assumption) ?_
    rotate_left 1
    · (intro w hSw; (try dsimp only at hSw); go_simp; try (with_reducible rfl))
    try simp only [Act.put, List.setIfInBounds_toArray, List.set_cons_zero, List.set_cons_succ]
    refine takeH (i := 6) (v := ?_) rfl (by kernel_rfl) (by kernel_rfl) (by kernel_rfl) (fun _ _ _ h => h) (Or.inl ⟨by rfl, ?_⟩) (by assumption) ?_
    rotate_left 1
    · (intro w hSw; (try dsimp only at hSw); go_simp; try (with_reducible rfl))
    try simp only [Act.put, List.setIfInBounds_toArray, List.set_cons_zero, List.set_cons_succ]
    refine wpAnyH_ready (rs := [7, 8]) (by kernel_rfl) (by simp) ?_
    refine consH rfl (fun K hK => ?_) (consH rfl (fun K hK => ?_) AllReadyH.nil)
    · go_simp
      refine hK.out _ _ (cel.out _ (st.out.alloc _)) (fun hHeld2 => ?_)
      clear hK K hHeld
      have hHeld := hHeld2
      clear hHeld2
      try simp only [Act.put, List.setIfInBounds_toArray, List.set_cons_zero, List.set_cons_succ]
      refine wpAnyH_ready (rs := [8]) (by kernel_rfl) (by simp) ?_
      refine consH rfl (fun K hK => ?_) AllReadyH.nil
      go_simp
      refine hK.out _ _ (cel.out _ ((st.out.alloc _).alloc _)) (fun hHeld2 => ?_)
      clear hK K hHeld
      have hHeld := hHeld2
      clear hHeld2
      try simp only [Act.put, List.setIfInBounds_toArray, List.set_cons_zero, List.set_cons_succ]
      have h1 : (((X1.alloc (.cells #[.int .i64 0, .int .i64 0, .int .i64 0, .int .i64 0, .int .i64 0] 36)).alloc (.cells #[.int .i64 0, .int .i64 0, .int .i64 0, .int .i64 0, .int .i64 0] 36)).drew).heap[X1.heap.size]? = some (.cells #[.int .i64 0, .int .i64 0, .int .i64 0, .int .i64 0, .int .i64 0] 36 (0, 0)) := ((Only.refl [] (X1.alloc (.cells #[.int .i64 0, .int .i64 0, .int .i64 0, .int .i64 0, .int .i64 0] 36))).alloc (.cells #[.int .i64 0, .int .i64 0, .int .i64 0, .int .i64 0, .int .i64 0] 36)).get (heap_alloc_new X1 (.cells #[.int .i64 0, .int .i64 0, .int .i64 0, .int .i64 0, .int .i64 0] 36)) (by simp)
      have h2 : (((X1.alloc (.cells #[.int .i64 0, .int .i64 0, .int .i64 0, .int .i64 0, .int .i64 0] 36)).alloc (.cells #[.int .i64 0, .int .i64 0, .int .i64 0, .int .i64 0, .int .i64 0] 36)).drew).heap[X1.heap.size + 1]? = some (.cells #[.int .i64 0, .int .i64 0, .int .i64 0, .int .i64 0, .int .i64 0] 36 (0, 0)) := by
        have h := heap_alloc_new (X1.alloc (.cells #[.int .i64 0, .int .i64 0, .int .i64 0, .int .i64 0, .int .i64 0] 36)) (.cells #[.int .i64 0, .int .i64 0, .int .i64 0, .int .i64 0, .int .i64 0] 36)
        rw [World.size_alloc] at h
        exact h
      have st2 : Hid (Only [] X1 (((X1.alloc (.cells #[.int .i64 0, .int .i64 0, .int .i64 0, .int .i64 0, .int .i64 0] 36)).alloc (.cells #[.int .i64 0, .int .i64 0, .int .i64 0, .int .i64 0, .int .i64 0] 36)).drew)) := (((Only.refl [] X1).alloc _).alloc _).drew
      have OS : Hid (∀ (V : World) (q j : Nat) (x : Value), q = X1.heap.size ∨ q = X1.heap.size + 1 → Only [] X1 V → Only [] X1 (V.setCell ⟨q, j, none⟩ x)) := fun V q j x hq o => o.setCell (.inr (by show _ ≤ q; omega)) x
      have NE : Hid (X1.heap.size ≠ X1.heap.size + 1) := by show _ ≠ _; omega
      clear hHeld
      have hHeld := cel.out _ st2.out
      generalize ((X1.alloc (.cells #[.int .i64 0, .int .i64 0, .int .i64 0, .int .i64 0, .int .i64 0] 36)).alloc (.cells #[.int .i64 0, .int .i64 0, .int .i64 0, .int .i64 0, .int .i64 0] 36)).drew = Y at *
      generalize X1.heap.size + 1 = p2 at *
      generalize X1.heap.size = p1 at *
      obtain ⟨⟨y0, y1, y2, y3, y4⟩, yf⟩ := cells5 h1
      have yf0 := yf 0
      have yf1 := yf 1
      have yf2 := yf 2
      have yf3 := yf 3
      have yf4 := yf 4
      have st3 : Hid (Only [] X1 (((((Y.setCell ⟨p1, 0, none⟩ (.int .i64 (u : Int))).setCell ⟨p1, 1, none⟩ (.int .i64 6)).setCell ⟨p1, 2, none⟩ (.int .i64 f2)).setCell ⟨p1, 3, none⟩ (.int .i64 l2)).setCell ⟨p1, 4, none⟩ (.int .i64 m2))) := (OS.out _ p1 4 _ (.inl rfl) (OS.out _ p1 3 _ (.inl rfl) (OS.out _ p1 2 _ (.inl rfl) (OS.out _ p1 1 _ (.inl rfl) (OS.out _ p1 0 _ (.inl rfl) st2.out)))))
      obtain ⟨k1, k2⟩ := set5 Y p1 _ _ _ _ _ _ (.int .i64 (u : Int)) (.int .i64 6) (.int .i64 f2) (.int .i64 l2) (.int .i64 m2) h1
      have k3 := k2.get h2 (by simp; exact NE.out.symm)
      refine wpAnyH_ready (rs := [9]) (by kernel_rfl) (by simp) ?_
      refine consH rfl (fun K hK => ?_) AllReadyH.nil
      go_simp
      refine hK.out _ _ (cel.out _ st3.out) (fun hHeld2 => ?_)
      clear hK K hHeld
      have hHeld := hHeld2
      clear hHeld2
      try simp only [Act.put, List.setIfInBounds_toArray, List.set_cons_zero, List.set_cons_succ]
      clear y0 y1 y2 y3 y4 yf yf0 yf1 yf2 yf3 yf4 k2 h1 h2
      generalize (((((Y.setCell ⟨p1, 0, none⟩ (.int .i64 (u : Int))).setCell ⟨p1, 1, none⟩ (.int .i64 6)).setCell ⟨p1, 2, none⟩ (.int .i64 f2)).setCell ⟨p1, 3, none⟩ (.int .i64 l2)).setCell ⟨p1, 4, none⟩ (.int .i64 m2)) = Y1 at *
      obtain ⟨⟨y0, y1, y2, y3, y4⟩, yf⟩ := cells5 k3
      have yf0 := yf 0
      have yf1 := yf 1
      have yf2 := yf 2
      have yf3 := yf 3
      have yf4 := yf 4
      have st4 : Hid (Only [] X1 (((((Y1.setCell ⟨p2, 0, none⟩ (.int .i64 (v : Int))).setCell ⟨p2, 1, none⟩ (.int .i64 kd)).setCell ⟨p2, 2, none⟩ (.int .i64 f2)).setCell ⟨p2, 3, none⟩ (.int .i64 l2)).setCell ⟨p2, 4, none⟩ (.int .i64 m2))) := (OS.out _ p2 4 _ (.inr rfl) (OS.out _ p2 3 _ (.inr rfl) (OS.out _ p2 2 _ (.inr rfl) (OS.out _ p2 1 _ (.inr rfl) (OS.out _ p2 0 _ (.inr rfl) st3.out)))))
      obtain ⟨k4, k5⟩ := set5 Y1 p2 _ _ _ _ _ _ (.int .i64 (v : Int)) (.int .i64 kd) (.int .i64 f2) (.int .i64 l2) (.int .i64 m2) k3
      have k6 := k5.get k1 (by simp; exact NE.out)
      refine wpAnyH_ready (rs := [10]) (by kernel_rfl) (by simp) ?_
      refine consH rfl (fun K hK => ?_) AllReadyH.nil
      go_simp
      refine hK.out _ _ (cel.out _ st4.out) (fun hHeld2 => ?_)
      clear hK K hHeld
      have hHeld := hHeld2
      clear hHeld2
      try simp only [Act.put, List.setIfInBounds_toArray, List.set_cons_zero, List.set_cons_succ]
      clear y0 y1 y2 y3 y4 yf yf0 yf1 yf2 yf3 yf4 k5 hHeld
      generalize (((((Y1.setCell ⟨p2, 0, none⟩ (.int .i64 (v : Int))).setCell ⟨p2, 1, none⟩ (.int .i64 kd)).setCell ⟨p2, 2, none⟩ (.int .i64 f2)).setCell ⟨p2, 3, none⟩ (.int .i64 l2)).setCell ⟨p2, 4, none⟩ (.int .i64 m2)) = Y2 at *
      refine wpAnyH_done (by kernel_rfl) ?_ _
      exact main p1 p2 Y2 ⟨st4.out, k6, k4⟩
    · go_simp
      refine hK.out _ _ (cel.out _ (st.out.alloc _)) (fun hHeld2 => ?_)
      clear hK K hHeld
      have hHeld := hHeld2
      clear hHeld2
      try simp only [Act.put, List.setIfInBounds_toArray, List.set_cons_zero, List.set_cons_succ]
      refine wpAnyH_ready (rs := [7]) (by kernel_rfl) (by simp) ?_
      refine consH rfl (fun K hK => ?_) AllReadyH.nil
      go_simp
      refine hK.out _ _ (cel.out _ ((st.out.alloc _).alloc _)) (fun hHeld2 => ?_)
      clear hK K hHeld
      have hHeld := hHeld2
      clear hHeld2
      try simp only [Act.put, List.setIfInBounds_toArray, List.set_cons_zero, List.set_cons_succ]
      have h1 : (((X1.alloc (.cells #[.int .i64 0, .int .i64 0, .int .i64 0, .int .i64 0, .int .i64 0] 36)).alloc (.cells #[.int .i64 0, .int .i64 0, .int .i64 0, .int .i64 0, .int .i64 0] 36)).drew).heap[X1.heap.size]? = some (.cells #[.int .i64 0, .int .i64 0, .int .i64 0, .int .i64 0, .int .i64 0] 36 (0, 0)) := ((Only.refl [] (X1.alloc (.cells #[.int .i64 0, .int .i64 0, .int .i64 0, .int .i64 0, .int .i64 0] 36))).alloc (.cells #[.int .i64 0, .int .i64 0, .int .i64 0, .int .i64 0, .int .i64 0] 36)).get (heap_alloc_new X1 (.cells #[.int .i64 0, .int .i64 0, .int .i64 0, .int .i64 0, .int .i64 0] 36)) (by simp)
      have h2 : (((X1.alloc (.cells #[.int .i64 0, .int .i64 0, .int .i64 0, .int .i64 0, .int .i64 0] 36)).alloc (.cells #[.int .i64 0, .int .i64 0, .int .i64 0, .int .i64 0, .int .i64 0] 36)).drew).heap[X1.heap.size + 1]? = some (.cells #[.int .i64 0, .int .i64 0, .int .i64 0, .int .i64 0, .int .i64 0] 36 (0, 0)) := by
        have h := heap_alloc_new (X1.alloc (.cells #[.int .i64 0, .int .i64 0, .int .i64 0, .int .i64 0, .int .i64 0] 36)) (.cells #[.int .i64 0, .int .i64 0, .int .i64 0, .int .i64 0, .int .i64 0] 36)
        rw [World.size_alloc] at h
        exact h
      have st2 : Hid (Only [] X1 (((X1.alloc (.cells #[.int .i64 0, .int .i64 0, .int .i64 0, .int .i64 0, .int .i64 0] 36)).alloc (.cells #[.int .i64 0, .int .i64 0, .int .i64 0, .int .i64 0, .int .i64 0] 36)).drew)) := (((Only.refl [] X1).alloc _).alloc _).drew
      have OS : Hid (∀ (V : World) (q j : Nat) (x : Value), q = X1.heap.size ∨ q = X1.heap.size + 1 → Only [] X1 V → Only [] X1 (V.setCell ⟨q, j, none⟩ x)) := fun V q j x hq o => o.setCell (.inr (by show _ ≤ q; omega)) x
      have NE : Hid (X1.heap.size ≠ X1.heap.size + 1) := by show _ ≠ _; omega
      clear hHeld
      have hHeld := cel.out _ st2.out
      generalize ((X1.alloc (.cells #[.int .i64 0, .int .i64 0, .int .i64 0, .int .i64 0, .int .i64 0] 36)).alloc (.cells #[.int .i64 0, .int .i64 0, .int .i64 0, .int .i64 0, .int .i64 0] 36)).drew = Y at *
      generalize X1.heap.size + 1 = p2 at *
      generalize X1.heap.size = p1 at *
      obtain ⟨⟨y0, y1, y2, y3, y4⟩, yf⟩ := cells5 h2
      have yf0 := yf 0
      have yf1 := yf 1
      have yf2 := yf 2
      have yf3 := yf 3
      have yf4 := yf 4
      have st3 : Hid (Only [] X1 (((((Y.setCell ⟨p2, 0, none⟩ (.int .i64 (u : Int))).setCell ⟨p2, 1, none⟩ (.int .i64 6)).setCell ⟨p2, 2, none⟩ (.int .i64 f2)).setCell ⟨p2, 3, none⟩ (.int .i64 l2)).setCell ⟨p2, 4, none⟩ (.int .i64 m2))) := (OS.out _ p2 4 _ (.inr rfl) (OS.out _ p2 3 _ (.inr rfl) (OS.out _ p2 2 _ (.inr rfl) (OS.out _ p2 1 _ (.inr rfl) (OS.out _ p2 0 _ (.inr rfl) st2.out)))))
      obtain ⟨k1, k2⟩ := set5 Y p2 _ _ _ _ _ _ (.int .i64 (u : Int)) (.int .i64 6) (.int .i64 f2) (.int .i64 l2) (.int .i64 m2) h2
      have k3 := k2.get h1 (by simp; exact NE.out)
      refine wpAnyH_ready (rs := [9]) (by kernel_rfl) (by simp) ?_
      refine consH rfl (fun K hK => ?_) AllReadyH.nil
      go_simp
      refine hK.out _ _ (cel.out _ st3.out) (fun hHeld2 => ?_)
      clear hK K hHeld
      have hHeld := hHeld2
      clear hHeld2
      try simp only [Act.put, List.setIfInBounds_toArray, List.set_cons_zero, List.set_cons_succ]
      clear y0 y1 y2 y3 y4 yf yf0 yf1 yf2 yf3 yf4 k2 h1 h2
      generalize (((((Y.setCell ⟨p2, 0, none⟩ (.int .i64 (u : Int))).setCell ⟨p2, 1, none⟩ (.int .i64 6)).setCell ⟨p2, 2, none⟩ (.int .i64 f2)).setCell ⟨p2, 3, none⟩ (.int .i64 l2)).setCell ⟨p2, 4, none⟩ (.int .i64 m2)) = Y1 at *
      obtain ⟨⟨y0, y1, y2, y3, y4⟩, yf⟩ := cells5 k3
      have yf0 := yf 0
      have yf1 := yf 1
      have yf2 := yf 2
      have yf3 := yf 3
      have yf4 := yf 4
      have st4 : Hid (Only [] X1 (((((Y1.setCell ⟨p1, 0, none⟩ (.int .i64 (v : Int))).setCell ⟨p1, 1, none⟩ (.int .i64 kd)).setCell ⟨p1, 2, none⟩ (.int .i64 f2)).setCell ⟨p1, 3, none⟩ (.int .i64 l2)).setCell ⟨p1, 4, none⟩ (.int .i64 m2))) := (OS.out _ p1 4 _ (.inl rfl) (OS.out _ p1 3 _ (.inl rfl) (OS.out _ p1 2 _ (.inl rfl) (OS.out _ p1 1 _ (.inl rfl) (OS.out _ p1 0 _ (.inl rfl) st3.out)))))
      obtain ⟨k4, k5⟩ := set5 Y1 p1 _ _ _ _ _ _ (.int .i64 (v : Int)) (.int .i64 kd) (.int .i64 f2) (.int .i64 l2) (.int .i64 m2) k3
      have k6 := k5.get k1 (by simp; exact NE.out.symm)
      refine wpAnyH_ready (rs := [10]) (by kernel_rfl) (by simp) ?_
      refine consH rfl (fun K hK => ?_) AllReadyH.nil
      go_simp
      refine hK.out _ _ (cel.out _ st4.out) (fun hHeld2 => ?_)
      clear hK K hHeld
      have hHeld := hHeld2
      clear hHeld2
      try simp only [Act.put, List.setIfInBounds_toArray, List.set_cons_zero, List.set_cons_succ]
      clear y0 y1 y2 y3 y4 yf yf0 yf1 yf2 yf3 yf4 k5 hHeld
      generalize (((((Y1.setCell ⟨p1, 0, none⟩ (.int .i64 (v : Int))).setCell ⟨p1, 1, none⟩ (.int .i64 kd)).setCell ⟨p1, 2, none⟩ (.int .i64 f2)).setCell ⟨p1, 3, none⟩ (.int .i64 l2)).setCell ⟨p1, 4, none⟩ (.int .i64 m2)) = Y2 at *
      refine wpAnyH_done (by kernel_rfl) ?_ _
      exact main p2 p1 Y2 ⟨st4.out, k6, k4⟩
  case pf =>
    rintro pA pB Yb ⟨oY, hA, hB⟩
    have OY : Hid (Only [] W Yb) := OR.out.trans' oY
    have HAB := Lib.hid (And.intro hA hB)
    clear oY hA hB cel st
    go_upto_region 7 with fail
    have cel : Hid (∀ V, Only [] Yb V → V.cell? ⟨g + 1, 0, none⟩ = some (.int .i64 f3) ∧ V.cell? ⟨g + 1, 1, none⟩ = some (.int .i64 l3) ∧ V.cell? ⟨g + 1, 2, none⟩ = some (.int .i64 m3)) := fun V o => HY.out V (OY.out.trans' o)
    have st : Hid (Only [] Yb Yb.drew) := (Only.refl [] Yb).drew
    refine (fun (main2 : ∀ (pS pR : Nat) (Y : World), (Only [] Yb Y ∧ (Y.heap[pS]? = some (.cells #[.int .i64 (u : Int), .int .i64 tl, .int .i64 f3, .int .i64 l3, .int .i64 m3] 36 (0, 0)) ∧ Y.heap[pR]? = some (.cells #[.int .i64 (v : Int), .int .i64 hr0, .int .i64 f3, .int .i64 l3, .int .i64 m3] 36 (0, 0)))) → (?G2 : Nat → Nat → World → Prop) pS pR Y) => ?body2) ?pf2
    case body2 =>
      refine wp_region_held_drew (S := (fun V => V.cell? ⟨g + 1, 0, none⟩ = some (.int .i64 f3) ∧ V.cell? ⟨g + 1, 1, none⟩ = some (.int .i64 l3) ∧ V.cell? ⟨g + 1, 2, none⟩ = some (.int .i64 m3))) (by kernel_rfl) (cel.out _ st.out) (fun hHeld => ?_)
      refine takeH (i := 0) (v := ?_) rfl (by kernel_rfl) (by kernel_rfl) (by kernel_rfl) (fun _ _ _ h => h) (Or.inl ⟨by rfl, ?_⟩) (by assumption) ?_
      rotate_left 1
      · (intro w hSw; (try dsimp only at hSw); go_simp; try (with_reducible rfl))
      try simp only [Act.put, List.setIfInBounds_toArray, List.set_cons_zero, List.set_cons_succ]
      refine takeH (i := 1) (v := ?_) rfl (by kernel_rfl) (by kernel_rfl) (by kernel_rfl) (fun _ _ _ h => h) (Or.inl ⟨by rfl, ?_⟩) (by assumption) ?_
      rotate_left 1
      · (intro w hSw; (try dsimp only at hSw); go_simp; try (with_reducible rfl))
      try simp only [Act.put, List.setIfInBounds_toArray, List.set_cons_zero, List.set_cons_succ]
      refine takeH (i := 2) (v := ?_) rfl (by kernel_rfl) (by kernel_rfl) (by kernel_rfl) (fun _ _ _ h => h) (Or.inl ⟨by rfl, ?_⟩) (by assumption) ?_
      rotate_left 1
      · (intro w hSw; (try dsimp only at hSw); go_simp; try (with_reducible rfl))
      try simp only [Act.put, List.setIfInBounds_toArray, List.set_cons_zero, List.set_cons_succ]
      refine takeH (i := 3) (v := ?_) rfl (by kernel_rfl) (by kernel_rfl) (by kernel_rfl) (fun _ _ _ h => h) (Or.inl ⟨by rfl, ?_⟩) (by assumption) ?_
      rotate_left 1
      · (intro w hSw; (try dsimp only at hSw); go_simp; try (with_reducible rfl))
      try simp only [Act.put, List.setIfInBounds_toArray, List.set_cons_zero, List.set_cons_succ]
      refine takeH (i := 4) (v := ?_) rfl (by kernel_rfl) (by kernel_rfl) (by kernel_rfl) (fun _ _ _ h => h) (Or.inl ⟨by rfl, ?_⟩) (by assumption) ?_
      rotate_left 1
      · (intro w hSw; (try dsimp only at hSw); go_simp; try (with_reducible rfl))
      try simp only [Act.put, List.setIfInBounds_toArray, List.set_cons_zero, List.set_cons_succ]
      refine takeH (i := 5) (v := ?_) rfl (by kernel_rfl) (by kernel_rfl) (by kernel_rfl) (fun _ _ _ h => h) (Or.inl ⟨by rfl, ?_⟩) (by assumption) ?_
      rotate_left 1
      · (intro w hSw; (try dsimp only at hSw); go_simp; try (with_reducible rfl))
      try simp only [Act.put, List.setIfInBounds_toArray, List.set_cons_zero, List.set_cons_succ]
      refine takeH (i := 6) (v := ?_) rfl (by kernel_rfl) (by kernel_rfl) (by kernel_rfl) (fun _ _ _ h => h) (Or.inl ⟨by rfl, ?_⟩) (by assumption) ?_
      rotate_left 1
      · (intro w hSw; (try dsimp only at hSw); go_simp; try (with_reducible rfl))
      try simp only [Act.put, List.setIfInBounds_toArray, List.set_cons_zero, List.set_cons_succ]
      refine takeH (i := 7) (v := ?_) rfl (by kernel_rfl) (by kernel_rfl) (by kernel_rfl) (fun _ _ _ h => h) (Or.inl ⟨by rfl, ?_⟩) (by assumption) ?_
      rotate_left 1
      · (intro w hSw; (try dsimp only at hSw); go_simp; try (with_reducible rfl))
      try simp only [Act.put, List.setIfInBounds_toArray, List.set_cons_zero, List.set_cons_succ]
      refine wpAnyH_ready (rs := [8, 9]) (by kernel_rfl) (by simp) ?_
      refine consH rfl (fun K hK => ?_) (consH rfl (fun K hK => ?_) AllReadyH.nil)
      · go_simp
        refine hK.out _ _ (cel.out _ (st.out.alloc _)) (fun hHeld2 => ?_)
        clear hK K hHeld
        have hHeld := hHeld2
        clear hHeld2
        try simp only [Act.put, List.setIfInBounds_toArray, List.set_cons_zero, List.set_cons_succ]
        refine wpAnyH_ready (rs := [9]) (by kernel_rfl) (by simp) ?_
        refine consH rfl (fun K hK => ?_) AllReadyH.nil
        go_simp
        refine hK.out _ _ (cel.out _ ((st.out.alloc _).alloc _)) (fun hHeld2 => ?_)
        clear hK K hHeld
        have hHeld := hHeld2
        clear hHeld2
        try simp only [Act.put, List.setIfInBounds_toArray, List.set_cons_zero, List.set_cons_succ]
        have h1 : (((Yb.alloc (.cells #[.int .i64 0, .int .i64 0, .int .i64 0, .int .i64 0, .int .i64 0] 36)).alloc (.cells #[.int .i64 0, .int .i64 0, .int .i64 0, .int .i64 0, .int .i64 0] 36)).drew).heap[Yb.heap.size]? = some (.cells #[.int .i64 0, .int .i64 0, .int .i64 0, .int .i64 0, .int .i64 0] 36 (0, 0)) := ((Only.refl [] (Yb.alloc (.cells #[.int .i64 0, .int .i64 0, .int .i64 0, .int .i64 0, .int .i64 0] 36))).alloc (.cells #[.int .i64 0, .int .i64 0, .int .i64 0, .int .i64 0, .int .i64 0] 36)).get (heap_alloc_new Yb (.cells #[.int .i64 0, .int .i64 0, .int .i64 0, .int .i64 0, .int .i64 0] 36)) (by simp)
        have h2 : (((Yb.alloc (.cells #[.int .i64 0, .int .i64 0, .int .i64 0, .int .i64 0, .int .i64 0] 36)).alloc (.cells #[.int .i64 0, .int .i64 0, .int .i64 0, .int .i64 0, .int .i64 0] 36)).drew).heap[Yb.heap.size + 1]? = some (.cells #[.int .i64 0, .int .i64 0, .int .i64 0, .int .i64 0, .int .i64 0] 36 (0, 0)) := by
          have h := heap_alloc_new (Yb.alloc (.cells #[.int .i64 0, .int .i64 0, .int .i64 0, .int .i64 0, .int .i64 0] 36)) (.cells #[.int .i64 0, .int .i64 0, .int .i64 0, .int .i64 0, .int .i64 0] 36)
          rw [World.size_alloc] at h
          exact h
        have st2 : Hid (Only [] Yb (((Yb.alloc (.cells #[.int .i64 0, .int .i64 0, .int .i64 0, .int .i64 0, .int .i64 0] 36)).alloc (.cells #[.int .i64 0, .int .i64 0, .int .i64 0, .int .i64 0, .int .i64 0] 36)).drew)) := (((Only.refl [] Yb).alloc _).alloc _).drew
        have OS : Hid (∀ (V : World) (q j : Nat) (x : Value), q = Yb.heap.size ∨ q = Yb.heap.size + 1 → Only [] Yb V → Only [] Yb (V.setCell ⟨q, j, none⟩ x)) := fun V q j x hq o => o.setCell (.inr (by show _ ≤ q; omega)) x
        have NE : Hid (Yb.heap.size ≠ Yb.heap.size + 1) := by show _ ≠ _; omega
        clear hHeld
        have hHeld := cel.out _ st2.out
        generalize ((Yb.alloc (.cells #[.int .i64 0, .int .i64 0, .int .i64 0, .int .i64 0, .int .i64 0] 36)).alloc (.cells #[.int .i64 0, .int .i64 0, .int .i64 0, .int .i64 0, .int .i64 0] 36)).drew = Y at *
        generalize Yb.heap.size + 1 = p2 at *
        generalize Yb.heap.size = p1 at *
        obtain ⟨⟨y0, y1, y2, y3, y4⟩, yf⟩ := cells5 h1
        have yf0 := yf 0
        have yf1 := yf 1
        have yf2 := yf 2
        have yf3 := yf 3
        have yf4 := yf 4
        have st3 : Hid (Only [] Yb (((((Y.setCell ⟨p1, 0, none⟩ (.int .i64 (u : Int))).setCell ⟨p1, 1, none⟩ (.int .i64 tl)).setCell ⟨p1, 2, none⟩ (.int .i64 f3)).setCell ⟨p1, 3, none⟩ (.int .i64 l3)).setCell ⟨p1, 4, none⟩ (.int .i64 m3))) := (OS.out _ p1 4 _ (.inl rfl) (OS.out _ p1 3 _ (.inl rfl) (OS.out _ p1 2 _ (.inl rfl) (OS.out _ p1 1 _ (.inl rfl) (OS.out _ p1 0 _ (.inl rfl) st2.out)))))
        obtain ⟨k1, k2⟩ := set5 Y p1 _ _ _ _ _ _ (.int .i64 (u : Int)) (.int .i64 tl) (.int .i64 f3) (.int .i64 l3) (.int .i64 m3) h1
        have k3 := k2.get h2 (by simp; exact NE.out.symm)
        refine wpAnyH_ready (rs := [10]) (by kernel_rfl) (by simp) ?_
        refine consH rfl (fun K hK => ?_) AllReadyH.nil
        go_simp
        refine hK.out _ _ (cel.out _ st3.out) (fun hHeld2 => ?_)
        clear hK K hHeld
        have hHeld := hHeld2
        clear hHeld2
        try simp only [Act.put, List.setIfInBounds_toArray, List.set_cons_zero, List.set_cons_succ]
        clear y0 y1 y2 y3 y4 yf yf0 yf1 yf2 yf3 yf4 k2 h1 h2
        generalize (((((Y.setCell ⟨p1, 0, none⟩ (.int .i64 (u : Int))).setCell ⟨p1, 1, none⟩ (.int .i64 tl)).setCell ⟨p1, 2, none⟩ (.int .i64 f3)).setCell ⟨p1, 3, none⟩ (.int .i64 l3)).setCell ⟨p1, 4, none⟩ (.int .i64 m3)) = Y1 at *
        obtain ⟨⟨y0, y1, y2, y3, y4⟩, yf⟩ := cells5 k3
        have yf0 := yf 0
        have yf1 := yf 1
        have yf2 := yf 2
        have yf3 := yf 3
        have yf4 := yf 4
        have st4 : Hid (Only [] Yb (((((Y1.setCell ⟨p2, 0, none⟩ (.int .i64 (v : Int))).setCell ⟨p2, 1, none⟩ (.int .i64 hr0)).setCell ⟨p2, 2, none⟩ (.int .i64 f3)).setCell ⟨p2, 3, none⟩ (.int .i64 l3)).setCell ⟨p2, 4, none⟩ (.int .i64 m3))) := (OS.out _ p2 4 _ (.inr rfl) (OS.out _ p2 3 _ (.inr rfl) (OS.out _ p2 2 _ (.inr rfl) (OS.out _ p2 1 _ (.inr rfl) (OS.out _ p2 0 _ (.inr rfl) st3.out)))))
        obtain ⟨k4, k5⟩ := set5 Y1 p2 _ _ _ _ _ _ (.int .i64 (v : Int)) (.int .i64 hr0) (.int .i64 f3) (.int .i64 l3) (.int .i64 m3) k3
        have k6 := k5.get k1 (by simp; exact NE.out)
        refine wpAnyH_ready (rs := [11]) (by kernel_rfl) (by simp) ?_
        refine consH rfl (fun K hK => ?_) AllReadyH.nil
        go_simp
        refine hK.out _ _ (cel.out _ st4.out) (fun hHeld2 => ?_)
        clear hK K hHeld
        have hHeld := hHeld2
        clear hHeld2
        try simp only [Act.put, List.setIfInBounds_toArray, List.set_cons_zero, List.set_cons_succ]
        clear y0 y1 y2 y3 y4 yf yf0 yf1 yf2 yf3 yf4 k5 hHeld
        generalize (((((Y1.setCell ⟨p2, 0, none⟩ (.int .i64 (v : Int))).setCell ⟨p2, 1, none⟩ (.int .i64 hr0)).setCell ⟨p2, 2, none⟩ (.int .i64 f3)).setCell ⟨p2, 3, none⟩ (.int .i64 l3)).setCell ⟨p2, 4, none⟩ (.int .i64 m3)) = Y2 at *
        refine wpAnyH_done (by kernel_rfl) ?_ _
        exact main2 p1 p2 Y2 ⟨st4.out, k6, k4⟩
      · go_simp
        refine hK.out _ _ (cel.out _ (st.out.alloc _)) (fun hHeld2 => ?_)
        clear hK K hHeld
        have hHeld := hHeld2
        clear hHeld2
        try simp only [Act.put, List.setIfInBounds_toArray, List.set_cons_zero, List.set_cons_succ]
        refine wpAnyH_ready (rs := [8]) (by kernel_rfl) (by simp) ?_
        refine consH rfl (fun K hK => ?_) AllReadyH.nil
        go_simp
        refine hK.out _ _ (cel.out _ ((st.out.alloc _).alloc _)) (fun hHeld2 => ?_)
        clear hK K hHeld
        have hHeld := hHeld2
        clear hHeld2
        try simp only [Act.put, List.setIfInBounds_toArray, List.set_cons_zero, List.set_cons_succ]
        have h1 : (((Yb.alloc (.cells #[.int .i64 0, .int .i64 0, .int .i64 0, .int .i64 0, .int .i64 0] 36)).alloc (.cells #[.int .i64 0, .int .i64 0, .int .i64 0, .int .i64 0, .int .i64 0] 36)).drew).heap[Yb.heap.size]? = some (.cells #[.int .i64 0, .int .i64 0, .int .i64 0, .int .i64 0, .int .i64 0] 36 (0, 0)) := ((Only.refl [] (Yb.alloc (.cells #[.int .i64 0, .int .i64 0, .int .i64 0, .int .i64 0, .int .i64 0] 36))).alloc (.cells #[.int .i64 0, .int .i64 0, .int .i64 0, .int .i64 0, .int .i64 0] 36)).get (heap_alloc_new Yb (.cells #[.int .i64 0, .int .i64 0, .int .i64 0, .int .i64 0, .int .i64 0] 36)) (by simp)
        have h2 : (((Yb.alloc (.cells #[.int .i64 0, .int .i64 0, .int .i64 0, .int .i64 0, .int .i64 0] 36)).alloc (.cells #[.int .i64 0, .int .i64 0, .int .i64 0, .int .i64 0, .int .i64 0] 36)).drew).heap[Yb.heap.size + 1]? = some (.cells #[.int .i64 0, .int .i64 0, .int .i64 0, .int .i64 0, .int .i64 0] 36 (0, 0)) := by
          have h := heap_alloc_new (Yb.alloc (.cells #[.int .i64 0, .int .i64 0, .int .i64 0, .int .i64 0, .int .i64 0] 36)) (.cells #[.int .i64 0, .int .i64 0, .int .i64 0, .int .i64 0, .int .i64 0] 36)
          rw [World.size_alloc] at h
          exact h
        have st2 : Hid (Only [] Yb (((Yb.alloc (.cells #[.int .i64 0, .int .i64 0, .int .i64 0, .int .i64 0, .int .i64 0] 36)).alloc (.cells #[.int .i64 0, .int .i64 0, .int .i64 0, .int .i64 0, .int .i64 0] 36)).drew)) := (((Only.refl [] Yb).alloc _).alloc _).drew
        have OS : Hid (∀ (V : World) (q j : Nat) (x : Value), q = Yb.heap.size ∨ q = Yb.heap.size + 1 → Only [] Yb V → Only [] Yb (V.setCell ⟨q, j, none⟩ x)) := fun V q j x hq o => o.setCell (.inr (by show _ ≤ q; omega)) x
        have NE : Hid (Yb.heap.size ≠ Yb.heap.size + 1) := by show _ ≠ _; omega
        clear hHeld
        have hHeld := cel.out _ st2.out
        generalize ((Yb.alloc (.cells #[.int .i64 0, .int .i64 0, .int .i64 0, .int .i64 0, .int .i64 0] 36)).alloc (.cells #[.int .i64 0, .int .i64 0, .int .i64 0, .int .i64 0, .int .i64 0] 36)).drew = Y at *
        generalize Yb.heap.size + 1 = p2 at *
        generalize Yb.heap.size = p1 at *
        obtain ⟨⟨y0, y1, y2, y3, y4⟩, yf⟩ := cells5 h2
        have yf0 := yf 0
        have yf1 := yf 1
        have yf2 := yf 2
        have yf3 := yf 3
        have yf4 := yf 4
        have st3 : Hid (Only [] Yb (((((Y.setCell ⟨p2, 0, none⟩ (.int .i64 (u : Int))).setCell ⟨p2, 1, none⟩ (.int .i64 tl)).setCell ⟨p2, 2, none⟩ (.int .i64 f3)).setCell ⟨p2, 3, none⟩ (.int .i64 l3)).setCell ⟨p2, 4, none⟩ (.int .i64 m3))) := (OS.out _ p2 4 _ (.inr rfl) (OS.out _ p2 3 _ (.inr rfl) (OS.out _ p2 2 _ (.inr rfl) (OS.out _ p2 1 _ (.inr rfl) (OS.out _ p2 0 _ (.inr rfl) st2.out)))))
        obtain ⟨k1, k2⟩ := set5 Y p2 _ _ _ _ _ _ (.int .i64 (u : Int)) (.int .i64 tl) (.int .i64 f3) (.int .i64 l3) (.int .i64 m3) h2
        have k3 := k2.get h1 (by simp; exact NE.out)
        refine wpAnyH_ready (rs := [10]) (by kernel_rfl) (by simp) ?_
        refine consH rfl (fun K hK => ?_) AllReadyH.nil
        go_simp
        refine hK.out _ _ (cel.out _ st3.out) (fun hHeld2 => ?_)
        clear hK K hHeld
        have hHeld := hHeld2
        clear hHeld2
        try simp only [Act.put, List.setIfInBounds_toArray, List.set_cons_zero, List.set_cons_succ]
        clear y0 y1 y2 y3 y4 yf yf0 yf1 yf2 yf3 yf4 k2 h1 h2
        generalize (((((Y.setCell ⟨p2, 0, none⟩ (.int .i64 (u : Int))).setCell ⟨p2, 1, none⟩ (.int .i64 tl)).setCell ⟨p2, 2, none⟩ (.int .i64 f3)).setCell ⟨p2, 3, none⟩ (.int .i64 l3)).setCell ⟨p2, 4, none⟩ (.int .i64 m3)) = Y1 at *
        obtain ⟨⟨y0, y1, y2, y3, y4⟩, yf⟩ := cells5 k3
        have yf0 := yf 0
        have yf1 := yf 1
        have yf2 := yf 2
        have yf3 := yf 3
        have yf4 := yf 4
        have st4 : Hid (Only [] Yb (((((Y1.setCell ⟨p1, 0, none⟩ (.int .i64 (v : Int))).setCell ⟨p1, 1, none⟩ (.int .i64 hr0)).setCell ⟨p1, 2, none⟩ (.int .i64 f3)).setCell ⟨p1, 3, none⟩ (.int .i64 l3)).setCell ⟨p1, 4, none⟩ (.int .i64 m3))) := (OS.out _ p1 4 _ (.inl rfl) (OS.out _ p1 3 _ (.inl rfl) (OS.out _ p1 2 _ (.inl rfl) (OS.out _ p1 1 _ (.inl rfl) (OS.out _ p1 0 _ (.inl rfl) st3.out)))))
        obtain ⟨k4, k5⟩ := set5 Y1 p1 _ _ _ _ _ _ (.int .i64 (v : Int)) (.int .i64 hr0) (.int .i64 f3) (.int .i64 l3) (.int .i64 m3) k3
        have k6 := k5.get k1 (by simp; exact NE.out.symm)
        refine wpAnyH_ready (rs := [11]) (by kernel_rfl) (by simp) ?_
        refine consH rfl (fun K hK => ?_) AllReadyH.nil
        go_simp
        refine hK.out _ _ (cel.out _ st4.out) (fun hHeld2 => ?_)
        clear hK K hHeld
        have hHeld := hHeld2
        clear hHeld2
        try simp only [Act.put, List.setIfInBounds_toArray, List.set_cons_zero, List.set_cons_succ]
        clear y0 y1 y2 y3 y4 yf yf0 yf1 yf2 yf3 yf4 k5 hHeld
        generalize (((((Y1.setCell ⟨p1, 0, none⟩ (.int .i64 (v : Int))).setCell ⟨p1, 1, none⟩ (.int .i64 hr0)).setCell ⟨p1, 2, none⟩ (.int .i64 f3)).setCell ⟨p1, 3, none⟩ (.int .i64 l3)).setCell ⟨p1, 4, none⟩ (.int .i64 m3)) = Y2 at *
        refine wpAnyH_done (by kernel_rfl) ?_ _
        exact main2 p2 p1 Y2 ⟨st4.out, k6, k4⟩
    case pf2 =>
      rintro pS pR Zb ⟨oZ, hS, hR⟩
      have hA := oZ.get HAB.out.1 (by simp)
      have hB := oZ.get HAB.out.2 (by simp)
      have OZ : Hid (Only [] W Zb) := OY.out.trans' oZ
      have CE : Hid (∀ V, Only [] Zb V → ((V.cell? ⟨pA, 0, none⟩ = some (.int .i64 (u : Int)) ∧ V.cell? ⟨pA, 1, none⟩ = some (.int .i64 6) ∧ V.cell? ⟨pA, 2, none⟩ = some (.int .i64 f2) ∧ V.cell? ⟨pA, 3, none⟩ = some (.int .i64 l2) ∧ V.cell? ⟨pA, 4, none⟩ = some (.int .i64 m2)) ∧
        (V.cell? ⟨pB, 0, none⟩ = some (.int .i64 (v : Int)) ∧ V.cell? ⟨pB, 1, none⟩ = some (.int .i64 kd) ∧ V.cell? ⟨pB, 2, none⟩ = some (.int .i64 f2) ∧ V.cell? ⟨pB, 3, none⟩ = some (.int .i64 l2) ∧ V.cell? ⟨pB, 4, none⟩ = some (.int .i64 m2))) ∧
        ((V.cell? ⟨pS, 0, none⟩ = some (.int .i64 (u : Int)) ∧ V.cell? ⟨pS, 1, none⟩ = some (.int .i64 tl) ∧ V.cell? ⟨pS, 2, none⟩ = some (.int .i64 f3) ∧ V.cell? ⟨pS, 3, none⟩ = some (.int .i64 l3) ∧ V.cell? ⟨pS, 4, none⟩ = some (.int .i64 m3)) ∧
        (V.cell? ⟨pR, 0, none⟩ = some (.int .i64 (v : Int)) ∧ V.cell? ⟨pR, 1, none⟩ = some (.int .i64 hr0) ∧ V.cell? ⟨pR, 2, none⟩ = some (.int .i64 f3) ∧ V.cell? ⟨pR, 3, none⟩ = some (.int .i64 l3) ∧ V.cell? ⟨pR, 4, none⟩ = some (.int .i64 m3)))) :=
        fun V o => ⟨⟨(cells5 (o.get hA (by simp))).1, (cells5 (o.get hB (by simp))).1⟩, ⟨(cells5 (o.get hS (by simp))).1, (cells5 (o.get hR (by simp))).1⟩⟩
      have n1 := hands1 HU64.out.1 HU64.out.2 HUV.out HXY.out HT.out HR.out HK.out
      have n2 := hands2 HU64.out.1 HU64.out.2 HUV.out HXY.out HT.out HR.out HK.out
      have n3 := hands3 HU64.out.1 HU64.out.2 HUV.out HXY.out HT.out HR.out HK.out
      have F1 := Lib.hid (fun (V : World) => cFirst (some ⟨V.heap.size, 0, none⟩) 4 4 [⟨u, 6, ⟨f2, l2, m2⟩⟩, ⟨u, tl, ⟨f3, l3, m3⟩⟩, ⟨v, hr0, ⟨f3, l3, m3⟩⟩, ⟨v, kd, ⟨f2, l2, m2⟩⟩] (V.alloc (.cells (eE.flat ([⟨u, 6, ⟨f2, l2, m2⟩⟩, ⟨u, tl, ⟨f3, l3, m3⟩⟩, ⟨v, hr0, ⟨f3, l3, m3⟩⟩, ⟨v, kd, ⟨f2, l2, m2⟩⟩] : List Ev)).toArray eE.T)) 0 0 false rfl (by decide) (Evs.lit V _ (by simp)) (fun i hi => by
        match i, hi with
        | 0, _ => exact XL.out
        | 1, _ => exact YL.out
        | 2, _ => exact YL.out
        | 3, _ => exact XL.out) n1.1)
      have F2 := Lib.hid (fun (V : World) => cFirst (some ⟨V.heap.size, 0, none⟩) 4 4 [⟨u, 6, ⟨f2, l2, m2⟩⟩, ⟨v, hr0, ⟨f3, l3, m3⟩⟩, ⟨u, tl, ⟨f3, l3, m3⟩⟩, ⟨v, kd, ⟨f2, l2, m2⟩⟩] (V.alloc (.cells (eE.flat ([⟨u, 6, ⟨f2, l2, m2⟩⟩, ⟨v, hr0, ⟨f3, l3, m3⟩⟩, ⟨u, tl, ⟨f3, l3, m3⟩⟩, ⟨v, kd, ⟨f2, l2, m2⟩⟩] : List Ev)).toArray eE.T)) 0 3 true rfl (by decide) (Evs.lit V _ (by simp)) (fun i hi => by
        match i, hi with
        | 0, _ => exact XL.out
        | 1, _ => exact YL.out
        | 2, _ => exact YL.out
        | 3, _ => exact XL.out) n2.1)
      have F3 := Lib.hid (fun (V : World) => cFirst (some ⟨V.heap.size, 0, none⟩) 4 4 [⟨u, tl, ⟨f3, l3, m3⟩⟩, ⟨v, hr0, ⟨f3, l3, m3⟩⟩, ⟨u, 6, ⟨f2, l2, m2⟩⟩, ⟨v, kd, ⟨f2, l2, m2⟩⟩] (V.alloc (.cells (eE.flat ([⟨u, tl, ⟨f3, l3, m3⟩⟩, ⟨v, hr0, ⟨f3, l3, m3⟩⟩, ⟨u, 6, ⟨f2, l2, m2⟩⟩, ⟨v, kd, ⟨f2, l2, m2⟩⟩] : List Ev)).toArray eE.T)) 2 3 true rfl (by decide) (Evs.lit V _ (by simp)) (fun i hi => by
        match i, hi with
        | 0, _ => exact YL.out
        | 1, _ => exact YL.out
        | 2, _ => exact XL.out
        | 3, _ => exact XL.out) n3)
      have B1 := Lib.hid (fun (V : World) => by
        have k := cBefore (some ⟨V.heap.size, 0, none⟩) 4 4 [⟨u, 6, ⟨f2, l2, m2⟩⟩, ⟨u, tl, ⟨f3, l3, m3⟩⟩, ⟨v, hr0, ⟨f3, l3, m3⟩⟩, ⟨v, kd, ⟨f2, l2, m2⟩⟩] 0 3 (V.alloc (.cells (eE.flat ([⟨u, 6, ⟨f2, l2, m2⟩⟩, ⟨u, tl, ⟨f3, l3, m3⟩⟩, ⟨v, hr0, ⟨f3, l3, m3⟩⟩, ⟨v, kd, ⟨f2, l2, m2⟩⟩] : List Ev)).toArray eE.T)) rfl (by decide) (Evs.lit V _ (by simp)) (fun i hi => by
          match i, hi with
          | 0, _ => exact XL.out
          | 1, _ => exact YL.out
          | 2, _ => exact YL.out
          | 3, _ => exact XL.out)
        rw [n1.2] at k
        exact k)
      have B2 := Lib.hid (fun (V : World) => by
        have k := cBefore (some ⟨V.heap.size, 0, none⟩) 4 4 [⟨u, 6, ⟨f2, l2, m2⟩⟩, ⟨v, hr0, ⟨f3, l3, m3⟩⟩, ⟨u, tl, ⟨f3, l3, m3⟩⟩, ⟨v, kd, ⟨f2, l2, m2⟩⟩] 0 3 (V.alloc (.cells (eE.flat ([⟨u, 6, ⟨f2, l2, m2⟩⟩, ⟨v, hr0, ⟨f3, l3, m3⟩⟩, ⟨u, tl, ⟨f3, l3, m3⟩⟩, ⟨v, kd, ⟨f2, l2, m2⟩⟩] : List Ev)).toArray eE.T)) rfl (by decide) (Evs.lit V _ (by simp)) (fun i hi => by
          match i, hi with
          | 0, _ => exact XL.out
          | 1, _ => exact YL.out
          | 2, _ => exact YL.out
          | 3, _ => exact XL.out)
        rw [n2.2] at k
        exact k)
      clear n1 n2 n3 oZ hA hB hS hR cel st
      have O : Hid (Only [] Zb Zb) := Only.refl [] Zb
      obtain ⟨⟨⟨a0', a1', a2', a3', a4'⟩, b0', b1', b2', b3', b4'⟩, ⟨c0', c1', c2', c3', c4'⟩, d0', d1', d2', d3', d4'⟩ := CE.out Zb O.out
      go_wp2_with fail
      refine (F1.out _).mono ?_
      rintro e V ⟨rfl, o⟩
      clear a0' a1' a2' a3' a4' b0' b1' b2' b3' b4' c0' c1' c2' c3' c4' d0' d1' d2' d3' d4'
      have O := Lib.hid ((O.out.alloc _).trans' o)
      clear o
      obtain ⟨⟨⟨a0', a1', a2', a3', a4'⟩, b0', b1', b2', b3', b4'⟩, ⟨c0', c1', c2', c3', c4'⟩, d0', d1', d2', d3', d4'⟩ := CE.out V O.out
      go_wp2_with fail
      refine (F2.out _).mono ?_
      rintro e V ⟨rfl, o⟩
      clear a0' a1' a2' a3' a4' b0' b1' b2' b3' b4' c0' c1' c2' c3' c4' d0' d1' d2' d3' d4'
      have O := Lib.hid ((O.out.alloc _).trans' o)
      clear o
      obtain ⟨⟨⟨a0', a1', a2', a3', a4'⟩, b0', b1', b2', b3', b4'⟩, ⟨c0', c1', c2', c3', c4'⟩, d0', d1', d2', d3', d4'⟩ := CE.out V O.out
      go_wp2_with fail
      refine (F3.out _).mono ?_
      rintro e V ⟨rfl, o⟩
      clear a0' a1' a2' a3' a4' b0' b1' b2' b3' b4' c0' c1' c2' c3' c4' d0' d1' d2' d3' d4'
      have O := Lib.hid ((O.out.alloc _).trans' o)
      clear o
      obtain ⟨⟨⟨a0', a1', a2', a3', a4'⟩, b0', b1', b2', b3', b4'⟩, ⟨c0', c1', c2', c3', c4'⟩, d0', d1', d2', d3', d4'⟩ := CE.out V O.out
      go_wp2_with fail
      refine (lAwake _).mono ?_
      rintro e V ⟨rfl, o⟩
      clear a0' a1' a2' a3' a4' b0' b1' b2' b3' b4' c0' c1' c2' c3' c4' d0' d1' d2' d3' d4'
      have O := Lib.hid (O.out.trans' o)
      clear o
      obtain ⟨⟨⟨a0', a1', a2', a3', a4'⟩, b0', b1', b2', b3', b4'⟩, ⟨c0', c1', c2', c3', c4'⟩, d0', d1', d2', d3', d4'⟩ := CE.out V O.out
      go_wp2_with fail
      refine (B1.out _).mono ?_
      rintro e V ⟨rfl, o⟩
      clear a0' a1' a2' a3' a4' b0' b1' b2' b3' b4' c0' c1' c2' c3' c4' d0' d1' d2' d3' d4'
      have O := Lib.hid ((O.out.alloc _).trans' o)
      clear o
      obtain ⟨⟨⟨a0', a1', a2', a3', a4'⟩, b0', b1', b2', b3', b4'⟩, ⟨c0', c1', c2', c3', c4'⟩, d0', d1', d2', d3', d4'⟩ := CE.out V O.out
      go_wp2_with fail
      refine (B2.out _).mono ?_
      rintro e V ⟨rfl, o⟩
      clear a0' a1' a2' a3' a4' b0' b1' b2' b3' b4' c0' c1' c2' c3' c4' d0' d1' d2' d3' d4'
      have O := Lib.hid ((O.out.alloc _).trans' o)
      clear o
      obtain ⟨⟨⟨a0', a1', a2', a3', a4'⟩, b0', b1', b2', b3', b4'⟩, ⟨c0', c1', c2', c3', c4'⟩, d0', d1', d2', d3', d4'⟩ := CE.out V O.out
      go_wp2_with fail
      go_ret
      exact ⟨by simp, ((OB.out.trans' OZ.out).trans' O.out).below (Nat.le_refl _) (by simp)⟩

/-! ### The step from the walk to the statement -/
set_option maxRecDepth 100000 in
theorem lifted (os : Os) (started : os.Started) (H : Type) (enc : TypeId × Value → H) :
    ReturnsInHanded {} Try.checked os 8 .any (Rows.raceHandsSpec.pre6 enc Try.prog Try.f8 Rows.raceHandsRow.domain false) (Rows.raceHandsSpec.post enc Try.prog Try.f8 false true false false) := by
  refine returnsInHanded_of_change (C := Try.checked) own started (by kernel_rfl) Try.func8
    (ChangeSpec.witness6 (enc := enc) (C := Try.checked) false ⟨#[], #[.int .i64 0, .int .i64 0, .agg #[.int .i64 0, .int .i64 0, .int .i64 0], .agg #[.int .i64 0, .int .i64 0, .int .i64 0], .int .i64 0, .int .i64 0, .int .i64 0], []⟩ 8 (by kernel_rfl) (by kernel_rfl) (by kernel_rfl) (by kernel_rfl)) ?_
  intro W base args ds gs before hval0 hW hcnd _
  have hval : ∀ (j : Nat) t v, Try.f8.params[j]? = some t → args[j]? = some v → Value.okWide Try.prog W .any base t v := hval0
  have hW' := hW
  obtain ⟨p, q, hA0, hV, rfl, hfz, hnd⟩ := hW
  have hA : DataW.TrodAll enc Try.prog W 0 (fun _ => true) true Try.f8.params.toList args.toList ds p := hA0
  rw [Try.params8] at hA hval
  obtain ⟨v0, vs0, d0, ds0, p0, q0, hargs, rfl, rfl, h0, r0⟩ := trodAll_cons hA
  obtain ⟨v1, vs1, d1, ds1, p1, q1, rfl, rfl, rfl, h1, r1⟩ := trodAll_cons r0
  obtain ⟨v2, vs2, d2, ds2, p2, q2, rfl, rfl, rfl, h2, r2⟩ := trodAll_cons r1
  obtain ⟨v3, vs3, d3, ds3, p3, q3, rfl, rfl, rfl, h3, r3⟩ := trodAll_cons r2
  obtain ⟨v4, vs4, d4, ds4, p4, q4, rfl, rfl, rfl, h4, r4⟩ := trodAll_cons r3
  obtain ⟨v5, vs5, d5, ds5, p5, q5, rfl, rfl, rfl, h5, r5⟩ := trodAll_cons r4
  obtain ⟨v6, vs6, d6, ds6, p6, q6, rfl, rfl, rfl, h6, r6⟩ := trodAll_cons r5
  obtain ⟨rfl, rfl, rfl⟩ := trodAll_nil r6
  obtain rfl : args = #[v0, v1, v2, v3, v4, v5, v6] := by cases args; simp_all
  obtain ⟨rfl, rfl⟩ := trodVars_none hV
  obtain ⟨a0, rfl, rfl, rfl, w0⟩ := open_int Try.underlying3 (hval 0 3 v0 rfl rfl) h0
  obtain ⟨a1, rfl, rfl, rfl, w1⟩ := open_int Try.underlying3 (hval 1 3 v1 rfl rfl) h1
  obtain ⟨c0, c1, c2, y0, y1, y2, m, rfl, rfl, rfl, hy0, hy1, hy2⟩ := Joins.open_agg3 Try.underlying34 (by kernel_rfl) cellsLc (hval 2 34 v2 rfl rfl) h2
  obtain ⟨f2, e0, rfl, wf2⟩ := DataW.trod_int Try.underlying3 hy0
  obtain ⟨l2, e1, rfl, wl2⟩ := DataW.trod_int Try.underlying3 hy1
  obtain ⟨m2, e2, rfl, wm2⟩ := DataW.trod_int Try.underlying3 hy2
  simp at e0 e1 e2
  subst e0 e1 e2
  obtain ⟨c0, c1, c2, y0, y1, y2, m, rfl, rfl, rfl, hy0, hy1, hy2⟩ := Joins.open_agg3 Try.underlying34 (by kernel_rfl) cellsLc (hval 3 34 v3 rfl rfl) h3
  obtain ⟨f3, e0, rfl, wf3⟩ := DataW.trod_int Try.underlying3 hy0
  obtain ⟨l3, e1, rfl, wl3⟩ := DataW.trod_int Try.underlying3 hy1
  obtain ⟨m3, e2, rfl, wm3⟩ := DataW.trod_int Try.underlying3 hy2
  simp at e0 e1 e2
  subst e0 e1 e2
  obtain ⟨a4, rfl, rfl, rfl, w4⟩ := open_int Try.underlying3 (hval 4 3 v4 rfl rfl) h4
  obtain ⟨a5, rfl, rfl, rfl, w5⟩ := open_int Try.underlying3 (hval 5 3 v5 rfl rfl) h5
  obtain ⟨a6, rfl, rfl, rfl, w6⟩ := open_int Try.underlying3 (hval 6 3 v6 rfl rfl) h6
  clear hA0 hval0
  refine (walk a0 a1 f2 l2 m2 f3 l3 m3 a4 a5 a6 W w0 w1 wf2 wl2 wm2 wf3 wl3 wm3 w4 w5 w6).mono fun e W' ⟨he, bel⟩ => ?_
  subst he
  exact ⟨_, rfl, _, _, _, [], _, [], hW', trodAll_mk1 (shut_bool Try.underlying4 _), (trodAll_cons_mk (shut_int Try.underlying3 w0) (trodAll_cons_mk (shut_int Try.underlying3 w1) (trodAll_cons_mk (reads_lc wf2 wl2 wm2 _ _ _) (trodAll_cons_mk (reads_lc wf3 wl3 wm3 _ _ _) (trodAll_cons_mk (shut_int Try.underlying3 w4) (trodAll_cons_mk (shut_int Try.underlying3 w5) (trodAll_cons_mk (shut_int Try.underlying3 w6) trodAll_mk0))))))), rfl, bel.frame _, fun h => by cases h⟩

theorem over : Rows.raceHandsRow.holds Try.pinned (OpenSpec.ofChange Rows.raceHandsSpec) :=
  OpenClaim.holds_of_wide 8 Try.f8 rfl rfl rfl rfl rfl rfl rfl ⟨rfl, rfl, rfl, rfl, rfl⟩ rfl rfl rfl rfl rfl (by kernel_rfl) Try.func8 (by kernel_rfl)
    (of_decide_eq_true (by kernel_rfl)) (by unfold Func.isWrapper; first | (rw [if_pos (by decide +kernel)]; kernel_rfl) | (rw [if_neg (by decide +kernel)]; exact ⟨rfl, rfl⟩))
    (fun os started H enc _ => lifted os started H enc)

/-- The statement. -/
theorem proved : Rows.RaceHandsSaid := over
#print axioms proved
end Go.Proofs.Ytmgmfihjojhilaa.raceHands
