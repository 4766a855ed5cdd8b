/-
  race.First of events that may be.
-/
import Derived.Test.YtmgmfihjojhilaaRcJ
namespace Go.Proofs.Ytmgmfihjojhilaa
set_option maxRecDepth 100000
open Go.RowKit
set_option linter.unusedVariables false
set_option linter.unusedSimpArgs false
set_option maxRecDepth 100000

section
variable {wr : World} {ops : Array Oper} {o : Oper} {a : Act} {K : Act → World → Prop} {Q : Exit → Act → World → Prop}
/-- One number more, behind a row of numbers. -/
theorem step_appN {Z : Prop} (hgd : o.guard = none) (s x : Operand) (ho : o.op = .call { callee := .builtin .append, args := #[s, x], argTypes := #[23, 23] })
    (A : Option Addr) (p cap : Nat) (L : List Nat) (v : Nat) (hs : a.eval s = .slice A p cap) (hx : a.eval x = .slice (some ⟨wr.heap.size, 0, none⟩) 1 1) (h : iE.Row wr (.slice A p cap) (natI L)) (hl : L.length = p) (hb : p ≤ 1000000)
    (hK : ∀ A2 cap2 w2, iE.Row w2 (.slice A2 (p + 1) cap2) (natI (L ++ [v])) → Only ((Value.slice A p cap).ownBlock.toList) wr w2 → ((Value.slice A2 (p + 1) cap2).ownBlock = (Value.slice A p cap).ownBlock ∨ ∃ g, (Value.slice A2 (p + 1) cap2).ownBlock = some g ∧ wr.heap.size ≤ g) → K (a.put o.dst (.slice A2 (p + 1) cap2)) w2) :
    if Region.wanted o (yielded ops a.tmps) = true then Oper.wp Try.prog o a (wr.alloc (.cells #[.int .i64 (v : Int)] 3)) K Q else Z := by
  have oB : Only [] wr (wr.alloc (.cells #[.int .i64 (v : Int)] 3)) := (Only.refl [] wr).alloc _
  refine El.step_append (E := iE) Try.underlying23 hgd s x ho (.slice A p cap) (natI L) hs (h.only0 oB) _ 1 1 [(v : Int)] hx rfl (El.Src.box (E := iE) (x := (v : Int)) (heap_alloc_new wr _)) (p + 1) (by rw [natI_len, hl]) (by omega) ?_
  intro A2 cap2 w2 r2 g2 l2
  refine hK A2 cap2 w2 (by rw [show natI (L ++ [v]) = natI L ++ [(v : Int)] by simp [natI]]; exact r2) (((Only.refl _ wr).alloc _).grown g2 (fun k hk => .inl (by rw [hk]; simp))) ?_
  rcases l2 with l2 | l2
  · exact .inl l2
  · exact .inr ⟨_, l2, by simp⟩
end
set_option maxHeartbeats 8000000 in
theorem cFirstOk (A : Option Addr) (m c : Nat) (xs : List Ev) (w : World) (ra rb : Int) (rk : Bool) (hm : xs.length = m) (hb : m ≤ 100) (h : Evs w A xs) (hok : okL xs = true) (hlc : ∀ i, i < m → (evs xs i).lc.ok) (hF : FirstIs (evs xs) m ra rb rk) :
    Calls Try.prog 12 #[.slice A m c] w fun e w' => e = .returned (.tuple #[.int .i64 ra, .int .i64 rb, .bool rk]) ∧ Only [] w w' := by
  have hO : ∀ i, i < m → okE (evs xs i) = true := fun i hi => okL_iff.1 hok i (by omega)
  have k := Lib.hid (fun (W : World) (o : Only [] w W) => cClocks A m c xs W hm hb (h.only0 o) hok hlc)
  have H64 : Hid (∀ k, k < m → (clk (evs xs) k).length ≤ 64) := fun k hk => (clk_fits hO (by omega) hk).1
  have HO := Lib.hid hO
  have HL := Lib.hid hlc
  have HE := Lib.hid h
  have HM := Lib.hid hm
  have HF := Lib.hid hF
  have hmm := run_mkmap
  have OB : Hid (Only [] w (w.alloc (.cells #[.slice A m c] 22))) := (Only.refl [] w).alloc _
  have CB : Hid (Cell1 (w.alloc (.cells #[.slice A m c] 22)) w.heap.size 22 (.slice A m c)) := heap_alloc_new w _
  clear hok h hm hlc hF hO
  go_enter Try.func12, Try.ntmps12
  go_upto_region 1 with fail
  generalize w.alloc (.cells #[.slice A m c] 22) = Wb at *
  generalize w.heap.size = bl at *
  obtain ⟨x0, _⟩ := CB.out.c
  go_wp2_with fail
  refine (k.out _ OB.out).mono ?_
  rintro e w1 ⟨A2, c2, rfl, hs, F1⟩
  have O1 : Hid (Only [] Wb w1) := F1.only
  have CR := Lib.hid F1
  have CC : Hid (Cell1 (w1.alloc (.cells #[.slice A2 m c2] 30)) w1.heap.size 30 (.slice A2 m c2)) := heap_alloc_new w1 _
  have OC : Hid (Only [] w1 (w1.alloc (.cells #[.slice A2 m c2] 30))) := (Only.refl [] w1).alloc _
  have HBM : Hid ((w1.alloc (.cells #[.slice A2 m c2] 30)).heap.size = w1.heap.size + 1) := by show _ = _; simp
  clear k F1 x0
  go_upto_region 2 with fail
  generalize w1.alloc (.cells #[.slice A2 m c2] 30) = W1 at *
  generalize w1.heap.size = bc at *
  have FLs := Lib.hid (FL.start W1 (evs xs))
  have hbm : Hid (∀ W, Only [] W1 W → Cell1 W bc 30 (.slice A2 m c2) ∧ Cell1 W bl 22 (.slice A m c) ∧ Evs W A xs ∧ CFr Wb W A2 m c2 hs (clk (evs xs))) := fun W o =>
    ⟨CC.out.only0 o, ((CB.out.only0 O1.out).only0 OC.out).only0 o, HE.out.only0 (((OB.out.trans' O1.out).trans' OC.out).trans' o), (CR.out.only0 OC.out).only0 o⟩
  have y0 := ((hbm.out _ ((Only.refl [] W1).alloc (.map #[] 0))).1).c.1
  clear CC CB CR
  go_upto_region 3 with fail
  generalize W1.alloc (.map #[] 0) = W0 at *
  go_wp2_with fail
  go_loopg [15] (m + 1) (fun gk si wr => ∃ (j : Nat) (f : Lc → Option Sl), si = .int .i64 (j : Int) ∧ j ≤ m ∧ m + 1 ≤ gk + j ∧ Hid (∀ j', j' < j → ∀ i', i' < j' → raceB (evs xs) i' j' = false) ∧ Hid (FL W1 wr (evs xs) f j))
  case atStart => exact ⟨0, _, rfl, by omega, by omega, fun j hj => absurd hj (by omega), FLs.out⟩
  case round =>
    obtain ⟨j, f, rfl, hj, hg, hn, R⟩ := hrel
    by_cases hjm : j < m
    · have h1 : (j : Int) < (m : Int) := by omega
      have OJ : Hid (Only [] wr (wr.alloc (.cells #[.int .i64 (j : Int)] 3))) := (Only.refl [] wr).alloc _
      have CJ : Hid (Cell1 (wr.alloc (.cells #[.int .i64 (j : Int)] 3)) wr.heap.size 3 (.int .i64 (j : Int))) := heap_alloc_new wr _
      go_upto_region 6 with fail
      generalize wr.alloc (.cells #[.int .i64 (j : Int)] 3) = W2 at *
      have HJS : Hid (W1.heap.size < wr.heap.size) := R.out.map.lt
      obtain ⟨bj, hbj⟩ : ∃ bj, wr.heap.size = bj := ⟨_, rfl⟩
      have HBJ := Lib.hid hbj
      rw [hbj] at CJ HJS
      rw [hbj]
      clear hbj
      have R2 := Lib.hid (R.out.only0 OJ.out)
      have FWa : Hid (∀ W, Only [] W2 W → FW Wb W A m c xs bl bc bj A2 c2 hs j) := fun W o => by
        obtain ⟨a1, a2, a3, a4⟩ := hbm.out W (R2.out.only.trans' o)
        exact ⟨a2, a1, CJ.out.only0 o, a3, a4⟩
      have rcs := Lib.hid (fun (W : World) (o : Only [] W2 W) (i : Nat) (hi : i < m) => cRaces Wb W A m c xs bl bc bj A2 c2 hs i j (FWa.out W o) HM.out hi hjm hb H64.out)
      have sm := Lib.hid (fun (W : World) (hl : Cell1 W bl 22 (.slice A m c)) (hc : Cell1 W bj 3 (.int .i64 (j : Int))) (he : Evs W A xs) (i : Nat) (hi : i < m) => cSame W A m c xs bl bj i j hl hc he HM.out hi hjm (by omega))
      have GL0 := Lib.hid (fun (g : Nat) (hg : (Value.slice ((f (evs xs j).lc).getD Sl.nil).A ((f (evs xs j).lc).getD Sl.nil).n ((f (evs xs j).lc).getD Sl.nil).c).ownBlock = some g) => (R.out.rows (evs xs j).lc).lt hg)
      rw [HBJ.out] at GL0
      clear R OJ
      obtain ⟨gv, rfl, _, _, v2, v3, v4⟩ := ((FWa.out W2 (Only.refl _ _)).ev).at_ (k := j) (by have := HM.out; omega)
      have l0 := (FWa.out W2 (Only.refl _ _)).l.c.1
      have j0 := (FWa.out W2 (Only.refl _ _)).j.c.1
      have hlk := R2.out.map.look (HL.out j hjm) 53 Try.underlying53
      have NA := Lib.hid (near_any HO.out (by omega) hjm)
      have NM : Hid (∀ i, i ∈ nearI (evs xs) (evs xs j).lc j → i < m) := fun i hi => by have := (nearI_mem hi).1; omega
      have NL : Hid ((nearI (evs xs) (evs xs j).lc j).length ≤ j) := nearI_len j
      have row := R2.out.rows (evs xs j).lc
      have neu := Lib.hid (R2.out.new (evs xs j).lc)
      have nxt := Lib.hid (fun (u v : World) (s : Sl) => R2.out.next (s := s) (u := u) (v := v))
      have mpt := Lib.hid (fun (u : World) (s : Sl) (hm : MapL u W1.heap.size f) => hm.put (HL.out j hjm) s 53 Try.underlying53)
      obtain ⟨⟨sA, sn, sc⟩, hs2⟩ : ∃ s, (f (evs xs j).lc).getD Sl.nil = s := ⟨_, rfl⟩
      rw [hs2] at hlk row neu nxt GL0
      have GL : Hid (∀ g, (Value.slice sA sn sc).ownBlock = some g → g < bj) := GL0.out
      have LT1 : Hid (bl < W1.heap.size ∧ gv < W1.heap.size) := by
        obtain ⟨_, a2, a3, _⟩ := hbm.out W1 (Only.refl [] _)
        obtain ⟨gv', eg, av⟩ := a3.at_ (k := j) (by have := HM.out; omega)
        injection eg with eg
        injection eg with eg
        subst eg
        exact ⟨(Array.getElem?_eq_some_iff.1 (show W1.heap[bl]? = _ from a2)).1, av.lt⟩
      clear GL0
      dsimp only at row neu nxt
      simp only [Lc.val, Sl.val] at hlk mpt
      have hsl : (nearI (evs xs) (evs xs j).lc j).length = sn := by rw [← natI_len]; exact iRow_lenOf row
      have hsn : sn ≤ 100 := by have := NL.out; omega
      have ROW := Lib.hid row
      have HSL := Lib.hid hsl
      have ct := Lib.hid (cContains W2 sA sn sc (nearI (evs xs) (evs xs j).lc j) bl bj bc (fun i => raceB (evs xs) i j) hsl (by omega) (Nums.of_row (B := 0) row (fun _ _ => Nat.zero_le _)) (fun W o i hi => rcs.out W o i (NM.out i hi)))
      clear hs2 row hsl
      rcases hany : (nearI (evs xs) (evs xs j).lc j).any (fun i => raceB (evs xs) i j)
      · rw [hany] at ct
        have NO : Hid (∀ i, i < j → raceB (evs xs) i j = false) := fun i hi => by
          rcases hr : raceB (evs xs) i j
          · rfl
          · have := NA.out.2 ⟨i, hi, hr⟩
            rw [hany] at this; cases this
        clear hany
        go_wp2_with fail
        refine ct.out.mono ?_
        rintro e W3 ⟨rfl, o3⟩
        have O3 := Lib.hid o3
        clear ct hlk o3
        have OW : Hid (∀ g, (Value.slice sA sn sc).ownBlock = some g → g ≠ bl ∧ g ≠ bj ∧ g ≠ gv ∧ g ≠ W1.heap.size) := fun g hg => by
          have h8 := neu.out g hg
          have h9 := GL.out g hg
          have h7 := HBM.out
          have h6 := LT1.out
          exact ⟨by omega, by omega, by omega, by omega⟩
        have CLs : Hid (∀ u' : World, Only (Value.slice sA sn sc).ownBlock.toList W2 u' → Cell1 u' bl 22 (.slice (some ⟨gv, 0, none⟩) m c) ∧ Cell1 u' bj 3 (.int .i64 (j : Int)) ∧ Evs u' (some ⟨gv, 0, none⟩) xs) := fun u' o => by
          have h8 := FWa.out W2 (Only.refl _ _)
          refine ⟨o.get h8.l (fun hk => (OW.out _ (by simpa using hk)).1 rfl), o.get h8.j (fun hk => (OW.out _ (by simpa using hk)).2.1 rfl), h8.ev.only o (fun g eg hk => ?_)⟩
          injection eg with eg
          injection eg with eg
          exact (OW.out _ (by simpa using hk)).2.2.1 eg.symm
        have cel : Hid (∀ u' : World, Only (Value.slice sA sn sc).ownBlock.toList W2 u' → u'.cell? ⟨bl, 0, none⟩ = some (.slice (some ⟨gv, 0, none⟩) m c) ∧ u'.cell? ⟨bj, 0, none⟩ = some (.int .i64 (j : Int)) ∧ u'.cell? ⟨gv, j * 5 + 2, none⟩ = some (.int .i64 (evs xs j).lc.k) ∧ u'.cell? ⟨gv, j * 5 + 3, none⟩ = some (.int .i64 (evs xs j).lc.a) ∧ u'.cell? ⟨gv, j * 5 + 4, none⟩ = some (.int .i64 (evs xs j).lc.b)) := fun u' o => by
          obtain ⟨a1, a2, a3⟩ := CLs.out u' o
          obtain ⟨gv', eg, _, _, z2, z3, z4⟩ := a3.at_ (k := j) (by have := HM.out; omega)
          injection eg with eg
          injection eg with eg
          subst eg
          exact ⟨a1.c.1, a2.c.1, z2, z3, z4⟩
        have O3' : Hid (Only (Value.slice sA sn sc).ownBlock.toList W2 W3) := O3.out.mono (by simp)
        have dl := Lib.hid (cDelete W3 sA sn sc (nearI (evs xs) (evs xs j).lc j) bl bj (fun i => decide (evs xs i = evs xs j)) (by omega) (ROW.out.only0 O3.out) (fun u' o i hi => by
          obtain ⟨a1, a2, a3⟩ := CLs.out u' (O3'.out.trans' o)
          exact sm.out u' a1 a2 a3 i (NM.out i hi)))
        clear l0 j0 v2 v3 v4
        go_wp2_with fail
        refine dl.out.mono ?_
        rintro e W4 ⟨n4, rfl, r4, o4⟩
        have OWN : Hid ((Value.slice sA n4 sc).ownBlock = (Value.slice sA sn sc).ownBlock) := by show _ = _; cases sA <;> rfl
        have st : Hid (Only (Value.slice sA sn sc).ownBlock.toList W2 W4.drew) := (O3'.out.trans' o4).drew
        have R4 : Hid (iE.Row W4.drew (.slice sA n4 sc) (natI ((nearI (evs xs) (evs xs j).lc j).filter fun i => !decide (evs xs i = evs xs j)))) := r4.only0 (Only.refl [] W4).drew
        have L4 : Hid (((nearI (evs xs) (evs xs j).lc j).filter fun i => !decide (evs xs i = evs xs j)).length = n4) := by show _ = _; rw [← natI_len]; exact iRow_lenOf R4.out
        have L4b : n4 ≤ 100 := by
          have h8 := L4.out
          have h9 := List.length_filter_le (fun i => !decide (evs xs i = evs xs j)) (nearI (evs xs) (evs xs j).lc j)
          have h7 := HSL.out
          omega
        clear dl r4 o4
        go_wp2_with fail
        refine wp_region_held_drew (S := (fun u' => u'.cell? ⟨bl, 0, none⟩ = some (.slice (some ⟨gv, 0, none⟩) m c) ∧ u'.cell? ⟨bj, 0, none⟩ = some (.int .i64 (j : Int)) ∧ u'.cell? ⟨gv, j * 5 + 2, none⟩ = some (.int .i64 (evs xs j).lc.k) ∧ u'.cell? ⟨gv, j * 5 + 3, none⟩ = some (.int .i64 (evs xs j).lc.a) ∧ u'.cell? ⟨gv, j * 5 + 4, none⟩ = some (.int .i64 (evs xs j).lc.b))) (by kernel_rfl) (cel.out _ st.out) (fun hHeld => ?_)
        refine takeH (i := 0) (v := ?_) rfl (by kernel_rfl) (by kernel_rfl) (by kernel_rfl) (fun _ _ _ h => h) (Or.inl ⟨by rfl, ?_⟩) (by assumption) ?_
        rotate_left 1
        · (intro w hSw; (try dsimp only at hSw); go_simp; try (with_reducible rfl))
        try simp only [Act.put, List.setIfInBounds_toArray, List.set_cons_zero, List.set_cons_succ]
        refine takeH (i := 1) (v := ?_) rfl (by kernel_rfl) (by kernel_rfl) (by kernel_rfl) (fun _ _ _ h => h) (Or.inl ⟨by rfl, ?_⟩) (by assumption) ?_
        rotate_left 1
        · (intro w hSw; (try dsimp only at hSw); go_simp; try (with_reducible rfl))
        try simp only [Act.put, List.setIfInBounds_toArray, List.set_cons_zero, List.set_cons_succ]
        refine takeH (i := 2) (v := ?_) rfl (by kernel_rfl) (by kernel_rfl) (by kernel_rfl) (fun _ _ _ h => h) (Or.inl ⟨by rfl, ?_⟩) (by assumption) ?_
        rotate_left 1
        · (intro w hSw; (try dsimp only at hSw); go_simp; try (with_reducible rfl))
        try simp only [Act.put, List.setIfInBounds_toArray, List.set_cons_zero, List.set_cons_succ]
        refine takeH (i := 3) (v := ?_) rfl (by kernel_rfl) (by kernel_rfl) (by kernel_rfl) (fun _ _ _ h => h) (Or.inl ⟨by rfl, ?_⟩) (by assumption) ?_
        rotate_left 1
        · (intro w hSw; (try dsimp only at hSw); go_simp; try (with_reducible rfl))
        try simp only [Act.put, List.setIfInBounds_toArray, List.set_cons_zero, List.set_cons_succ]
        refine takeH (i := 4) (v := ?_) rfl (by kernel_rfl) (by kernel_rfl) (by kernel_rfl) (fun _ _ _ h => h) (Or.inl ⟨by rfl, ?_⟩) (by assumption) ?_
        rotate_left 1
        · (intro w hSw; (try dsimp only at hSw); go_simp; try (with_reducible rfl))
        try simp only [Act.put, List.setIfInBounds_toArray, List.set_cons_zero, List.set_cons_succ]
        refine takeH (i := 5) (v := ?_) rfl (by kernel_rfl) (by kernel_rfl) (by kernel_rfl) (fun _ _ _ h => h) (Or.inl ⟨by rfl, ?_⟩) (by assumption) ?_
        rotate_left 1
        · (intro w hSw; (try dsimp only at hSw); go_simp; try (with_reducible rfl))
        try simp only [Act.put, List.setIfInBounds_toArray, List.set_cons_zero, List.set_cons_succ]
        refine takeH (i := 6) (v := ?_) rfl (by kernel_rfl) (by kernel_rfl) (by kernel_rfl) (fun _ _ _ h => h) (Or.inl ⟨by rfl, ?_⟩) (by assumption) ?_
        rotate_left 1
        · (intro w hSw; (try dsimp only at hSw); go_simp; try (with_reducible rfl))
        try simp only [Act.put, List.setIfInBounds_toArray, List.set_cons_zero, List.set_cons_succ]
        refine takeH (i := 7) (v := ?_) rfl (by kernel_rfl) (by kernel_rfl) (by kernel_rfl) (fun _ _ _ h => h) (Or.inl ⟨by rfl, ?_⟩) (by assumption) ?_
        rotate_left 1
        · (intro w hSw; (try dsimp only at hSw); go_simp; try (with_reducible rfl))
        try simp only [Act.put, List.setIfInBounds_toArray, List.set_cons_zero, List.set_cons_succ]
        refine wpAnyH_ready (rs := [8]) (by kernel_rfl) (by simp) ?_
        refine consH rfl (fun K hK => ?_) AllReadyH.nil
        go_simp
        have st8 : Hid (Only (Value.slice sA sn sc).ownBlock.toList W2 (W4.drew.alloc (.cells #[.int .i64 (j : Int)] 3))) := st.out.alloc _
        refine hK.out _ _ (cel.out _ st8.out) (fun hHeld2 => ?_)
        clear hK K hHeld
        have hHeld := hHeld2
        clear hHeld2
        try simp only [Act.put, List.setIfInBounds_toArray, List.set_cons_zero, List.set_cons_succ]
        refine wpAnyH_ready (rs := [9]) (by kernel_rfl) (by simp) ?_
        refine consH rfl (fun K hK => ?_) AllReadyH.nil
        refine step_appN rfl (.tmp 41) (.tmp 43) rfl sA n4 sc _ j rfl rfl R4.out L4.out (by omega) ?_
        intro A5 c5 W5 r5 o5 l5
        have st5 : Hid (Only (Value.slice sA sn sc).ownBlock.toList W2 W5) := st.out.trans' (by rw [← OWN.out]; exact o5)
        have R5 := Lib.hid r5
        have l6 : Hid ((Value.slice A5 (n4 + 1) c5).ownBlock = (Value.slice sA sn sc).ownBlock ∨ ∃ g, (Value.slice A5 (n4 + 1) c5).ownBlock = some g ∧ W2.heap.size ≤ g) := by
          rcases l5 with l5 | ⟨g, l5, hg⟩
          · exact .inl (l5.trans OWN.out)
          · exact .inr ⟨g, l5, Nat.le_trans st.out.size hg⟩
        clear r5 o5 l5
        refine hK.out _ _ (cel.out _ st5.out) (fun hHeld2 => ?_)
        clear hK K hHeld
        have hHeld := hHeld2
        clear hHeld2
        try simp only [Act.put, List.setIfInBounds_toArray, List.set_cons_zero, List.set_cons_succ]
        obtain ⟨W6, hput, m6, o6⟩ := mpt.out W5 ⟨A5, n4 + 1, c5⟩ (R2.out.map.only st5.out (fun hk => (OW.out _ (by simpa using hk)).2.2.2 rfl))
        simp only [Lc.val, Sl.val] at hput
        have st6 : Hid (Only ((Value.slice sA sn sc).ownBlock.toList ++ [W1.heap.size]) W2 W6) := (st5.out.mono (T := (Value.slice sA sn sc).ownBlock.toList ++ [W1.heap.size]) (fun k hk => .inl (by simp at hk ⊢; exact .inl hk))).trans o6 (fun k hk => .inl (by simp at hk ⊢; exact .inr hk))
        have NX : Hid (FL W1 W6 (evs xs) (updL f (evs xs j).lc ⟨A5, n4 + 1, c5⟩) (j + 1)) := nxt.out W5 W6 ⟨A5, n4 + 1, c5⟩ st5.out R5.out l6.out m6 o6
        have cel6 : Hid (W6.cell? ⟨bl, 0, none⟩ = some (.slice (some ⟨gv, 0, none⟩) m c) ∧ W6.cell? ⟨bj, 0, none⟩ = some (.int .i64 (j : Int)) ∧ W6.cell? ⟨gv, j * 5 + 2, none⟩ = some (.int .i64 (evs xs j).lc.k) ∧ W6.cell? ⟨gv, j * 5 + 3, none⟩ = some (.int .i64 (evs xs j).lc.a) ∧ W6.cell? ⟨gv, j * 5 + 4, none⟩ = some (.int .i64 (evs xs j).lc.b)) := by
          have h8 := cel.out W5 st5.out
          have g1 : bl ≠ W1.heap.size := by have := LT1.out; omega
          have g2 : bj ≠ W1.heap.size := by have := HJS.out; omega
          have g3 : gv ≠ W1.heap.size := by have := LT1.out; omega
          refine ⟨(o6.cell (World.block_lt_of_cell? _ _ h8.1) (by simpa using g1)).trans h8.1, (o6.cell (World.block_lt_of_cell? _ _ h8.2.1) (by simpa using g2)).trans h8.2.1, (o6.cell (World.block_lt_of_cell? _ _ h8.2.2.1) (by simpa using g3)).trans h8.2.2.1, (o6.cell (World.block_lt_of_cell? _ _ h8.2.2.2.1) (by simpa using g3)).trans h8.2.2.2.1, (o6.cell (World.block_lt_of_cell? _ _ h8.2.2.2.2) (by simpa using g3)).trans h8.2.2.2.2⟩
        clear m6 o6
        refine wpAnyH_ready (rs := [10]) (by kernel_rfl) (by simp) ?_
        refine consH rfl (fun K hK => ?_) AllReadyH.nil
        go_simp
        refine hK.out _ _ cel6.out (fun hHeld2 => ?_)
        clear hK K hHeld hHeld2 hput
        try simp only [Act.put, List.setIfInBounds_toArray, List.set_cons_zero, List.set_cons_succ]
        refine wpAnyH_done (by kernel_rfl) ?_ _
        go_wp2_with fail
        go_roundg (m + 1 - (j + 1))
        case measure => omega
        case rel => exact ⟨j + 1, _, by simp, by omega, by omega, fun j' hj' i' hi' => by
          by_cases e : j' = j
          · subst e; exact NO.out i' hi'
          · exact hn.out j' (by omega) i' hi', NX.out⟩
      · rw [hany] at ct
        obtain ⟨i0, hi0, hr0⟩ := NA.out.1 hany
        have er := Lib.hid (fun (W : World) (o : Only [] W2 W) => cEarliest W i0 bl bj bc (fun i => raceB (evs xs) i j) hr0 (by omega) (fun W' o' i hi => rcs.out W' (o.trans' o') i (by omega)))
        clear hany hr0
        go_wp2_with fail
        refine ct.out.mono ?_
        rintro e W3 ⟨rfl, o3⟩
        have O3 := Lib.hid o3
        clear ct hlk o3 l0 j0 v2 v3 v4
        have cel : Hid (∀ u' : World, Only [] W2 u' → u'.cell? ⟨bj, 0, none⟩ = some (.int .i64 (j : Int))) := fun u' o => (FWa.out u' o).j.c.1
        have st : Hid (Only [] W2 W3.drew) := O3.out.drew
        go_wp2_with fail
        refine wp_region_held_drew (S := (fun u' => u'.cell? ⟨bj, 0, none⟩ = some (.int .i64 (j : Int)))) (by kernel_rfl) (cel.out _ st.out) (fun hHeld => ?_)
        refine takeH (i := 0) (v := ?_) rfl (by kernel_rfl) (by kernel_rfl) (by kernel_rfl) (fun _ _ _ h => h) (Or.inl ⟨by rfl, ?_⟩) (by assumption) ?_
        rotate_left 1
        · (intro w hSw; (try dsimp only at hSw); go_simp; try (with_reducible rfl))
        try simp only [Act.put, List.setIfInBounds_toArray, List.set_cons_zero, List.set_cons_succ]
        refine takeH (i := 2) (v := ?_) rfl (by kernel_rfl) (by kernel_rfl) (by kernel_rfl) (fun _ _ _ h => h) (Or.inl ⟨by rfl, ?_⟩) (by assumption) ?_
        rotate_left 1
        · (intro w hSw; (try dsimp only at hSw); go_simp; try (with_reducible rfl))
        try simp only [Act.put, List.setIfInBounds_toArray, List.set_cons_zero, List.set_cons_succ]
        refine wpAnyH_ready (rs := [1]) (by kernel_rfl) (by simp) ?_
        refine consH rfl (fun K hK => ?_) AllReadyH.nil
        go_simp
        refine (er.out _ st.out).mono ?_
        rintro e W4 ⟨i, rfl, ⟨hi, hpi, hli⟩, o4⟩
        have st4 := Lib.hid (st.out.trans' o4)
        have FI := Lib.hid (And.intro hi (And.intro hpi hli))
        clear hi hpi hli o4
        refine hK.out _ _ (cel.out _ st4.out) (fun hHeld2 => ?_)
        clear hK K hHeld
        have hHeld := hHeld2
        clear hHeld2
        try simp only [Act.put, List.setIfInBounds_toArray, List.set_cons_zero, List.set_cons_succ]
        refine takeH (i := 3) (v := ?_) rfl (by kernel_rfl) (by kernel_rfl) (by kernel_rfl) (fun _ _ _ h => h) (Or.inl ⟨by rfl, ?_⟩) (by assumption) ?_
        rotate_left 1
        · (intro w hSw; (try dsimp only at hSw); go_simp; try (with_reducible rfl))
        try simp only [Act.put, List.setIfInBounds_toArray, List.set_cons_zero, List.set_cons_succ]
        refine takeH (i := 4) (v := ?_) rfl (by kernel_rfl) (by kernel_rfl) (by kernel_rfl) (fun _ _ _ h => h) (Or.inl ⟨by rfl, ?_⟩) (by assumption) ?_
        rotate_left 1
        · (intro w hSw; (try dsimp only at hSw); go_simp; try (with_reducible rfl))
        try simp only [Act.put, List.setIfInBounds_toArray, List.set_cons_zero, List.set_cons_succ]
        refine takeH (i := 5) (v := ?_) rfl (by kernel_rfl) (by kernel_rfl) (by kernel_rfl) (fun _ _ _ h => h) (Or.inl ⟨by rfl, ?_⟩) (by assumption) ?_
        rotate_left 1
        · (intro w hSw; (try dsimp only at hSw); go_simp; try (with_reducible rfl))
        try simp only [Act.put, List.setIfInBounds_toArray, List.set_cons_zero, List.set_cons_succ]
        refine wpAnyH_done (by kernel_rfl) ?_ _
        go_wp2_with fail
        refine bodyPost_ret (v := .tuple #[.int .i64 (i : Int), .int .i64 (j : Int), .bool true]) ?_ rfl ?_
        · simp [results, Try.f12, go_sem]
        · obtain ⟨u1, u2, u3⟩ := HF.out.unique (.inr ⟨rfl, i, j, rfl, rfl, by have := FI.out.1; omega, hjm, FI.out.2.1, hn.out, FI.out.2.2⟩)
          exact ⟨by rw [u1, u2, u3], ((OB.out.trans' O1.out).trans' OC.out).trans' (R2.out.only.trans' st4.out)⟩
    · have h2 : ¬ ((j : Int) < (m : Int)) := by omega
      have h3 : decide ((j : Int) < (m : Int)) = false := decide_eq_false h2
      obtain rfl : j = m := by omega
      obtain ⟨u1, u2, u3⟩ := HF.out.unique (.inl ⟨rfl, rfl, rfl, hn.out⟩)
      have U := Lib.hid (And.intro u1 (And.intro u2 u3))
      clear u1 u2 u3
      go_wp2_with fail
      refine bodyPost_ret (v := .tuple #[.int .i64 0, .int .i64 0, .bool false]) ?_ rfl ?_
      · simp [results, Try.f12, go_sem]
      · exact ⟨by rw [U.out.1, U.out.2.1, U.out.2.2], ((OB.out.trans' O1.out).trans' OC.out).trans' R.out.only⟩
end Go.Proofs.Ytmgmfihjojhilaa
