/-
  clock.Leq, clock.Cmp, clock.Join.
-/
import Derived.Test.YtmgmfihjojhilaaClkS
import Derived.Test.YtmgmfihjojhilaaClkB
namespace Go.Proofs.Ytmgmfihjojhilaa
set_option maxRecDepth 100000
open Go.RowKit
set_option linter.unusedVariables false
set_option linter.unusedSimpArgs false
set_option maxRecDepth 100000
attribute [local go_sem] Oper.semAt_some

theorem ctypes : Try.prog.cellsOf 72 = 2 := by kernel_rfl
/-- A block of one cell. -/
def Cell1 (W : World) (b : Nat) (t : TypeId) (v : Value) : Prop := W.heap[b]? = some (.cells #[v] t (0, 0))
theorem Cell1.c {W : World} {b : Nat} {t : TypeId} {v : Value} (h : Cell1 W b t v) : W.cell? ⟨b, 0, none⟩ = some v ∧ W.frozen? ⟨b, 0, none⟩ = false :=
  ⟨by rw [cell_of_row W b 0 _ _ _ h]; rfl, by simp [World.frozen?, show W.heap[b]? = _ from h]⟩
theorem Cell1.set {W : World} {b : Nat} {t : TypeId} {v : Value} (h : Cell1 W b t v) (u : Value) : Cell1 (W.setCell ⟨b, 0, none⟩ u) b t u := by
  have h' : W.heap[b]? = _ := h
  show (W.heap.modify b _)[b]? = _
  simp [Array.getElem?_modify, h']
set_option maxHeartbeats 4000000 in
theorem cLeq (A : Option Addr) (m c : Nat) (xs : List Int) (A' : Option Addr) (m' c' : Nat) (ys : List Int) (w : World) (hm : xs.length = m) (hm' : ys.length = m') (hb : m ≤ 100000) (hb' : m' ≤ 100000) (h : Nums 0 w A xs) (h' : Nums 0 w A' ys) :
    Calls Try.prog 32 #[.slice A m c, .slice A' m' c'] w fun e w' => e = .returned (.bool (leqB xs ys)) ∧ Only [] w w' := by
  refine callsIn_wide (n := 5) |>.1 ?_
  obtain ⟨R, eR⟩ : ∃ R, w.heap.size = R := ⟨_, rfl⟩
  have HR := Lib.hid eR
  obtain ⟨N, hN⟩ : ∃ N : Nat, max m m' = N := ⟨_, rfl⟩
  have Hiff : Hid (∀ p, p = N → (∀ j, j < p → gC xs j ≤ gC ys j) → leqB xs ys = true) := fun p hp hj => leqB_iff.2 fun j => by
    by_cases hjp : j < p
    · exact hj j hjp
    · rw [gC_out (by omega), gC_out (by omega)]; exact Int.le_refl _
  have hR0 : Cell1 (w.alloc (.cells #[.bool false] 4)) R 4 (.bool false) := by rw [← eR]; exact heap_alloc_new w _
  have oR0 : Only [] w (w.alloc (.cells #[.bool false] 4)) := (Only.refl [] w).alloc _
  have hsz : (w.alloc (.cells #[.bool false] 4)).heap.size = R + 1 := by simp; omega
  refine callsIn_of_wp_marks Try.func32 rfl trivial ?_ rfl
  simp only [Try.ntmps32, List.size_toArray, List.length_cons, List.length_nil, Nat.reduceAdd, Nat.reduceSub, Array.replicate_succ, Array.replicate_zero, List.push_toArray, List.append_toArray, List.nil_append, List.cons_append]
  gi_wp2
  generalize w.alloc (.cells #[.bool false] 4) = V at *
  have hgo : ∀ W W' : World, Only [V.heap.size, V.heap.size + 1] W W' → Only [] w W → Only [] w W' := fun W W' h2 h1 => h1.trans h2 (fun k hk => .inr (by have := oR0.size; simp at hk; omega))
  have hce : ∀ (W W' : World) (v : Value), Only [V.heap.size, V.heap.size + 1] W W' → Cell1 W R 4 v → Cell1 W' R 4 v := fun W W' v h2 h1 => h2.get h1 (by rw [hsz]; simp; omega)
  refine range_meth (gf := 55) (fs := #[.agg #[.slice A m c, .slice A' m' c']]) rfl (enters_of Try.func55 (by kernel_rfl) rfl) N (pairAt xs ys) (fun _ => rfl) [R] (fun k hk => by simp at hk; omega)
    (fun k W => (∀ j, j < k → gC xs j ≤ gC ys j) ∧ Cell1 W R 4 (.bool false) ∧ Only [] w W)
    (fun W => leqB xs ys = false ∧ Cell1 W R 4 (.bool false) ∧ Only [] w W)
    (fun k W W' h1 h2 => ⟨h1.1, hce W W' _ h2 h1.2.1, hgo W W' h2 h1.2.2⟩)
    (fun W W' h1 h2 => ⟨h1.1, hce W W' _ h2 h1.2.1, hgo W W' h2 h1.2.2⟩)
    ⟨fun j hj => absurd hj (by omega), hR0, oR0⟩
    (fun k => { tmps := #[.slice A m c, .slice A' m' c', undef, undef, .pointer (some ⟨R, 0, none⟩), .func (.func 55) #[.agg #[.slice A m c, .slice A' m' c']] #[], .int .i64 (gC xs k), .int .i64 (gC ys k), .slice A m c, .slice A' m' c', .agg #[.slice A m c, .slice A' m' c'], .func (.func 55) #[.agg #[.slice A m c, .slice A' m' c']] #[], .func (.func 55) #[.agg #[.slice A m c, .slice A' m' c']] #[], .int .i64 (gC xs k), .int .i64 (gC ys k), undef, undef, undef], defers := [] })
    ?hit ?assign ?body ?done ?stop
  case hit =>
    intro l J Jx W h1 h2 h3 h4 h5 h6 h7
    exact cBoth 4 w A m c xs A' m' c' ys N hN hm hm' hb hb' h h' [R] l J Jx W (oR0.trans' h1) (fun k hk => by
      rcases List.mem_cons.1 hk with rfl | hk
      · omega
      · simp at hk; omega) h5 h6 h7
  case assign =>
    intro l k W K hK
    unfold pairAt
    gi_wp2
    exact hK
  case body =>
    rintro l k W ⟨hj, hc, ho⟩ hk
    obtain ⟨c0, f0⟩ := hc.c
    have HJ := Lib.hid hj
    have HC := Lib.hid (And.intro hc ho)
    clear hj hc ho hgo hce hR0 oR0 h h'
    by_cases hab : gC xs k ≤ gC ys k
    · have HAB := Lib.hid hab
      generalize hx : gC xs k = x at *
      generalize hx' : gC ys k = y at *
      have HX := Lib.hid (And.intro hx hx')
      clear hx hx'
      have h1 : ¬ (y < x) := by omega
      have h2 : decide (y < x) = false := decide_eq_false h1
      gi_wp2
      refine ⟨Only.refl _ _, fun j hjk => ?_, HC.out⟩
      by_cases e : j = k
      · subst e; rw [HX.out.1, HX.out.2]; exact HAB.out
      · exact HJ.out j (by omega)
    · have HF := Lib.hid (leqB_false (xs := xs) (ys := ys) (k := k) (by omega))
      generalize hx : gC xs k = x at *
      generalize hx' : gC ys k = y at *
      clear hx hx'
      have h1 : y < x := by omega
      clear hab
      gi_wp2
      exact ⟨(Only.refl _ _).setCell (.inl (by simp)) _, HF.out, HC.out.1.set _, HC.out.2.setCell (.inr (by have := HR.out; show _ ≤ R; omega)) _⟩
  case done =>
    rintro D W hD ⟨hj, hc, ho⟩ hK
    obtain ⟨c0, f0⟩ := hc.c
    have HT := Lib.hid (Hiff.out N rfl hj)
    have hKs := ((Only.refl [R] W).setCell (p := ⟨R, 0, none⟩) (.inl (by simp)) (.bool true)).get hK (by simp; omega)
    have hc2 := (Only.putObj (W.setCell ⟨R, 0, none⟩ (.bool true)) D (.deferred none)).get (hc.set (.bool true)) (by simp; omega)
    have hc3 := (show Cell1 _ R 4 (.bool true) from hc2).c.1
    have hof := ho.setCell (p := ⟨R, 0, none⟩) (.inr (by have := HR.out; show _ ≤ R; omega)) (.bool true)
    have hof2 : Only [] w ((W.setCell ⟨R, 0, none⟩ (.bool true)).putObj D (.deferred none)) := hof.trans (Only.putObj _ _ _) (fun k hk => .inr (by have := oR0.size; simp at hk; omega))
    clear hj hgo hce hR0 h h' hc2 hof hc ho
    gi_wp2
    refine ⟨by simp, .inl ⟨_, _, rfl, run_takeDeferred hKs, ?_⟩⟩
    refine ⟨.bool true, ?_, by rw [HT.out], hof2⟩
    simp [results, Try.f32, go_sem, hc3]
  case stop =>
    rintro D W hD ⟨hf, hc, ho⟩ hK
    have hc2 := (Only.putObj W D (.deferred none)).get hc (by simp; omega)
    have hc3 := (show Cell1 _ R 4 (.bool false) from hc2).c.1
    have hof2 : Only [] w (W.putObj D (.deferred none)) := ho.trans (Only.putObj _ _ _) (fun k hk => .inr (by have := oR0.size; simp at hk; omega))
    have HF := Lib.hid hf
    clear hgo hce hR0 h h' hc2 hc ho hf
    gi_wp2
    refine ⟨by simp, .inl ⟨_, _, rfl, run_takeDeferred hK, ?_⟩⟩
    refine ⟨.bool false, ?_, by rw [HF.out], hof2⟩
    simp [results, Try.f32, go_sem, hc3]
/-! ### Join -/
/-- One number more, into a row that has room for it. -/
theorem wpListIn_fit1 {F : Fence} {n : Nat} {ops : Array Oper} {rest : List Oper} {o : Oper} {a : Act} {Q : Exit → Act → World → Prop} {W : World} (hgd : o.guard = none) (s x : Operand) (ho : o.op = .call { callee := .builtin .append, args := #[s, x], argTypes := #[23, 23] })
    (g k N : Nat) (xs : List Int) (v : Int) (hs : a.eval s = .slice (some ⟨g, 0, none⟩) k N) (hx : a.eval x = .slice (some ⟨W.heap.size, 0, none⟩) 1 1) (h : iE.Row W (.slice (some ⟨g, 0, none⟩) k N) xs) (hl : xs.length = k) (hk : k < N)
    (hK : ∀ w2, iE.Row w2 (.slice (some ⟨g, 0, none⟩) (k + 1) N) (xs ++ [v]) → Only [g] W w2 → wpListIn F n Try.prog ops Q rest (a.put o.dst (.slice (some ⟨g, 0, none⟩) (k + 1) N)) w2) : wpListIn F n Try.prog ops Q (o :: rest) a (W.alloc (.cells #[.int .i64 v] 3)) := by
  obtain ⟨i0, hi0, hz0, hz1, hz2⟩ := info_parts iE.info
  have oB : Only [] W (W.alloc (.cells #[.int .i64 v] 3)) := (Only.refl [] W).alloc _
  have hrow : (W.alloc (.cells #[.int .i64 v] 3)).ownsRow 0 3 1 (.slice (some ⟨g, 0, none⟩) k N) k (iE.flat xs) := by
    have := h.only0 oB
    unfold El.Row at this
    rw [hl] at this
    exact this
  obtain ⟨ad, e, hc⟩ := (El.Src.box (E := iE) (x := v) (heap_alloc_new W (.cells (iE.cs v).toArray iE.T))) (by simp)
  injection e with e
  subst e
  refine wpListIn_append_fits _ hgd s x 23 ho 0 3 i0 1 Try.underlying23 hi0 hz1 g k N (iE.flat xs) hs hrow _ 1 1 (iE.flat [v]) hx (by rw [iE.flat_length]; rfl) hc (iE.flat_one _) (by omega) ?_
  intro w2 h2 g2
  refine hK w2 ?_ ((oB.mono (T := [g]) (by simp)).grown g2 (fun j hj => .inl (by simp at hj; simp [hj])))
  unfold El.Row
  rw [iE.flat_append, List.length_append, hl]
  exact h2
set_option maxHeartbeats 4000000 in
theorem cJoin (A : Option Addr) (m c : Nat) (xs : List Int) (A' : Option Addr) (m' c' : Nat) (ys : List Int) (w : World) (hm : xs.length = m) (hm' : ys.length = m') (hb : m ≤ 100000) (hb' : m' ≤ 100000) (h : Nums 0 w A xs) (h' : Nums 0 w A' ys) :
    Calls Try.prog 41 #[.slice A m c, .slice A' m' c'] w (Fresh w (joinM xs ys)) := by
  refine callsIn_wide (n := 5) |>.1 ?_
  obtain ⟨i0, hi0, hz0, hz1, hz2⟩ := info_parts iE.info
  obtain ⟨G, eG⟩ : ∃ G, w.heap.size = G := ⟨_, rfl⟩
  have HG := Lib.hid eG
  obtain ⟨N, hN⟩ : ∃ N : Nat, max m m' = N := ⟨_, rfl⟩
  have hmx : max (m : Int) (m' : Int) = (N : Int) := by omega
  have hNb : N ≤ 100000 := by omega
  have hfin : Hid (joinM xs ys = tabC N fun k => max (gC xs k) (gC ys k)) := by show _ = _; unfold joinM; rw [hm, hm', hN]
  have hmk := El.run_make_ (E := iE) Try.underlying23 w 0 N (by omega) (by omega)
  have hc0 : ((0 : Nat) : Int) = 0 := rfl
  rw [hc0] at hmk
  have hr0 := El.Row.made0 (E := iE) w N (by omega)
  have o0 : Only [] w (w.alloc (.cells (madeCells iE.z.cells (N * 1)) iE.T)) := (Only.refl [] w).alloc _
  have hs0 : (w.alloc (.cells (madeCells iE.z.cells (N * 1)) iE.T)).heap.size = G + 1 := by simp; omega
  rw [eG] at hmk hr0
  generalize w.alloc (.cells (madeCells iE.z.cells (N * 1)) iE.T) = U at *
  have hJ0 : Cell1 (U.alloc (.cells #[.slice (some ⟨G, 0, none⟩) 0 N] 23)) (G + 1) 23 (.slice (some ⟨G, 0, none⟩) 0 N) := by rw [← hs0]; exact heap_alloc_new U _
  have o1 : Only [] w (U.alloc (.cells #[.slice (some ⟨G, 0, none⟩) 0 N] 23)) := o0.alloc _
  have hr1 : iE.Row (U.alloc (.cells #[.slice (some ⟨G, 0, none⟩) 0 N] 23)) (.slice (some ⟨G, 0, none⟩) 0 N) [] := hr0.only0 ((Only.refl [] U).alloc _)
  have hs1 : (U.alloc (.cells #[.slice (some ⟨G, 0, none⟩) 0 N] 23)).heap.size = G + 2 := by simp; omega
  refine callsIn_of_wp_marks Try.func41 rfl trivial ?_ rfl
  simp only [Try.ntmps41, List.size_toArray, List.length_cons, List.length_nil, Nat.reduceAdd, Nat.reduceSub, Array.replicate_succ, Array.replicate_zero, List.push_toArray, List.append_toArray, List.nil_append, List.cons_append]
  gi_wp2
  generalize U.alloc (.cells #[.slice (some ⟨G, 0, none⟩) 0 N] 23) = V at *
  clear hmk hr0 o0 hs0
  have hgo : ∀ W W' : World, Only [V.heap.size, V.heap.size + 1] W W' → Only [] w W → Only [] w W' := fun W W' h2 h1 => h1.trans h2 (fun k hk => .inr (by have := o1.size; simp at hk; omega))
  have hce : ∀ (W W' : World) (v : Value), Only [V.heap.size, V.heap.size + 1] W W' → Cell1 W (G + 1) 23 v → Cell1 W' (G + 1) 23 v := fun W W' v h2 h1 => h2.get h1 (by rw [hs1]; simp)
  have hro : ∀ (W W' : World) (p : Nat) (zs : List Int), Only [V.heap.size, V.heap.size + 1] W W' → iE.Row W (.slice (some ⟨G, 0, none⟩) p N) zs → iE.Row W' (.slice (some ⟨G, 0, none⟩) p N) zs := fun W W' p zs h2 h1 => h1.only h2 (fun g hg => by rw [hs1]; simp [Value.ownBlock] at hg; simp; omega)
  refine range_meth (gf := 55) (fs := #[.agg #[.slice A m c, .slice A' m' c']]) rfl (enters_of Try.func55 (by kernel_rfl) rfl) N (pairAt xs ys) (fun _ => rfl) [G, G + 1] (fun k hk => by simp at hk; omega)
    (fun k W => Cell1 W (G + 1) 23 (.slice (some ⟨G, 0, none⟩) k N) ∧ iE.Row W (.slice (some ⟨G, 0, none⟩) k N) (tabC k fun k => max (gC xs k) (gC ys k)) ∧ Only [] w W)
    (fun _ => False)
    (fun k W W' h1 h2 => ⟨hce W W' _ h2 h1.1, hro W W' _ _ h2 h1.2.1, hgo W W' h2 h1.2.2⟩)
    (fun W W' h1 h2 => h1)
    ⟨hJ0, hr1, o1⟩
    (fun k => { tmps := #[.slice A m c, .slice A' m' c', undef, undef, .slice none 0 0, .pointer (some ⟨G + 1, 0, none⟩), .func (.func 55) #[.agg #[.slice A m c, .slice A' m' c']] #[], .int .i64 (gC xs k), .int .i64 (gC ys k), .slice A m c, .int .i64 m, .slice A' m' c', .int .i64 m', .int .i64 N, .slice (some ⟨G, 0, none⟩) 0 N, .slice A m c, .slice A' m' c', .agg #[.slice A m c, .slice A' m' c'], .func (.func 55) #[.agg #[.slice A m c, .slice A' m' c']] #[], .func (.func 55) #[.agg #[.slice A m c, .slice A' m' c']] #[], .int .i64 (gC xs k), .int .i64 (gC ys k), undef, undef, undef, undef, undef, undef, undef], defers := [] })
    ?hit ?assign ?body ?done ?stop
  case hit =>
    intro l J Jx W h1 h2 h3 h4 h5 h6 h7
    exact cBoth 4 w A m c xs A' m' c' ys N hN hm hm' hb hb' h h' [G, G + 1] l J Jx W (o1.trans' h1) (fun k hk => by
      rcases List.mem_cons.1 hk with rfl | hk
      · omega
      · simp at hk; omega) h5 h6 h7
  case assign =>
    intro l k W K hK
    unfold pairAt
    gi_wp2
    exact hK
  case body =>
    rintro l k W ⟨hc, hr, ho⟩ hk
    obtain ⟨c0, f0⟩ := hc.c
    have HC := Lib.hid (And.intro hc (And.intro hr ho))
    have hs := Lib.hid (tabC_succ k fun k => max (gC xs k) (gC ys k))
    clear hc hr ho hgo hce hro hJ0 hr1 o1 h h'
    generalize gC xs k = x at *
    generalize gC ys k = y at *
    gi_wp2_with (first
      | (gi_at_builtin
         refine wpListIn_fit1 rfl (.tmp 22) (.tmp 26) rfl G k N _ (max x y) rfl rfl HC.out.2.1 (tabC_len _ _) hk ?_
         intro w2 r2 o2
         obtain ⟨d0, g0⟩ := (show Cell1 w2 (G + 1) 23 _ from o2.get HC.out.1 (by simp)).c
         have R2 := Lib.hid (And.intro r2 o2)
         clear r2 o2))
    obtain ⟨r2, o2⟩ := R2.out
    have hcw : Cell1 w2 (G + 1) 23 _ := o2.get HC.out.1 (by simp)
    refine ⟨(o2.mono (T := [G, G + 1]) (fun j hj => .inl (by simp at hj; simp [hj]))).setCell (.inl (by simp)) _, hcw.set _, ?_, ?_⟩
    · rw [hs.out]
      exact r2.only ((Only.refl [G + 1] w2).setCell (.inl (by simp)) _) (fun g hg => by simp [Value.ownBlock] at hg; simp; omega)
    · have hg := HG.out
      exact (HC.out.2.2.trans o2 (fun j hj => .inr (by simp at hj; omega))).setCell (.inr (by show _ ≤ G + 1; omega)) _
  case done =>
    rintro D W hD ⟨hc, hr, ho⟩ hK
    obtain ⟨c0, f0⟩ := hc.c
    have hr2 : iE.Row (W.putObj D (.deferred none)) (.slice (some ⟨G, 0, none⟩) N N) (tabC N fun k => max (gC xs k) (gC ys k)) := hr.only (Only.putObj W D _) (fun g hg => by simp [Value.ownBlock] at hg; simp; omega)
    have hof2 : Only [] w (W.putObj D (.deferred none)) := ho.trans (Only.putObj _ _ _) (fun k hk => .inr (by have := o1.size; simp at hk; omega))
    have F := Lib.hid (show Fresh w (joinM xs ys) (.returned (.slice (some ⟨G, 0, none⟩) N N)) (W.putObj D (.deferred none)) from by
      rw [hfin.out]
      exact ⟨some ⟨G, 0, none⟩, N, by rw [tabC_len], Nums.of_row hr2 (fun g hg => by simp [Value.ownBlock] at hg; omega), hof2, fun e => by cases e⟩)
    clear hgo hce hro hJ0 hr1 h h' hc ho hr hr2 hof2
    gi_wp2
    refine ⟨by simp, .inl ⟨_, _, rfl, run_takeDeferred hK, ?_⟩⟩
    refine ⟨_, results_tmp rfl _ _ _, ?_⟩
    exact F.out
  case stop =>
    rintro D W hD h _
    exact h.elim
end Go.Proofs.Ytmgmfihjojhilaa
