/-
  weighbridgelaw13.RaceRaw returns true for every input, and leaves its arguments as they were. No condition but that the arguments are values of their types.
-/
import Derived.Test.YtmgmfihjojhilaaRows
import Derived.Test.YtmgmfihjojhilaaRcU
import Derived.WalkKit
import Derived.ProofKit
import Derived.OpenShut
import Derived.ChangeOld
import Derived.Below
namespace Go.Proofs.Ytmgmfihjojhilaa.raceRaw
open Go.ChangeShapes Go.WideShapes Go.ChangeAt Go.RowKit
set_option linter.unusedVariables false
set_option linter.unusedSimpArgs false

set_option maxRecDepth 100000 in
set_option maxHeartbeats 8000000 in
theorem walk (a0 : Option Addr) (len0 cap0 : Nat) (z0 : Nat → Ev) (who1 kind1 lk1 la1 lb1 : Int) (who2 kind2 lk2 la2 lb2 : Int) (w : World) (w0 : InEvs w a0 len0 z0) (wwho1 : (Lit.int .i64 who1).wf = true) (wkind1 : (Lit.int .i64 kind1).wf = true) (wlk1 : (Lit.int .i64 lk1).wf = true) (wla1 : (Lit.int .i64 la1).wf = true) (wlb1 : (Lit.int .i64 lb1).wf = true) (wwho2 : (Lit.int .i64 who2).wf = true) (wkind2 : (Lit.int .i64 kind2).wf = true) (wlk2 : (Lit.int .i64 lk2).wf = true) (wla2 : (Lit.int .i64 la2).wf = true) (wlb2 : (Lit.int .i64 lb2).wf = true) :
    Calls Try.prog 4 #[.slice a0 len0 cap0, .agg #[.int .i64 who1, .int .i64 kind1, .int .i64 lk1, .int .i64 la1, .int .i64 lb1], .agg #[.int .i64 who2, .int .i64 kind2, .int .i64 lk2, .int .i64 la2, .int .i64 lb2]] w fun e w' => e = .returned (.bool true) ∧ Below w.heap.size w w' := by
  have BX := EvAt.boxes w ⟨who1, kind1, ⟨lk1, la1, lb1⟩⟩ ⟨who2, kind2, ⟨lk2, la2, lb2⟩⟩
  dsimp only at BX
  have OB : Hid (Only [] w ((w.alloc (.cells #[.int .i64 who1, .int .i64 kind1, .int .i64 lk1, .int .i64 la1, .int .i64 lb1] 36)).alloc (.cells #[.int .i64 who2, .int .i64 kind2, .int .i64 lk2, .int .i64 la2, .int .i64 lb2] 36))) := ((Only.refl [] w).alloc _).alloc _
  have XO : Hid ((⟨who1, kind1, ⟨lk1, la1, lb1⟩⟩ : Ev).ok) := ⟨wwho1, wkind1, wlk1, wla1, wlb1⟩
  have YO : Hid ((⟨who2, kind2, ⟨lk2, la2, lb2⟩⟩ : Ev).ok) := ⟨wwho2, wkind2, wlk2, wla2, wlb2⟩
  have HZ := Lib.hid w0
  clear w0 wwho1 wkind1 wlk1 wla1 wlb1 wwho2 wkind2 wlk2 wla2 wlb2
  obtain ⟨N, hN⟩ : ∃ N, min len0 40 = N := ⟨_, rfl⟩
  have hNn : N ≤ len0 := by omega
  have hNm : N ≤ 40 := by omega
  have HN := Lib.hid hN
  clear hN
  go_enter Try.func4, Try.ntmps4
  go_upto_region 1 with fail
  generalize (w.alloc (.cells #[.int .i64 who1, .int .i64 kind1, .int .i64 lk1, .int .i64 la1, .int .i64 lb1] 36)).alloc (.cells #[.int .i64 who2, .int .i64 kind2, .int .i64 lk2, .int .i64 la2, .int .i64 lb2] 36) = W at *
  generalize w.heap.size = g at *
  have HX : Hid (∀ V, Only [] W V → EvAt V g 0 ⟨who1, kind1, ⟨lk1, la1, lb1⟩⟩) := fun V o => BX.1.only0 o
  have HY : Hid (∀ V, Only [] W V → EvAt V (g + 1) 0 ⟨who2, kind2, ⟨lk2, la2, lb2⟩⟩) := fun V o => BX.2.only0 o
  clear BX
  have ZW : Hid (InEvs W a0 len0 z0) := HZ.out.only0 OB.out
  go_wp2_with fail
  go_loopg [7, 8] (N + 1) (fun gk sl si wr => ∃ (p : Nat) (A1 : Option Addr) (cap1 : Nat) (xs : List Ev), si = .int .i64 (p : Int) ∧ sl = .slice A1 p cap1 ∧ p ≤ N ∧ N + 1 ≤ gk + p ∧ Hid (EFr W wr A1 p cap1 xs))
  case atStart => exact ⟨0, none, 0, [], rfl, rfl, by omega, by omega, EFr.nil (Only.refl _ _)⟩
  case round =>
    obtain ⟨p, A1, cap1, xs, rfl, rfl, hp, hg, R⟩ := hrel
    by_cases hpl : p < N
    · have h1 : (p : Int) < (len0 : Int) := by omega
      have h2 : (p : Int) < 40 := by omega
      obtain ⟨hok, ad, b, o, s, rfl, e2, hb, x0, x1, x2, x3, x4⟩ := (ZW.out.only0 R.out.only) p (by omega)
      have KO := Lib.hid hok
      clear hok hb
      generalize z0 p = dv at *
      go_wp2_with (first
        | (at_builtin
           refine wpList_appE rfl (.tmp 27) (.tmp 32) rfl A1 p cap1 xs dv rfl rfl R.out KO.out (by omega) ?_
           intro A5 c5 w5 h5
           have R5 := Lib.hid h5
           clear h5))
      go_roundg (N + 1 - (p + 1))
      case measure => omega
      case rel => exact ⟨p + 1, A5, c5, _, by simp, rfl, by omega, by omega, R5⟩
    · have hpN : p = N := by omega
      have hstop : Hid ((¬ ((p : Int) < (len0 : Int))) ∨ ((p : Int) < (len0 : Int) ∧ ¬ ((p : Int) < 40))) := by
        show _ ∨ _
        have := HN.out
        by_cases h9 : p < len0
        · exact .inr ⟨by omega, by omega⟩
        · exact .inl (by omega)
      have hm : p ≤ 40 := by omega
      clear hpN hpl
      have ML := Lib.hid R.out.len
      obtain ⟨fa, fb, fk, hF⟩ := FirstL.is xs
      have F := Lib.hid hF
      clear hF
      have k1 := Lib.hid (fun (V : World) (o : Only [] wr V) => cFirst A1 p cap1 xs V fa fb fk ML.out (by omega) (R.out.only0 o).ev R.out.lc F.out)
      have k2 := Lib.hid (fun (V : World) (o : Only [] wr V) => rFirst A1 p cap1 xs V fa fb fk ML.out (by omega) (R.out.only0 o).ev F.out)
      have k3 := Lib.hid (fun (V : World) (o : Only [] wr V) => cRight A1 p cap1 xs V ML.out (by omega) (R.out.only0 o).ev)
      have k4 := Lib.hid (fun (V : World) (o : Only [] wr V) => (rRight A1 p cap1 xs V ML.out (by omega) (R.out.only0 o).ev).mono fun e w' q => (⟨q.1, by rw [q.2]; exact Only.refl [] _⟩ : e = .returned (.bool (okL xs)) ∧ Only [] V w'))
      have k5 := Lib.hid (fun (V : World) (o : Only [] wr V) => cClocksR A1 p cap1 xs V ML.out (by omega) (R.out.only0 o).ev R.out.lc)
      have k6 := Lib.hid (fun (V : World) (o : Only [] wr V) => rClocksR A1 p cap1 xs V ML.out (by omega) (R.out.only0 o).ev)
      have hn : Hid (clkN xs ≤ 1000) := by have := ML.out; show _ ≤ _; unfold clkN; split <;> omega
      have nY := Lib.hid (fun (V : World) => lNear ⟨who2, kind2, ⟨lk2, la2, lb2⟩⟩ YO.out V)
      have nX := Lib.hid (fun (V : World) => lNear ⟨who1, kind1, ⟨lk1, la1, lb1⟩⟩ XO.out V)
      dsimp only at nX nY
      generalize okL xs = ok at *
      generalize clkN xs = M at *
      have e1 : (ok == ok) = true := by simp
      have f1 : (fa == fa) = true := by simp
      have f2 : (fb == fb) = true := by simp
      have f3 : (fk == fk) = true := by simp
      have md := Lib.hid (fun (v n : Int) (h : 0 < n) (hn : n ≤ 1000000) (w : World) => cMod v n h hn w)
      have O : Hid (Only [] wr wr) := Only.refl [] wr
      rcases hstop.out with h9 | ⟨h9, h10⟩
      · have h10 := decide_eq_false h9
        go_wp2_with fail
        refine (k1.out _ O.out).mono ?_
        rintro e V ⟨rfl, o⟩
        have O := Lib.hid (O.out.trans' o)
        clear o k1
        go_wp2_with fail
        refine (k2.out _ O.out).mono ?_
        rintro e V ⟨rfl, o⟩
        have O := Lib.hid (O.out.trans' o)
        clear o k2
        obtain ⟨i0, i1, i2, i3, i4⟩ := HX.out V (R.out.only.trans' O.out)
        obtain ⟨j0, j1, j2, j3, j4⟩ := HY.out V (R.out.only.trans' O.out)
        simp only [Nat.zero_add] at i0 i1 i2 i3 i4 j0 j1 j2 j3 j4
        go_wp2_with fail
        refine (nY.out _).mono ?_
        rintro e V1 ⟨⟨zw, zk, zl, za, zb⟩, rfl, _, o⟩
        clear i0 i1 i2 i3 i4 j0 j1 j2 j3 j4
        have O := Lib.hid (O.out.trans' o)
        clear o nY
        dsimp only
        have hz := heap_alloc_new V1 (.cells #[.int .i64 zw, .int .i64 zk, .int .i64 zl, .int .i64 za, .int .i64 zb] 36)
        have OZ : Hid (Only [] wr (V1.alloc (.cells #[.int .i64 zw, .int .i64 zk, .int .i64 zl, .int .i64 za, .int .i64 zb] 36))) := O.out.alloc _
        have gzle : Hid (wr.heap.size ≤ V1.heap.size) := O.out.size
        go_upto_region 9 with fail
        generalize V1.alloc (.cells #[.int .i64 zw, .int .i64 zk, .int .i64 zl, .int .i64 za, .int .i64 zb] 36) = Z0 at *
        generalize V1.heap.size = gz at *
        clear O
        have O := OZ
        clear OZ
        obtain ⟨i0, i1, i2, i3, i4⟩ := HX.out Z0 (R.out.only.trans' O.out)
        obtain ⟨j0, j1, j2, j3, j4⟩ := HY.out Z0 (R.out.only.trans' O.out)
        simp only [Nat.zero_add] at i0 i1 i2 i3 i4 j0 j1 j2 j3 j4
        go_wp2_with fail
        refine (nX.out _).mono ?_
        rintro e V3 ⟨⟨ww, wk, wl, wa, wb⟩, rfl, _, o⟩
        clear i0 i1 i2 i3 i4 j0 j1 j2 j3 j4
        have O := Lib.hid (O.out.trans' o)
        have hz := o.get hz (by simp)
        have gzlt : gz < V3.heap.size := (Array.getElem?_eq_some_iff.1 hz).1
        clear o nX
        dsimp only
        have hw := heap_alloc_new V3 (.cells #[.int .i64 ww, .int .i64 wk, .int .i64 wl, .int .i64 wa, .int .i64 wb] 36)
        have hz := ((Only.refl [] V3).alloc (.cells #[.int .i64 ww, .int .i64 wk, .int .i64 wl, .int .i64 wa, .int .i64 wb] 36)).get hz (by simp)
        have OZ : Hid (Only [] wr (V3.alloc (.cells #[.int .i64 ww, .int .i64 wk, .int .i64 wl, .int .i64 wa, .int .i64 wb] 36))) := O.out.alloc _
        have gwle : Hid (wr.heap.size ≤ V3.heap.size) := O.out.size
        go_upto_region 10 with fail
        generalize V3.alloc (.cells #[.int .i64 ww, .int .i64 wk, .int .i64 wl, .int .i64 wa, .int .i64 wb] 36) = Z1 at *
        generalize V3.heap.size = gw at *
        clear O
        have O := OZ
        clear OZ
        have cz : ∀ k v, #[.int .i64 zw, .int .i64 zk, .int .i64 zl, .int .i64 za, .int .i64 zb][k]? = some v → Z1.cell? ⟨gz, k, none⟩ = some v := fun k v h => by rw [cell_of_row Z1 _ _ _ _ (0, 0) hz]; exact h
        have cw : ∀ k v, #[.int .i64 ww, .int .i64 wk, .int .i64 wl, .int .i64 wa, .int .i64 wb][k]? = some v → Z1.cell? ⟨gw, k, none⟩ = some v := fun k v h => by rw [cell_of_row Z1 _ _ _ _ (0, 0) hw]; exact h
        have fz : ∀ k, Z1.frozen? ⟨gz, k, none⟩ = false := fun k => by simp [World.frozen?, hz]
        have fw : ∀ k, Z1.frozen? ⟨gw, k, none⟩ = false := fun k => by simp [World.frozen?, hw]
        have b0 := cz 0 _ rfl
        have b1 := cz 1 _ rfl
        have b2 := cz 2 _ rfl
        have b3 := cz 3 _ rfl
        have b4 := cz 4 _ rfl
        have c0 := cw 0 _ rfl
        have c1 := cw 1 _ rfl
        have c2 := cw 2 _ rfl
        have c3 := cw 3 _ rfl
        have c4 := cw 4 _ rfl
        have fw2 := fw 2
        have fw3 := fw 3
        have fw4 := fw 4
        go_upto_region 11 with fail
        have neA : ∀ (X : World) (k : Nat) (v : Value) (c : Nat), (X.setCell ⟨gw, k, none⟩ v).cell? ⟨gz, c, none⟩ = X.cell? ⟨gz, c, none⟩ := fun X k v c => World.cell?_setCell_other _ _ _ _ (by intro e9; injection e9 with e9; omega)
        have neB : ∀ (X : World) (k : Nat) (v : Value) (c : Nat), c ≠ k → (X.setCell ⟨gw, k, none⟩ v).cell? ⟨gw, c, none⟩ = X.cell? ⟨gw, c, none⟩ := fun X k v c h => World.cell?_setCell_other _ _ _ _ (by intro e9; injection e9 with _ e9; omega)
        have sm : ∀ (X : World) (k : Nat) (v u : Value), X.cell? ⟨gw, k, none⟩ = some u → (X.setCell ⟨gw, k, none⟩ v).cell? ⟨gw, k, none⟩ = some v := fun X k v u h => World.cell?_setCell_same' _ _ _ (by rw [h]; rfl)
        have B : ∀ c v, Z1.cell? ⟨gz, c, none⟩ = some v → (((Z1.setCell ⟨gw, 2, none⟩ (.int .i64 zl)).setCell ⟨gw, 3, none⟩ (.int .i64 za)).setCell ⟨gw, 4, none⟩ (.int .i64 zb)).cell? ⟨gz, c, none⟩ = some v := fun c v h => by rw [neA, neA, neA]; exact h
        have d0 := B 0 _ b0
        have d1 := B 1 _ b1
        have d2 := B 2 _ b2
        have d3 := B 3 _ b3
        have d4 := B 4 _ b4
        have m0 : (((Z1.setCell ⟨gw, 2, none⟩ (.int .i64 zl)).setCell ⟨gw, 3, none⟩ (.int .i64 za)).setCell ⟨gw, 4, none⟩ (.int .i64 zb)).cell? ⟨gw, 0, none⟩ = some (.int .i64 ww) := by rw [neB _ _ _ _ (by decide), neB _ _ _ _ (by decide), neB _ _ _ _ (by decide)]; exact c0
        have m1' : (((Z1.setCell ⟨gw, 2, none⟩ (.int .i64 zl)).setCell ⟨gw, 3, none⟩ (.int .i64 za)).setCell ⟨gw, 4, none⟩ (.int .i64 zb)).cell? ⟨gw, 1, none⟩ = some (.int .i64 wk) := by rw [neB _ _ _ _ (by decide), neB _ _ _ _ (by decide), neB _ _ _ _ (by decide)]; exact c1
        have m2' : (((Z1.setCell ⟨gw, 2, none⟩ (.int .i64 zl)).setCell ⟨gw, 3, none⟩ (.int .i64 za)).setCell ⟨gw, 4, none⟩ (.int .i64 zb)).cell? ⟨gw, 2, none⟩ = some (.int .i64 zl) := by rw [neB _ _ _ _ (by decide), neB _ _ _ _ (by decide)]; exact sm _ _ _ _ c2
        have m3 : (((Z1.setCell ⟨gw, 2, none⟩ (.int .i64 zl)).setCell ⟨gw, 3, none⟩ (.int .i64 za)).setCell ⟨gw, 4, none⟩ (.int .i64 zb)).cell? ⟨gw, 3, none⟩ = some (.int .i64 za) := by rw [neB _ _ _ _ (by decide)]; exact sm _ _ _ _ ((neB _ _ _ _ (by decide)).trans c3)
        have m4 : (((Z1.setCell ⟨gw, 2, none⟩ (.int .i64 zl)).setCell ⟨gw, 3, none⟩ (.int .i64 za)).setCell ⟨gw, 4, none⟩ (.int .i64 zb)).cell? ⟨gw, 4, none⟩ = some (.int .i64 zb) := sm _ _ _ _ ((neB _ _ _ _ (by decide)).trans ((neB _ _ _ _ (by decide)).trans c4))
        have gw1 : (((Z1.setCell ⟨gw, 2, none⟩ (.int .i64 zl)).setCell ⟨gw, 3, none⟩ (.int .i64 za)).setCell ⟨gw, 4, none⟩ (.int .i64 zb)).frozen? ⟨gw, 1, none⟩ = false := (World.frozen?_setCell _ _ _ _).trans ((World.frozen?_setCell _ _ _ _).trans ((World.frozen?_setCell _ _ _ _).trans (fw 1)))
        have gz1 : (((Z1.setCell ⟨gw, 2, none⟩ (.int .i64 zl)).setCell ⟨gw, 3, none⟩ (.int .i64 za)).setCell ⟨gw, 4, none⟩ (.int .i64 zb)).frozen? ⟨gz, 1, none⟩ = false := (World.frozen?_setCell _ _ _ _).trans ((World.frozen?_setCell _ _ _ _).trans ((World.frozen?_setCell _ _ _ _).trans (fz 1)))
        have OU : Hid (Only [] wr (((Z1.setCell ⟨gw, 2, none⟩ (.int .i64 zl)).setCell ⟨gw, 3, none⟩ (.int .i64 za)).setCell ⟨gw, 4, none⟩ (.int .i64 zb))) := ((O.out.setCell (.inr gwle.out) _).setCell (.inr gwle.out) _).setCell (.inr gwle.out) _
        clear neA neB sm B b0 b1 b2 b3 b4 c0 c1 c2 c3 c4 fw2 fw3 fw4 fz fw cz cw hz hw O
        generalize ((Z1.setCell ⟨gw, 2, none⟩ (.int .i64 zl)).setCell ⟨gw, 3, none⟩ (.int .i64 za)).setCell ⟨gw, 4, none⟩ (.int .i64 zb) = U0 at *
        have q1 := modI_lt wk (n := 6) (by decide)
        have q2 := modI_lt zk (n := 6) (by decide)
        have h1w : IntKind.i64.wrap (1 + modI wk 6) = 1 + modI wk 6 := by rw [IntKind.wrap_i64]; omega
        have h2w : IntKind.i64.wrap (1 + modI zk 6) = 1 + modI zk 6 := by rw [IntKind.wrap_i64]; omega
        have mA := Lib.hid (fun (V : World) => md.out wk 6 (by decide) (by decide) V)
        have mB := Lib.hid (fun (V : World) => md.out zk 6 (by decide) (by decide) V)
        generalize modI wk 6 = n0 at *
        generalize modI zk 6 = n1 at *
        go_wp2_with fail
        refine (fun (main : (?G : Prop)) => ?body) ?pf
        case body =>
          refine wp_region_held_drew (S := fun _ => True) (by kernel_rfl) trivial (fun hHeld => ?_)
          refine takeH (i := 0) (v := ?_) rfl (by kernel_rfl) (by kernel_rfl) (by kernel_rfl) (fun _ _ _ h => h) (Or.inl ⟨by rfl, ?_⟩) (by assumption) ?_
          rotate_left 1
          · (intro w hSw; (try dsimp only at hSw); go_simp; try (with_reducible rfl))
          try simp only [Act.put, List.setIfInBounds_toArray, List.set_cons_zero, List.set_cons_succ]
          refine takeH (i := 4) (v := ?_) rfl (by kernel_rfl) (by kernel_rfl) (by kernel_rfl) (fun _ _ _ h => h) (Or.inl ⟨by rfl, ?_⟩) (by assumption) ?_
          rotate_left 1
          · (intro w hSw; (try dsimp only at hSw); go_simp; try (with_reducible rfl))
          try simp only [Act.put, List.setIfInBounds_toArray, List.set_cons_zero, List.set_cons_succ]
          refine wpAnyH_ready (rs := [1, 5]) (by kernel_rfl) (by simp) ?_
          refine consH rfl (fun K hK => ?_) (consH rfl (fun K hK => ?_) AllReadyH.nil)
          · go_simp
          
            refine hK.out _ _ trivial (fun hHeld2 => ?_)
            clear hK K hHeld
            have hHeld := hHeld2
            clear hHeld2
            try simp only [Act.put, List.setIfInBounds_toArray, List.set_cons_zero, List.set_cons_succ]
            refine wpAnyH_ready (rs := [2, 5]) (by kernel_rfl) (by simp) ?_
            refine consH rfl (fun K hK => ?_) (consH rfl (fun K hK => ?_) AllReadyH.nil)
            · go_simp
              refine (mA.out _).mono ?_
              rintro e v ⟨rfl, hv⟩
              rw [hv]
              clear hv
              refine hK.out _ _ trivial (fun hHeld2 => ?_)
              clear hK K hHeld
              have hHeld := hHeld2
              clear hHeld2
              try simp only [Act.put, List.setIfInBounds_toArray, List.set_cons_zero, List.set_cons_succ]
              refine takeH (i := 3) (v := ?_) rfl (by kernel_rfl) (by kernel_rfl) (by kernel_rfl) (fun _ _ _ h => h) (Or.inl ⟨by rfl, ?_⟩) (by assumption) ?_
              rotate_left 1
              · (intro w hSw; (try dsimp only at hSw); go_simp; try (with_reducible rfl))
              try simp only [Act.put, List.setIfInBounds_toArray, List.set_cons_zero, List.set_cons_succ]
              refine takeH (i := 8) (v := ?_) rfl (by kernel_rfl) (by kernel_rfl) (by kernel_rfl) (fun _ _ _ h => h) (Or.inl ⟨by rfl, ?_⟩) (by assumption) ?_
              rotate_left 1
              · (intro w hSw; (try dsimp only at hSw); go_simp; try (with_reducible rfl))
              try simp only [Act.put, List.setIfInBounds_toArray, List.set_cons_zero, List.set_cons_succ]
              refine wpAnyH_ready (rs := [5]) (by kernel_rfl) (by simp) ?_
              refine consH rfl (fun K hK => ?_) AllReadyH.nil
              go_simp
              
              refine hK.out _ _ trivial (fun hHeld2 => ?_)
              clear hK K hHeld
              have hHeld := hHeld2
              clear hHeld2
              try simp only [Act.put, List.setIfInBounds_toArray, List.set_cons_zero, List.set_cons_succ]
              refine wpAnyH_ready (rs := [6]) (by kernel_rfl) (by simp) ?_
              refine consH rfl (fun K hK => ?_) AllReadyH.nil
              go_simp
              refine (mB.out _).mono ?_
              rintro e v ⟨rfl, hv⟩
              rw [hv]
              clear hv
              refine hK.out _ _ trivial (fun hHeld2 => ?_)
              clear hK K hHeld
              have hHeld := hHeld2
              clear hHeld2
              try simp only [Act.put, List.setIfInBounds_toArray, List.set_cons_zero, List.set_cons_succ]
              refine takeH (i := 7) (v := ?_) rfl (by kernel_rfl) (by kernel_rfl) (by kernel_rfl) (fun _ _ _ h => h) (Or.inl ⟨by rfl, ?_⟩) (by assumption) ?_
              rotate_left 1
              · (intro w hSw; (try dsimp only at hSw); go_simp; try (with_reducible rfl))
              try simp only [Act.put, List.setIfInBounds_toArray, List.set_cons_zero, List.set_cons_succ]
              refine wpAnyH_ready (rs := [9]) (by kernel_rfl) (by simp) ?_
              refine consH rfl (fun K hK => ?_) AllReadyH.nil
              go_simp
              
              refine hK.out _ _ trivial (fun hHeld2 => ?_)
              clear hK K hHeld
              have hHeld := hHeld2
              clear hHeld2
              try simp only [Act.put, List.setIfInBounds_toArray, List.set_cons_zero, List.set_cons_succ]
              refine takeH (i := 10) (v := ?_) rfl (by kernel_rfl) (by kernel_rfl) (by kernel_rfl) (fun _ _ _ h => h) (Or.inl ⟨by rfl, ?_⟩) (by assumption) ?_
              rotate_left 1
              · (intro w hSw; (try dsimp only at hSw); go_simp; try (with_reducible rfl))
              try simp only [Act.put, List.setIfInBounds_toArray, List.set_cons_zero, List.set_cons_succ]
              refine wpAnyH_ready (rs := [11]) (by kernel_rfl) (by simp) ?_
              refine consH rfl (fun K hK => ?_) AllReadyH.nil
              go_simp
              
              refine hK.out _ _ trivial (fun hHeld2 => ?_)
              clear hK K hHeld
              have hHeld := hHeld2
              clear hHeld2
              try simp only [Act.put, List.setIfInBounds_toArray, List.set_cons_zero, List.set_cons_succ]
              refine wpAnyH_done (by kernel_rfl) ?_ _
              exact main
            · go_simp
            
              refine hK.out _ _ trivial (fun hHeld2 => ?_)
              clear hK K hHeld
              have hHeld := hHeld2
              clear hHeld2
              try simp only [Act.put, List.setIfInBounds_toArray, List.set_cons_zero, List.set_cons_succ]
              refine wpAnyH_ready (rs := [2]) (by kernel_rfl) (by simp) ?_
              refine consH rfl (fun K hK => ?_) AllReadyH.nil
              go_simp
              refine (mA.out _).mono ?_
              rintro e v ⟨rfl, hv⟩
              rw [hv]
              clear hv
              refine hK.out _ _ trivial (fun hHeld2 => ?_)
              clear hK K hHeld
              have hHeld := hHeld2
              clear hHeld2
              try simp only [Act.put, List.setIfInBounds_toArray, List.set_cons_zero, List.set_cons_succ]
              refine takeH (i := 3) (v := ?_) rfl (by kernel_rfl) (by kernel_rfl) (by kernel_rfl) (fun _ _ _ h => h) (Or.inl ⟨by rfl, ?_⟩) (by assumption) ?_
              rotate_left 1
              · (intro w hSw; (try dsimp only at hSw); go_simp; try (with_reducible rfl))
              try simp only [Act.put, List.setIfInBounds_toArray, List.set_cons_zero, List.set_cons_succ]
              refine takeH (i := 8) (v := ?_) rfl (by kernel_rfl) (by kernel_rfl) (by kernel_rfl) (fun _ _ _ h => h) (Or.inl ⟨by rfl, ?_⟩) (by assumption) ?_
              rotate_left 1
              · (intro w hSw; (try dsimp only at hSw); go_simp; try (with_reducible rfl))
              try simp only [Act.put, List.setIfInBounds_toArray, List.set_cons_zero, List.set_cons_succ]
              refine wpAnyH_ready (rs := [6]) (by kernel_rfl) (by simp) ?_
              refine consH rfl (fun K hK => ?_) AllReadyH.nil
              go_simp
              refine (mB.out _).mono ?_
              rintro e v ⟨rfl, hv⟩
              rw [hv]
              clear hv
              refine hK.out _ _ trivial (fun hHeld2 => ?_)
              clear hK K hHeld
              have hHeld := hHeld2
              clear hHeld2
              try simp only [Act.put, List.setIfInBounds_toArray, List.set_cons_zero, List.set_cons_succ]
              refine takeH (i := 7) (v := ?_) rfl (by kernel_rfl) (by kernel_rfl) (by kernel_rfl) (fun _ _ _ h => h) (Or.inl ⟨by rfl, ?_⟩) (by assumption) ?_
              rotate_left 1
              · (intro w hSw; (try dsimp only at hSw); go_simp; try (with_reducible rfl))
              try simp only [Act.put, List.setIfInBounds_toArray, List.set_cons_zero, List.set_cons_succ]
              refine wpAnyH_ready (rs := [9]) (by kernel_rfl) (by simp) ?_
              refine consH rfl (fun K hK => ?_) AllReadyH.nil
              go_simp
              
              refine hK.out _ _ trivial (fun hHeld2 => ?_)
              clear hK K hHeld
              have hHeld := hHeld2
              clear hHeld2
              try simp only [Act.put, List.setIfInBounds_toArray, List.set_cons_zero, List.set_cons_succ]
              refine takeH (i := 10) (v := ?_) rfl (by kernel_rfl) (by kernel_rfl) (by kernel_rfl) (fun _ _ _ h => h) (Or.inl ⟨by rfl, ?_⟩) (by assumption) ?_
              rotate_left 1
              · (intro w hSw; (try dsimp only at hSw); go_simp; try (with_reducible rfl))
              try simp only [Act.put, List.setIfInBounds_toArray, List.set_cons_zero, List.set_cons_succ]
              refine wpAnyH_ready (rs := [11]) (by kernel_rfl) (by simp) ?_
              refine consH rfl (fun K hK => ?_) AllReadyH.nil
              go_simp
              
              refine hK.out _ _ trivial (fun hHeld2 => ?_)
              clear hK K hHeld
              have hHeld := hHeld2
              clear hHeld2
              try simp only [Act.put, List.setIfInBounds_toArray, List.set_cons_zero, List.set_cons_succ]
              refine wpAnyH_done (by kernel_rfl) ?_ _
              exact main
          · go_simp
          
            refine hK.out _ _ trivial (fun hHeld2 => ?_)
            clear hK K hHeld
            have hHeld := hHeld2
            clear hHeld2
            try simp only [Act.put, List.setIfInBounds_toArray, List.set_cons_zero, List.set_cons_succ]
            refine wpAnyH_ready (rs := [1]) (by kernel_rfl) (by simp) ?_
            refine consH rfl (fun K hK => ?_) AllReadyH.nil
            go_simp
            
            refine hK.out _ _ trivial (fun hHeld2 => ?_)
            clear hK K hHeld
            have hHeld := hHeld2
            clear hHeld2
            try simp only [Act.put, List.setIfInBounds_toArray, List.set_cons_zero, List.set_cons_succ]
            refine wpAnyH_ready (rs := [2]) (by kernel_rfl) (by simp) ?_
            refine consH rfl (fun K hK => ?_) AllReadyH.nil
            go_simp
            refine (mA.out _).mono ?_
            rintro e v ⟨rfl, hv⟩
            rw [hv]
            clear hv
            refine hK.out _ _ trivial (fun hHeld2 => ?_)
            clear hK K hHeld
            have hHeld := hHeld2
            clear hHeld2
            try simp only [Act.put, List.setIfInBounds_toArray, List.set_cons_zero, List.set_cons_succ]
            refine takeH (i := 3) (v := ?_) rfl (by kernel_rfl) (by kernel_rfl) (by kernel_rfl) (fun _ _ _ h => h) (Or.inl ⟨by rfl, ?_⟩) (by assumption) ?_
            rotate_left 1
            · (intro w hSw; (try dsimp only at hSw); go_simp; try (with_reducible rfl))
            try simp only [Act.put, List.setIfInBounds_toArray, List.set_cons_zero, List.set_cons_succ]
            refine takeH (i := 8) (v := ?_) rfl (by kernel_rfl) (by kernel_rfl) (by kernel_rfl) (fun _ _ _ h => h) (Or.inl ⟨by rfl, ?_⟩) (by assumption) ?_
            rotate_left 1
            · (intro w hSw; (try dsimp only at hSw); go_simp; try (with_reducible rfl))
            try simp only [Act.put, List.setIfInBounds_toArray, List.set_cons_zero, List.set_cons_succ]
            refine wpAnyH_ready (rs := [6]) (by kernel_rfl) (by simp) ?_
            refine consH rfl (fun K hK => ?_) AllReadyH.nil
            go_simp
            refine (mB.out _).mono ?_
            rintro e v ⟨rfl, hv⟩
            rw [hv]
            clear hv
            refine hK.out _ _ trivial (fun hHeld2 => ?_)
            clear hK K hHeld
            have hHeld := hHeld2
            clear hHeld2
            try simp only [Act.put, List.setIfInBounds_toArray, List.set_cons_zero, List.set_cons_succ]
            refine takeH (i := 7) (v := ?_) rfl (by kernel_rfl) (by kernel_rfl) (by kernel_rfl) (fun _ _ _ h => h) (Or.inl ⟨by rfl, ?_⟩) (by assumption) ?_
            rotate_left 1
            · (intro w hSw; (try dsimp only at hSw); go_simp; try (with_reducible rfl))
            try simp only [Act.put, List.setIfInBounds_toArray, List.set_cons_zero, List.set_cons_succ]
            refine wpAnyH_ready (rs := [9]) (by kernel_rfl) (by simp) ?_
            refine consH rfl (fun K hK => ?_) AllReadyH.nil
            go_simp
            
            refine hK.out _ _ trivial (fun hHeld2 => ?_)
            clear hK K hHeld
            have hHeld := hHeld2
            clear hHeld2
            try simp only [Act.put, List.setIfInBounds_toArray, List.set_cons_zero, List.set_cons_succ]
            refine takeH (i := 10) (v := ?_) rfl (by kernel_rfl) (by kernel_rfl) (by kernel_rfl) (fun _ _ _ h => h) (Or.inl ⟨by rfl, ?_⟩) (by assumption) ?_
            rotate_left 1
            · (intro w hSw; (try dsimp only at hSw); go_simp; try (with_reducible rfl))
            try simp only [Act.put, List.setIfInBounds_toArray, List.set_cons_zero, List.set_cons_succ]
            refine wpAnyH_ready (rs := [11]) (by kernel_rfl) (by simp) ?_
            refine consH rfl (fun K hK => ?_) AllReadyH.nil
            go_simp
            
            refine hK.out _ _ trivial (fun hHeld2 => ?_)
            clear hK K hHeld
            have hHeld := hHeld2
            clear hHeld2
            try simp only [Act.put, List.setIfInBounds_toArray, List.set_cons_zero, List.set_cons_succ]
            refine wpAnyH_done (by kernel_rfl) ?_ _
            exact main
        case pf =>
          obtain ⟨k0, hk0⟩ : ∃ k0, 1 + n0 = k0 := ⟨_, rfl⟩
          obtain ⟨k1', hk1⟩ : ∃ k1, 1 + n1 = k1 := ⟨_, rfl⟩
          have r0 : 1 ≤ k0 ∧ k0 ≤ 6 := by omega
          have r1 : 1 ≤ k1' ∧ k1' ≤ 6 := by omega
          rw [hk0, hk1]
          have neA : ∀ c, c ≠ 1 → ((U0.setCell ⟨gw, 1, none⟩ (.int .i64 k0)).setCell ⟨gz, 1, none⟩ (.int .i64 k1')).drew.cell? ⟨gw, c, none⟩ = U0.cell? ⟨gw, c, none⟩ := fun c hc => (World.cell?_setCell_other _ _ _ _ (by intro e9; injection e9 with e9; omega)).trans (World.cell?_setCell_other _ _ _ _ (by intro e9; injection e9 with _ e9; omega))
          have neB : ∀ c, c ≠ 1 → ((U0.setCell ⟨gw, 1, none⟩ (.int .i64 k0)).setCell ⟨gz, 1, none⟩ (.int .i64 k1')).drew.cell? ⟨gz, c, none⟩ = U0.cell? ⟨gz, c, none⟩ := fun c hc => (World.cell?_setCell_other _ _ _ _ (by intro e9; injection e9 with _ e9; omega)).trans (World.cell?_setCell_other _ _ _ _ (by intro e9; injection e9 with e9; omega))
          have u0 := (neA 0 (by decide)).trans m0
          have u2 := (neA 2 (by decide)).trans m2'
          have u3 := (neA 3 (by decide)).trans m3
          have u4 := (neA 4 (by decide)).trans m4
          have v0 := (neB 0 (by decide)).trans d0
          have v2 := (neB 2 (by decide)).trans d2
          have v3 := (neB 3 (by decide)).trans d3
          have v4 := (neB 4 (by decide)).trans d4
          have u1 : ((U0.setCell ⟨gw, 1, none⟩ (.int .i64 k0)).setCell ⟨gz, 1, none⟩ (.int .i64 k1')).drew.cell? ⟨gw, 1, none⟩ = some (.int .i64 k0) := (World.cell?_setCell_other (U0.setCell ⟨gw, 1, none⟩ (.int .i64 k0)) _ _ _ (by intro e9; injection e9 with e9; omega)).trans (World.cell?_setCell_same' _ _ _ (by rw [m1']; rfl))
          have v1 : ((U0.setCell ⟨gw, 1, none⟩ (.int .i64 k0)).setCell ⟨gz, 1, none⟩ (.int .i64 k1')).drew.cell? ⟨gz, 1, none⟩ = some (.int .i64 k1') := World.cell?_setCell_same' (U0.setCell ⟨gw, 1, none⟩ (.int .i64 k0)) _ _ (by rw [World.cell?_setCell_other _ _ _ _ (by intro e9; injection e9 with e9; omega), d1]; rfl)
          have HU : Hid (Only [] wr ((U0.setCell ⟨gw, 1, none⟩ (.int .i64 k0)).setCell ⟨gz, 1, none⟩ (.int .i64 k1')).drew) := ((OU.out.setCell (.inr gwle.out) _).setCell (.inr gzle.out) _).drew
          clear neA neB m0 m1' m2' m3 m4 d0 d1 d2 d3 d4 gw1 gz1 mA mB h1w h2w hk0 hk1 q1 q2
          generalize ((U0.setCell ⟨gw, 1, none⟩ (.int .i64 k0)).setCell ⟨gz, 1, none⟩ (.int .i64 k1')).drew = U at *
          have HWz : Hid (∀ V, Only [] U V → V.cell? ⟨gw, 0, none⟩ = some (.int .i64 ww) ∧ V.cell? ⟨gw, 1, none⟩ = some (.int .i64 k0) ∧ V.cell? ⟨gw, 2, none⟩ = some (.int .i64 zl) ∧ V.cell? ⟨gw, 3, none⟩ = some (.int .i64 za) ∧ V.cell? ⟨gw, 4, none⟩ = some (.int .i64 zb) ∧ V.cell? ⟨gz, 0, none⟩ = some (.int .i64 zw) ∧ V.cell? ⟨gz, 1, none⟩ = some (.int .i64 k1') ∧ V.cell? ⟨gz, 2, none⟩ = some (.int .i64 zl) ∧ V.cell? ⟨gz, 3, none⟩ = some (.int .i64 za) ∧ V.cell? ⟨gz, 4, none⟩ = some (.int .i64 zb)) := fun V o => by
            have kp : ∀ (q : Addr) (v : Value), U.cell? q = some v → V.cell? q = some v := fun q v h => (o.cell (World.block_lt_of_cell? _ _ h) (by simp)).trans h
            exact ⟨kp _ _ u0, kp _ _ u1, kp _ _ u2, kp _ _ u3, kp _ _ u4, kp _ _ v0, kp _ _ v1, kp _ _ v2, kp _ _ v3, kp _ _ v4⟩
          have cf := Lib.hid (fun (V : World) => cConf ⟨ww, k0, ⟨zl, za, zb⟩⟩ ⟨zw, k1', ⟨zl, za, zb⟩⟩ V)
          have rf := Lib.hid (fun (V : World) => rConf ⟨ww, k0, ⟨zl, za, zb⟩⟩ ⟨zw, k1', ⟨zl, za, zb⟩⟩ r0 r1 V)
          dsimp only at cf rf
          generalize confB ⟨ww, k0, ⟨zl, za, zb⟩⟩ ⟨zw, k1', ⟨zl, za, zb⟩⟩ = cb at *
          have f4 : (cb == cb) = true := by simp
          have st : Hid (Only [] U U.drew) := (Only.refl [] U).drew
          clear u0 u1 u2 u3 u4 v0 v1 v2 v3 v4
          go_wp2_with fail
          refine wp_region_held_drew (S := (fun V => V.cell? ⟨gw, 0, none⟩ = some (.int .i64 ww) ∧ V.cell? ⟨gw, 1, none⟩ = some (.int .i64 k0) ∧ V.cell? ⟨gw, 2, none⟩ = some (.int .i64 zl) ∧ V.cell? ⟨gw, 3, none⟩ = some (.int .i64 za) ∧ V.cell? ⟨gw, 4, none⟩ = some (.int .i64 zb) ∧ V.cell? ⟨gz, 0, none⟩ = some (.int .i64 zw) ∧ V.cell? ⟨gz, 1, none⟩ = some (.int .i64 k1') ∧ V.cell? ⟨gz, 2, none⟩ = some (.int .i64 zl) ∧ V.cell? ⟨gz, 3, none⟩ = some (.int .i64 za) ∧ V.cell? ⟨gz, 4, none⟩ = some (.int .i64 zb))) (by kernel_rfl) (HWz.out _ st.out) (fun hHeld => ?_)
          refine wpAnyH_ready (rs := [0]) (by kernel_rfl) (by simp) ?_
          refine consH rfl (fun K hK => ?_) AllReadyH.nil
          go_simp
          refine (lAwake _).mono ?_
          rintro e V ⟨rfl, o⟩
          have st := Lib.hid (st.out.trans' o)
          
          clear o
          refine hK.out _ _ (HWz.out _ st.out) (fun hHeld2 => ?_)
          clear hK K hHeld
          have hHeld := hHeld2
          clear hHeld2
          try simp only [Act.put, List.setIfInBounds_toArray, List.set_cons_zero, List.set_cons_succ]
          refine takeH (i := 1) (v := ?_) rfl (by kernel_rfl) (by kernel_rfl) (by kernel_rfl) (fun _ _ _ h => h) (Or.inl ⟨by rfl, ?_⟩) (by assumption) ?_
          rotate_left 1
          · (intro w hSw; (try dsimp only at hSw); go_simp; try (with_reducible rfl))
          try simp only [Act.put, List.setIfInBounds_toArray, List.set_cons_zero, List.set_cons_succ]
          refine takeH (i := 2) (v := ?_) rfl (by kernel_rfl) (by kernel_rfl) (by kernel_rfl) (fun _ _ _ h => h) (Or.inl ⟨by rfl, ?_⟩) (by assumption) ?_
          rotate_left 1
          · (intro w hSw; (try dsimp only at hSw); go_simp; try (with_reducible rfl))
          try simp only [Act.put, List.setIfInBounds_toArray, List.set_cons_zero, List.set_cons_succ]
          refine takeH (i := 4) (v := ?_) rfl (by kernel_rfl) (by kernel_rfl) (by kernel_rfl) (fun _ _ _ h => h) (Or.inl ⟨by rfl, ?_⟩) (by assumption) ?_
          rotate_left 1
          · (intro w hSw; (try dsimp only at hSw); go_simp; try (with_reducible rfl))
          try simp only [Act.put, List.setIfInBounds_toArray, List.set_cons_zero, List.set_cons_succ]
          refine wpAnyH_ready (rs := [3]) (by kernel_rfl) (by simp) ?_
          refine consH rfl (fun K hK => ?_) AllReadyH.nil
          go_simp
          refine (k3.out _ (HU.out.trans' st.out)).mono ?_
          rintro e V ⟨rfl, o⟩
          have st := Lib.hid (st.out.trans' o)
          
          clear o
          refine hK.out _ _ (HWz.out _ st.out) (fun hHeld2 => ?_)
          clear hK K hHeld
          have hHeld := hHeld2
          clear hHeld2
          try simp only [Act.put, List.setIfInBounds_toArray, List.set_cons_zero, List.set_cons_succ]
          refine wpAnyH_ready (rs := [5]) (by kernel_rfl) (by simp) ?_
          refine consH rfl (fun K hK => ?_) AllReadyH.nil
          go_simp
          refine (k4.out _ (HU.out.trans' st.out)).mono ?_
          rintro e V ⟨rfl, o⟩
          have st := Lib.hid (st.out.trans' o)
          
          clear o
          refine hK.out _ _ (HWz.out _ st.out) (fun hHeld2 => ?_)
          clear hK K hHeld
          have hHeld := hHeld2
          clear hHeld2
          try simp only [Act.put, List.setIfInBounds_toArray, List.set_cons_zero, List.set_cons_succ]
          refine takeH (i := 6) (v := ?_) rfl (by kernel_rfl) (by kernel_rfl) (by kernel_rfl) (fun _ _ _ h => h) (Or.inl ⟨by rfl, ?_⟩) (by assumption) ?_
          rotate_left 1
          · (intro w hSw; (try dsimp only at hSw); go_simp; try (with_reducible rfl))
          try simp only [Act.put, List.setIfInBounds_toArray, List.set_cons_zero, List.set_cons_succ]
          refine takeH (i := 7) (v := ?_) rfl (by kernel_rfl) (by kernel_rfl) (by kernel_rfl) (fun _ _ _ h => h) (Or.inl ⟨by rfl, ?_⟩) (by assumption) ?_
          rotate_left 1
          · (intro w hSw; (try dsimp only at hSw); go_simp; try (with_reducible rfl))
          try simp only [Act.put, List.setIfInBounds_toArray, List.set_cons_zero, List.set_cons_succ]
          refine takeH (i := 8) (v := ?_) rfl (by kernel_rfl) (by kernel_rfl) (by kernel_rfl) (fun _ _ _ h => h) (Or.inl ⟨by rfl, ?_⟩) (by assumption) ?_
          rotate_left 1
          · (intro w hSw; (try dsimp only at hSw); go_simp; try (with_reducible rfl))
          try simp only [Act.put, List.setIfInBounds_toArray, List.set_cons_zero, List.set_cons_succ]
          refine takeH (i := 9) (v := ?_) rfl (by kernel_rfl) (by kernel_rfl) (by kernel_rfl) (fun _ _ _ h => h) (Or.inl ⟨by rfl, ?_⟩) (by assumption) ?_
          rotate_left 1
          · (intro w hSw; (try dsimp only at hSw); go_simp; try (with_reducible rfl))
          try simp only [Act.put, List.setIfInBounds_toArray, List.set_cons_zero, List.set_cons_succ]
          refine takeH (i := 11) (v := ?_) rfl (by kernel_rfl) (by kernel_rfl) (by kernel_rfl) (fun _ _ _ h => h) (Or.inl ⟨by rfl, ?_⟩) (by assumption) ?_
          rotate_left 1
          · (intro w hSw; (try dsimp only at hSw); go_simp; try (with_reducible rfl))
          try simp only [Act.put, List.setIfInBounds_toArray, List.set_cons_zero, List.set_cons_succ]
          refine wpAnyH_ready (rs := [10]) (by kernel_rfl) (by simp) ?_
          refine consH rfl (fun K hK => ?_) AllReadyH.nil
          go_simp
          refine (k5.out _ (HU.out.trans' st.out)).mono ?_
          rintro e V ⟨A7, c7, rfl, r7, o⟩
          have st := Lib.hid (st.out.trans' o)
          have R7 := Lib.hid r7
          clear r7
          clear o
          refine hK.out _ _ (HWz.out _ st.out) (fun hHeld2 => ?_)
          clear hK K hHeld
          have hHeld := hHeld2
          clear hHeld2
          try simp only [Act.put, List.setIfInBounds_toArray, List.set_cons_zero, List.set_cons_succ]
          refine wpAnyH_ready (rs := [12]) (by kernel_rfl) (by simp) ?_
          refine consH rfl (fun K hK => ?_) AllReadyH.nil
          go_simp
          refine (k6.out _ (HU.out.trans' st.out)).mono ?_
          rintro e V ⟨A8, c8, rfl, r8, o⟩
          have st := Lib.hid (st.out.trans' o)
          have R7 := Lib.hid (R7.out.only0 o)
          have R8 := Lib.hid r8
          clear r8
          clear o
          refine hK.out _ _ (HWz.out _ st.out) (fun hHeld2 => ?_)
          clear hK K hHeld
          have hHeld := hHeld2
          clear hHeld2
          try simp only [Act.put, List.setIfInBounds_toArray, List.set_cons_zero, List.set_cons_succ]
          refine wpAnyH_ready (rs := [13]) (by kernel_rfl) (by simp) ?_
          refine consH rfl (fun K hK => ?_) AllReadyH.nil
          go_simp
          refine (hClocks _ A7 A8 M c7 c8 (clk (evs xs)) hn.out R7.out R8.out).mono ?_
          rintro e V ⟨rfl, o⟩
          have st := Lib.hid (st.out.trans' o)
          
          clear o
          refine hK.out _ _ (HWz.out _ st.out) (fun hHeld2 => ?_)
          clear hK K hHeld
          have hHeld := hHeld2
          clear hHeld2
          try simp only [Act.put, List.setIfInBounds_toArray, List.set_cons_zero, List.set_cons_succ]
          refine takeH (i := 14) (v := ?_) rfl (by kernel_rfl) (by kernel_rfl) (by kernel_rfl) (fun _ _ _ h => h) (Or.inl ⟨by rfl, ?_⟩) (by assumption) ?_
          rotate_left 1
          · (intro w hSw; (try dsimp only at hSw); go_simp; try (with_reducible rfl))
          try simp only [Act.put, List.setIfInBounds_toArray, List.set_cons_zero, List.set_cons_succ]
          refine takeH (i := 15) (v := ?_) rfl (by kernel_rfl) (by kernel_rfl) (by kernel_rfl) (fun _ _ _ h => h) (Or.inl ⟨by rfl, ?_⟩) (by assumption) ?_
          rotate_left 1
          · (intro w hSw; (try dsimp only at hSw); go_simp; try (with_reducible rfl))
          try simp only [Act.put, List.setIfInBounds_toArray, List.set_cons_zero, List.set_cons_succ]
          refine takeH (i := 16) (v := ?_) rfl (by kernel_rfl) (by kernel_rfl) (by kernel_rfl) (fun _ _ _ h => h) (Or.inl ⟨by rfl, ?_⟩) (by assumption) ?_
          rotate_left 1
          · (intro w hSw; (try dsimp only at hSw); go_simp; try (with_reducible rfl))
          try simp only [Act.put, List.setIfInBounds_toArray, List.set_cons_zero, List.set_cons_succ]
          refine takeH (i := 17) (v := ?_) rfl (by kernel_rfl) (by kernel_rfl) (by kernel_rfl) (fun _ _ _ h => h) (Or.inl ⟨by rfl, ?_⟩) (by assumption) ?_
          rotate_left 1
          · (intro w hSw; (try dsimp only at hSw); go_simp; try (with_reducible rfl))
          try simp only [Act.put, List.setIfInBounds_toArray, List.set_cons_zero, List.set_cons_succ]
          refine takeH (i := 18) (v := ?_) rfl (by kernel_rfl) (by kernel_rfl) (by kernel_rfl) (fun _ _ _ h => h) (Or.inl ⟨by rfl, ?_⟩) (by assumption) ?_
          rotate_left 1
          · (intro w hSw; (try dsimp only at hSw); go_simp; try (with_reducible rfl))
          try simp only [Act.put, List.setIfInBounds_toArray, List.set_cons_zero, List.set_cons_succ]
          refine takeH (i := 19) (v := ?_) rfl (by kernel_rfl) (by kernel_rfl) (by kernel_rfl) (fun _ _ _ h => h) (Or.inl ⟨by rfl, ?_⟩) (by assumption) ?_
          rotate_left 1
          · (intro w hSw; (try dsimp only at hSw); go_simp; try (with_reducible rfl))
          try simp only [Act.put, List.setIfInBounds_toArray, List.set_cons_zero, List.set_cons_succ]
          refine takeH (i := 20) (v := ?_) rfl (by kernel_rfl) (by kernel_rfl) (by kernel_rfl) (fun _ _ _ h => h) (Or.inl ⟨by rfl, ?_⟩) (by assumption) ?_
          rotate_left 1
          · (intro w hSw; (try dsimp only at hSw); go_simp; try (with_reducible rfl))
          try simp only [Act.put, List.setIfInBounds_toArray, List.set_cons_zero, List.set_cons_succ]
          refine takeH (i := 21) (v := ?_) rfl (by kernel_rfl) (by kernel_rfl) (by kernel_rfl) (fun _ _ _ h => h) (Or.inl ⟨by rfl, ?_⟩) (by assumption) ?_
          rotate_left 1
          · (intro w hSw; (try dsimp only at hSw); go_simp; try (with_reducible rfl))
          try simp only [Act.put, List.setIfInBounds_toArray, List.set_cons_zero, List.set_cons_succ]
          refine takeH (i := 22) (v := ?_) rfl (by kernel_rfl) (by kernel_rfl) (by kernel_rfl) (fun _ _ _ h => h) (Or.inl ⟨by rfl, ?_⟩) (by assumption) ?_
          rotate_left 1
          · (intro w hSw; (try dsimp only at hSw); go_simp; try (with_reducible rfl))
          try simp only [Act.put, List.setIfInBounds_toArray, List.set_cons_zero, List.set_cons_succ]
          refine takeH (i := 23) (v := ?_) rfl (by kernel_rfl) (by kernel_rfl) (by kernel_rfl) (fun _ _ _ h => h) (Or.inl ⟨by rfl, ?_⟩) (by assumption) ?_
          rotate_left 1
          · (intro w hSw; (try dsimp only at hSw); go_simp; try (with_reducible rfl))
          try simp only [Act.put, List.setIfInBounds_toArray, List.set_cons_zero, List.set_cons_succ]
          refine takeH (i := 24) (v := ?_) rfl (by kernel_rfl) (by kernel_rfl) (by kernel_rfl) (fun _ _ _ h => h) (Or.inl ⟨by rfl, ?_⟩) (by assumption) ?_
          rotate_left 1
          · (intro w hSw; (try dsimp only at hSw); go_simp; try (with_reducible rfl))
          try simp only [Act.put, List.setIfInBounds_toArray, List.set_cons_zero, List.set_cons_succ]
          refine takeH (i := 25) (v := ?_) rfl (by kernel_rfl) (by kernel_rfl) (by kernel_rfl) (fun _ _ _ h => h) (Or.inl ⟨by rfl, ?_⟩) (by assumption) ?_
          rotate_left 1
          · (intro w hSw; (try dsimp only at hSw); go_simp; try (with_reducible rfl))
          try simp only [Act.put, List.setIfInBounds_toArray, List.set_cons_zero, List.set_cons_succ]
          refine takeH (i := 26) (v := ?_) rfl (by kernel_rfl) (by kernel_rfl) (by kernel_rfl) (fun _ _ _ h => h) (Or.inl ⟨by rfl, ?_⟩) (by assumption) ?_
          rotate_left 1
          · (intro w hSw; (try dsimp only at hSw); go_simp; try (with_reducible rfl))
          try simp only [Act.put, List.setIfInBounds_toArray, List.set_cons_zero, List.set_cons_succ]
          refine takeH (i := 27) (v := ?_) rfl (by kernel_rfl) (by kernel_rfl) (by kernel_rfl) (fun _ _ _ h => h) (Or.inl ⟨by rfl, ?_⟩) (by assumption) ?_
          rotate_left 1
          · (intro w hSw; (try dsimp only at hSw); go_simp; try (with_reducible rfl))
          try simp only [Act.put, List.setIfInBounds_toArray, List.set_cons_zero, List.set_cons_succ]
          refine takeH (i := 28) (v := ?_) rfl (by kernel_rfl) (by kernel_rfl) (by kernel_rfl) (fun _ _ _ h => h) (Or.inl ⟨by rfl, ?_⟩) (by assumption) ?_
          rotate_left 1
          · (intro w hSw; (try dsimp only at hSw); go_simp; try (with_reducible rfl))
          try simp only [Act.put, List.setIfInBounds_toArray, List.set_cons_zero, List.set_cons_succ]
          refine takeH (i := 29) (v := ?_) rfl (by kernel_rfl) (by kernel_rfl) (by kernel_rfl) (fun _ _ _ h => h) (Or.inl ⟨by rfl, ?_⟩) (by assumption) ?_
          rotate_left 1
          · (intro w hSw; (try dsimp only at hSw); go_simp; try (with_reducible rfl))
          try simp only [Act.put, List.setIfInBounds_toArray, List.set_cons_zero, List.set_cons_succ]
          refine takeH (i := 30) (v := ?_) rfl (by kernel_rfl) (by kernel_rfl) (by kernel_rfl) (fun _ _ _ h => h) (Or.inl ⟨by rfl, ?_⟩) (by assumption) ?_
          rotate_left 1
          · (intro w hSw; (try dsimp only at hSw); go_simp; try (with_reducible rfl))
          try simp only [Act.put, List.setIfInBounds_toArray, List.set_cons_zero, List.set_cons_succ]
          refine takeH (i := 31) (v := ?_) rfl (by kernel_rfl) (by kernel_rfl) (by kernel_rfl) (fun _ _ _ h => h) (Or.inl ⟨by rfl, ?_⟩) (by assumption) ?_
          rotate_left 1
          · (intro w hSw; (try dsimp only at hSw); go_simp; try (with_reducible rfl))
          try simp only [Act.put, List.setIfInBounds_toArray, List.set_cons_zero, List.set_cons_succ]
          refine takeH (i := 32) (v := ?_) rfl (by kernel_rfl) (by kernel_rfl) (by kernel_rfl) (fun _ _ _ h => h) (Or.inl ⟨by rfl, ?_⟩) (by assumption) ?_
          rotate_left 1
          · (intro w hSw; (try dsimp only at hSw); go_simp; try (with_reducible rfl))
          try simp only [Act.put, List.setIfInBounds_toArray, List.set_cons_zero, List.set_cons_succ]
          refine takeH (i := 34) (v := ?_) rfl (by kernel_rfl) (by kernel_rfl) (by kernel_rfl) (fun _ _ _ h => h) (Or.inl ⟨by rfl, ?_⟩) (by assumption) ?_
          rotate_left 1
          · (intro w hSw; (try dsimp only at hSw); go_simp; try (with_reducible rfl))
          try simp only [Act.put, List.setIfInBounds_toArray, List.set_cons_zero, List.set_cons_succ]
          refine takeH (i := 35) (v := ?_) rfl (by kernel_rfl) (by kernel_rfl) (by kernel_rfl) (fun _ _ _ h => h) (Or.inl ⟨by rfl, ?_⟩) (by assumption) ?_
          rotate_left 1
          · (intro w hSw; (try dsimp only at hSw); go_simp; try (with_reducible rfl))
          try simp only [Act.put, List.setIfInBounds_toArray, List.set_cons_zero, List.set_cons_succ]
          refine wpAnyH_ready (rs := [33]) (by kernel_rfl) (by simp) ?_
          refine consH rfl (fun K hK => ?_) AllReadyH.nil
          go_simp
          refine (cf.out _).mono ?_
          rintro e V ⟨rfl, o⟩
          have st := Lib.hid (st.out.trans' o)
          
          clear o
          refine hK.out _ _ (HWz.out _ st.out) (fun hHeld2 => ?_)
          clear hK K hHeld
          have hHeld := hHeld2
          clear hHeld2
          try simp only [Act.put, List.setIfInBounds_toArray, List.set_cons_zero, List.set_cons_succ]
          refine wpAnyH_ready (rs := [36]) (by kernel_rfl) (by simp) ?_
          refine consH rfl (fun K hK => ?_) AllReadyH.nil
          go_simp
          refine (rf.out _).mono ?_
          rintro e V ⟨rfl, o⟩
          have st := Lib.hid (st.out.trans' o)
          
          clear o
          refine hK.out _ _ (HWz.out _ st.out) (fun hHeld2 => ?_)
          clear hK K hHeld
          have hHeld := hHeld2
          clear hHeld2
          try simp only [Act.put, List.setIfInBounds_toArray, List.set_cons_zero, List.set_cons_succ]
          refine takeH (i := 37) (v := ?_) rfl (by kernel_rfl) (by kernel_rfl) (by kernel_rfl) (fun _ _ _ h => h) (Or.inl ⟨by rfl, ?_⟩) (by assumption) ?_
          rotate_left 1
          · (intro w hSw; (try dsimp only at hSw); go_simp; try (with_reducible rfl))
          try simp only [Act.put, List.setIfInBounds_toArray, List.set_cons_zero, List.set_cons_succ]
          refine takeH (i := 38) (v := ?_) rfl (by kernel_rfl) (by kernel_rfl) (by kernel_rfl) (fun _ _ _ h => h) (Or.inl ⟨by rfl, ?_⟩) (by assumption) ?_
          rotate_left 1
          · (intro w hSw; (try dsimp only at hSw); go_simp; try (with_reducible rfl))
          try simp only [Act.put, List.setIfInBounds_toArray, List.set_cons_zero, List.set_cons_succ]
          refine takeH (i := 39) (v := ?_) rfl (by kernel_rfl) (by kernel_rfl) (by kernel_rfl) (fun _ _ _ h => h) (Or.inl ⟨by rfl, ?_⟩) (by assumption) ?_
          rotate_left 1
          · (intro w hSw; (try dsimp only at hSw); go_simp; try (with_reducible rfl))
          try simp only [Act.put, List.setIfInBounds_toArray, List.set_cons_zero, List.set_cons_succ]
          refine wpAnyH_done (by kernel_rfl) ?_ _
          go_wp2_with fail
          go_ret
          exact ⟨by simp, ((OB.out.trans' R.out.only).trans' (HU.out.trans' st.out)).below (Nat.le_refl _) (by simp)⟩
      · have h11 := decide_eq_false h10
        go_wp2_with fail
        refine (k1.out _ O.out).mono ?_
        rintro e V ⟨rfl, o⟩
        have O := Lib.hid (O.out.trans' o)
        clear o k1
        go_wp2_with fail
        refine (k2.out _ O.out).mono ?_
        rintro e V ⟨rfl, o⟩
        have O := Lib.hid (O.out.trans' o)
        clear o k2
        obtain ⟨i0, i1, i2, i3, i4⟩ := HX.out V (R.out.only.trans' O.out)
        obtain ⟨j0, j1, j2, j3, j4⟩ := HY.out V (R.out.only.trans' O.out)
        simp only [Nat.zero_add] at i0 i1 i2 i3 i4 j0 j1 j2 j3 j4
        go_wp2_with fail
        refine (nY.out _).mono ?_
        rintro e V1 ⟨⟨zw, zk, zl, za, zb⟩, rfl, _, o⟩
        clear i0 i1 i2 i3 i4 j0 j1 j2 j3 j4
        have O := Lib.hid (O.out.trans' o)
        clear o nY
        dsimp only
        have hz := heap_alloc_new V1 (.cells #[.int .i64 zw, .int .i64 zk, .int .i64 zl, .int .i64 za, .int .i64 zb] 36)
        have OZ : Hid (Only [] wr (V1.alloc (.cells #[.int .i64 zw, .int .i64 zk, .int .i64 zl, .int .i64 za, .int .i64 zb] 36))) := O.out.alloc _
        have gzle : Hid (wr.heap.size ≤ V1.heap.size) := O.out.size
        go_upto_region 9 with fail
        generalize V1.alloc (.cells #[.int .i64 zw, .int .i64 zk, .int .i64 zl, .int .i64 za, .int .i64 zb] 36) = Z0 at *
        generalize V1.heap.size = gz at *
        clear O
        have O := OZ
        clear OZ
        obtain ⟨i0, i1, i2, i3, i4⟩ := HX.out Z0 (R.out.only.trans' O.out)
        obtain ⟨j0, j1, j2, j3, j4⟩ := HY.out Z0 (R.out.only.trans' O.out)
        simp only [Nat.zero_add] at i0 i1 i2 i3 i4 j0 j1 j2 j3 j4
        go_wp2_with fail
        refine (nX.out _).mono ?_
        rintro e V3 ⟨⟨ww, wk, wl, wa, wb⟩, rfl, _, o⟩
        clear i0 i1 i2 i3 i4 j0 j1 j2 j3 j4
        have O := Lib.hid (O.out.trans' o)
        have hz := o.get hz (by simp)
        have gzlt : gz < V3.heap.size := (Array.getElem?_eq_some_iff.1 hz).1
        clear o nX
        dsimp only
        have hw := heap_alloc_new V3 (.cells #[.int .i64 ww, .int .i64 wk, .int .i64 wl, .int .i64 wa, .int .i64 wb] 36)
        have hz := ((Only.refl [] V3).alloc (.cells #[.int .i64 ww, .int .i64 wk, .int .i64 wl, .int .i64 wa, .int .i64 wb] 36)).get hz (by simp)
        have OZ : Hid (Only [] wr (V3.alloc (.cells #[.int .i64 ww, .int .i64 wk, .int .i64 wl, .int .i64 wa, .int .i64 wb] 36))) := O.out.alloc _
        have gwle : Hid (wr.heap.size ≤ V3.heap.size) := O.out.size
        go_upto_region 10 with fail
        generalize V3.alloc (.cells #[.int .i64 ww, .int .i64 wk, .int .i64 wl, .int .i64 wa, .int .i64 wb] 36) = Z1 at *
        generalize V3.heap.size = gw at *
        clear O
        have O := OZ
        clear OZ
        have cz : ∀ k v, #[.int .i64 zw, .int .i64 zk, .int .i64 zl, .int .i64 za, .int .i64 zb][k]? = some v → Z1.cell? ⟨gz, k, none⟩ = some v := fun k v h => by rw [cell_of_row Z1 _ _ _ _ (0, 0) hz]; exact h
        have cw : ∀ k v, #[.int .i64 ww, .int .i64 wk, .int .i64 wl, .int .i64 wa, .int .i64 wb][k]? = some v → Z1.cell? ⟨gw, k, none⟩ = some v := fun k v h => by rw [cell_of_row Z1 _ _ _ _ (0, 0) hw]; exact h
        have fz : ∀ k, Z1.frozen? ⟨gz, k, none⟩ = false := fun k => by simp [World.frozen?, hz]
        have fw : ∀ k, Z1.frozen? ⟨gw, k, none⟩ = false := fun k => by simp [World.frozen?, hw]
        have b0 := cz 0 _ rfl
        have b1 := cz 1 _ rfl
        have b2 := cz 2 _ rfl
        have b3 := cz 3 _ rfl
        have b4 := cz 4 _ rfl
        have c0 := cw 0 _ rfl
        have c1 := cw 1 _ rfl
        have c2 := cw 2 _ rfl
        have c3 := cw 3 _ rfl
        have c4 := cw 4 _ rfl
        have fw2 := fw 2
        have fw3 := fw 3
        have fw4 := fw 4
        go_upto_region 11 with fail
        have neA : ∀ (X : World) (k : Nat) (v : Value) (c : Nat), (X.setCell ⟨gw, k, none⟩ v).cell? ⟨gz, c, none⟩ = X.cell? ⟨gz, c, none⟩ := fun X k v c => World.cell?_setCell_other _ _ _ _ (by intro e9; injection e9 with e9; omega)
        have neB : ∀ (X : World) (k : Nat) (v : Value) (c : Nat), c ≠ k → (X.setCell ⟨gw, k, none⟩ v).cell? ⟨gw, c, none⟩ = X.cell? ⟨gw, c, none⟩ := fun X k v c h => World.cell?_setCell_other _ _ _ _ (by intro e9; injection e9 with _ e9; omega)
        have sm : ∀ (X : World) (k : Nat) (v u : Value), X.cell? ⟨gw, k, none⟩ = some u → (X.setCell ⟨gw, k, none⟩ v).cell? ⟨gw, k, none⟩ = some v := fun X k v u h => World.cell?_setCell_same' _ _ _ (by rw [h]; rfl)
        have B : ∀ c v, Z1.cell? ⟨gz, c, none⟩ = some v → (((Z1.setCell ⟨gw, 2, none⟩ (.int .i64 zl)).setCell ⟨gw, 3, none⟩ (.int .i64 za)).setCell ⟨gw, 4, none⟩ (.int .i64 zb)).cell? ⟨gz, c, none⟩ = some v := fun c v h => by rw [neA, neA, neA]; exact h
        have d0 := B 0 _ b0
        have d1 := B 1 _ b1
        have d2 := B 2 _ b2
        have d3 := B 3 _ b3
        have d4 := B 4 _ b4
        have m0 : (((Z1.setCell ⟨gw, 2, none⟩ (.int .i64 zl)).setCell ⟨gw, 3, none⟩ (.int .i64 za)).setCell ⟨gw, 4, none⟩ (.int .i64 zb)).cell? ⟨gw, 0, none⟩ = some (.int .i64 ww) := by rw [neB _ _ _ _ (by decide), neB _ _ _ _ (by decide), neB _ _ _ _ (by decide)]; exact c0
        have m1' : (((Z1.setCell ⟨gw, 2, none⟩ (.int .i64 zl)).setCell ⟨gw, 3, none⟩ (.int .i64 za)).setCell ⟨gw, 4, none⟩ (.int .i64 zb)).cell? ⟨gw, 1, none⟩ = some (.int .i64 wk) := by rw [neB _ _ _ _ (by decide), neB _ _ _ _ (by decide), neB _ _ _ _ (by decide)]; exact c1
        have m2' : (((Z1.setCell ⟨gw, 2, none⟩ (.int .i64 zl)).setCell ⟨gw, 3, none⟩ (.int .i64 za)).setCell ⟨gw, 4, none⟩ (.int .i64 zb)).cell? ⟨gw, 2, none⟩ = some (.int .i64 zl) := by rw [neB _ _ _ _ (by decide), neB _ _ _ _ (by decide)]; exact sm _ _ _ _ c2
        have m3 : (((Z1.setCell ⟨gw, 2, none⟩ (.int .i64 zl)).setCell ⟨gw, 3, none⟩ (.int .i64 za)).setCell ⟨gw, 4, none⟩ (.int .i64 zb)).cell? ⟨gw, 3, none⟩ = some (.int .i64 za) := by rw [neB _ _ _ _ (by decide)]; exact sm _ _ _ _ ((neB _ _ _ _ (by decide)).trans c3)
        have m4 : (((Z1.setCell ⟨gw, 2, none⟩ (.int .i64 zl)).setCell ⟨gw, 3, none⟩ (.int .i64 za)).setCell ⟨gw, 4, none⟩ (.int .i64 zb)).cell? ⟨gw, 4, none⟩ = some (.int .i64 zb) := sm _ _ _ _ ((neB _ _ _ _ (by decide)).trans ((neB _ _ _ _ (by decide)).trans c4))
        have gw1 : (((Z1.setCell ⟨gw, 2, none⟩ (.int .i64 zl)).setCell ⟨gw, 3, none⟩ (.int .i64 za)).setCell ⟨gw, 4, none⟩ (.int .i64 zb)).frozen? ⟨gw, 1, none⟩ = false := (World.frozen?_setCell _ _ _ _).trans ((World.frozen?_setCell _ _ _ _).trans ((World.frozen?_setCell _ _ _ _).trans (fw 1)))
        have gz1 : (((Z1.setCell ⟨gw, 2, none⟩ (.int .i64 zl)).setCell ⟨gw, 3, none⟩ (.int .i64 za)).setCell ⟨gw, 4, none⟩ (.int .i64 zb)).frozen? ⟨gz, 1, none⟩ = false := (World.frozen?_setCell _ _ _ _).trans ((World.frozen?_setCell _ _ _ _).trans ((World.frozen?_setCell _ _ _ _).trans (fz 1)))
        have OU : Hid (Only [] wr (((Z1.setCell ⟨gw, 2, none⟩ (.int .i64 zl)).setCell ⟨gw, 3, none⟩ (.int .i64 za)).setCell ⟨gw, 4, none⟩ (.int .i64 zb))) := ((O.out.setCell (.inr gwle.out) _).setCell (.inr gwle.out) _).setCell (.inr gwle.out) _
        clear neA neB sm B b0 b1 b2 b3 b4 c0 c1 c2 c3 c4 fw2 fw3 fw4 fz fw cz cw hz hw O
        generalize ((Z1.setCell ⟨gw, 2, none⟩ (.int .i64 zl)).setCell ⟨gw, 3, none⟩ (.int .i64 za)).setCell ⟨gw, 4, none⟩ (.int .i64 zb) = U0 at *
        have q1 := modI_lt wk (n := 6) (by decide)
        have q2 := modI_lt zk (n := 6) (by decide)
        have h1w : IntKind.i64.wrap (1 + modI wk 6) = 1 + modI wk 6 := by rw [IntKind.wrap_i64]; omega
        have h2w : IntKind.i64.wrap (1 + modI zk 6) = 1 + modI zk 6 := by rw [IntKind.wrap_i64]; omega
        have mA := Lib.hid (fun (V : World) => md.out wk 6 (by decide) (by decide) V)
        have mB := Lib.hid (fun (V : World) => md.out zk 6 (by decide) (by decide) V)
        generalize modI wk 6 = n0 at *
        generalize modI zk 6 = n1 at *
        go_wp2_with fail
        refine (fun (main : (?G2 : Prop)) => ?body2) ?pf2
        case body2 =>
          refine wp_region_held_drew (S := fun _ => True) (by kernel_rfl) trivial (fun hHeld => ?_)
          refine takeH (i := 0) (v := ?_) rfl (by kernel_rfl) (by kernel_rfl) (by kernel_rfl) (fun _ _ _ h => h) (Or.inl ⟨by rfl, ?_⟩) (by assumption) ?_
          rotate_left 1
          · (intro w hSw; (try dsimp only at hSw); go_simp; try (with_reducible rfl))
          try simp only [Act.put, List.setIfInBounds_toArray, List.set_cons_zero, List.set_cons_succ]
          refine takeH (i := 4) (v := ?_) rfl (by kernel_rfl) (by kernel_rfl) (by kernel_rfl) (fun _ _ _ h => h) (Or.inl ⟨by rfl, ?_⟩) (by assumption) ?_
          rotate_left 1
          · (intro w hSw; (try dsimp only at hSw); go_simp; try (with_reducible rfl))
          try simp only [Act.put, List.setIfInBounds_toArray, List.set_cons_zero, List.set_cons_succ]
          refine wpAnyH_ready (rs := [1, 5]) (by kernel_rfl) (by simp) ?_
          refine consH rfl (fun K hK => ?_) (consH rfl (fun K hK => ?_) AllReadyH.nil)
          · go_simp
          
            refine hK.out _ _ trivial (fun hHeld2 => ?_)
            clear hK K hHeld
            have hHeld := hHeld2
            clear hHeld2
            try simp only [Act.put, List.setIfInBounds_toArray, List.set_cons_zero, List.set_cons_succ]
            refine wpAnyH_ready (rs := [2, 5]) (by kernel_rfl) (by simp) ?_
            refine consH rfl (fun K hK => ?_) (consH rfl (fun K hK => ?_) AllReadyH.nil)
            · go_simp
              refine (mA.out _).mono ?_
              rintro e v ⟨rfl, hv⟩
              rw [hv]
              clear hv
              refine hK.out _ _ trivial (fun hHeld2 => ?_)
              clear hK K hHeld
              have hHeld := hHeld2
              clear hHeld2
              try simp only [Act.put, List.setIfInBounds_toArray, List.set_cons_zero, List.set_cons_succ]
              refine takeH (i := 3) (v := ?_) rfl (by kernel_rfl) (by kernel_rfl) (by kernel_rfl) (fun _ _ _ h => h) (Or.inl ⟨by rfl, ?_⟩) (by assumption) ?_
              rotate_left 1
              · (intro w hSw; (try dsimp only at hSw); go_simp; try (with_reducible rfl))
              try simp only [Act.put, List.setIfInBounds_toArray, List.set_cons_zero, List.set_cons_succ]
              refine takeH (i := 8) (v := ?_) rfl (by kernel_rfl) (by kernel_rfl) (by kernel_rfl) (fun _ _ _ h => h) (Or.inl ⟨by rfl, ?_⟩) (by assumption) ?_
              rotate_left 1
              · (intro w hSw; (try dsimp only at hSw); go_simp; try (with_reducible rfl))
              try simp only [Act.put, List.setIfInBounds_toArray, List.set_cons_zero, List.set_cons_succ]
              refine wpAnyH_ready (rs := [5]) (by kernel_rfl) (by simp) ?_
              refine consH rfl (fun K hK => ?_) AllReadyH.nil
              go_simp
              
              refine hK.out _ _ trivial (fun hHeld2 => ?_)
              clear hK K hHeld
              have hHeld := hHeld2
              clear hHeld2
              try simp only [Act.put, List.setIfInBounds_toArray, List.set_cons_zero, List.set_cons_succ]
              refine wpAnyH_ready (rs := [6]) (by kernel_rfl) (by simp) ?_
              refine consH rfl (fun K hK => ?_) AllReadyH.nil
              go_simp
              refine (mB.out _).mono ?_
              rintro e v ⟨rfl, hv⟩
              rw [hv]
              clear hv
              refine hK.out _ _ trivial (fun hHeld2 => ?_)
              clear hK K hHeld
              have hHeld := hHeld2
              clear hHeld2
              try simp only [Act.put, List.setIfInBounds_toArray, List.set_cons_zero, List.set_cons_succ]
              refine takeH (i := 7) (v := ?_) rfl (by kernel_rfl) (by kernel_rfl) (by kernel_rfl) (fun _ _ _ h => h) (Or.inl ⟨by rfl, ?_⟩) (by assumption) ?_
              rotate_left 1
              · (intro w hSw; (try dsimp only at hSw); go_simp; try (with_reducible rfl))
              try simp only [Act.put, List.setIfInBounds_toArray, List.set_cons_zero, List.set_cons_succ]
              refine wpAnyH_ready (rs := [9]) (by kernel_rfl) (by simp) ?_
              refine consH rfl (fun K hK => ?_) AllReadyH.nil
              go_simp
              
              refine hK.out _ _ trivial (fun hHeld2 => ?_)
              clear hK K hHeld
              have hHeld := hHeld2
              clear hHeld2
              try simp only [Act.put, List.setIfInBounds_toArray, List.set_cons_zero, List.set_cons_succ]
              refine takeH (i := 10) (v := ?_) rfl (by kernel_rfl) (by kernel_rfl) (by kernel_rfl) (fun _ _ _ h => h) (Or.inl ⟨by rfl, ?_⟩) (by assumption) ?_
              rotate_left 1
              · (intro w hSw; (try dsimp only at hSw); go_simp; try (with_reducible rfl))
              try simp only [Act.put, List.setIfInBounds_toArray, List.set_cons_zero, List.set_cons_succ]
              refine wpAnyH_ready (rs := [11]) (by kernel_rfl) (by simp) ?_
              refine consH rfl (fun K hK => ?_) AllReadyH.nil
              go_simp
              
              refine hK.out _ _ trivial (fun hHeld2 => ?_)
              clear hK K hHeld
              have hHeld := hHeld2
              clear hHeld2
              try simp only [Act.put, List.setIfInBounds_toArray, List.set_cons_zero, List.set_cons_succ]
              refine wpAnyH_done (by kernel_rfl) ?_ _
              exact main
            · go_simp
            
              refine hK.out _ _ trivial (fun hHeld2 => ?_)
              clear hK K hHeld
              have hHeld := hHeld2
              clear hHeld2
              try simp only [Act.put, List.setIfInBounds_toArray, List.set_cons_zero, List.set_cons_succ]
              refine wpAnyH_ready (rs := [2]) (by kernel_rfl) (by simp) ?_
              refine consH rfl (fun K hK => ?_) AllReadyH.nil
              go_simp
              refine (mA.out _).mono ?_
              rintro e v ⟨rfl, hv⟩
              rw [hv]
              clear hv
              refine hK.out _ _ trivial (fun hHeld2 => ?_)
              clear hK K hHeld
              have hHeld := hHeld2
              clear hHeld2
              try simp only [Act.put, List.setIfInBounds_toArray, List.set_cons_zero, List.set_cons_succ]
              refine takeH (i := 3) (v := ?_) rfl (by kernel_rfl) (by kernel_rfl) (by kernel_rfl) (fun _ _ _ h => h) (Or.inl ⟨by rfl, ?_⟩) (by assumption) ?_
              rotate_left 1
              · (intro w hSw; (try dsimp only at hSw); go_simp; try (with_reducible rfl))
              try simp only [Act.put, List.setIfInBounds_toArray, List.set_cons_zero, List.set_cons_succ]
              refine takeH (i := 8) (v := ?_) rfl (by kernel_rfl) (by kernel_rfl) (by kernel_rfl) (fun _ _ _ h => h) (Or.inl ⟨by rfl, ?_⟩) (by assumption) ?_
              rotate_left 1
              · (intro w hSw; (try dsimp only at hSw); go_simp; try (with_reducible rfl))
              try simp only [Act.put, List.setIfInBounds_toArray, List.set_cons_zero, List.set_cons_succ]
              refine wpAnyH_ready (rs := [6]) (by kernel_rfl) (by simp) ?_
              refine consH rfl (fun K hK => ?_) AllReadyH.nil
              go_simp
              refine (mB.out _).mono ?_
              rintro e v ⟨rfl, hv⟩
              rw [hv]
              clear hv
              refine hK.out _ _ trivial (fun hHeld2 => ?_)
              clear hK K hHeld
              have hHeld := hHeld2
              clear hHeld2
              try simp only [Act.put, List.setIfInBounds_toArray, List.set_cons_zero, List.set_cons_succ]
              refine takeH (i := 7) (v := ?_) rfl (by kernel_rfl) (by kernel_rfl) (by kernel_rfl) (fun _ _ _ h => h) (Or.inl ⟨by rfl, ?_⟩) (by assumption) ?_
              rotate_left 1
              · (intro w hSw; (try dsimp only at hSw); go_simp; try (with_reducible rfl))
              try simp only [Act.put, List.setIfInBounds_toArray, List.set_cons_zero, List.set_cons_succ]
              refine wpAnyH_ready (rs := [9]) (by kernel_rfl) (by simp) ?_
              refine consH rfl (fun K hK => ?_) AllReadyH.nil
              go_simp
              
              refine hK.out _ _ trivial (fun hHeld2 => ?_)
              clear hK K hHeld
              have hHeld := hHeld2
              clear hHeld2
              try simp only [Act.put, List.setIfInBounds_toArray, List.set_cons_zero, List.set_cons_succ]
              refine takeH (i := 10) (v := ?_) rfl (by kernel_rfl) (by kernel_rfl) (by kernel_rfl) (fun _ _ _ h => h) (Or.inl ⟨by rfl, ?_⟩) (by assumption) ?_
              rotate_left 1
              · (intro w hSw; (try dsimp only at hSw); go_simp; try (with_reducible rfl))
              try simp only [Act.put, List.setIfInBounds_toArray, List.set_cons_zero, List.set_cons_succ]
              refine wpAnyH_ready (rs := [11]) (by kernel_rfl) (by simp) ?_
              refine consH rfl (fun K hK => ?_) AllReadyH.nil
              go_simp
              
              refine hK.out _ _ trivial (fun hHeld2 => ?_)
              clear hK K hHeld
              have hHeld := hHeld2
              clear hHeld2
              try simp only [Act.put, List.setIfInBounds_toArray, List.set_cons_zero, List.set_cons_succ]
              refine wpAnyH_done (by kernel_rfl) ?_ _
              exact main
          · go_simp
          
            refine hK.out _ _ trivial (fun hHeld2 => ?_)
            clear hK K hHeld
            have hHeld := hHeld2
            clear hHeld2
            try simp only [Act.put, List.setIfInBounds_toArray, List.set_cons_zero, List.set_cons_succ]
            refine wpAnyH_ready (rs := [1]) (by kernel_rfl) (by simp) ?_
            refine consH rfl (fun K hK => ?_) AllReadyH.nil
            go_simp
            
            refine hK.out _ _ trivial (fun hHeld2 => ?_)
            clear hK K hHeld
            have hHeld := hHeld2
            clear hHeld2
            try simp only [Act.put, List.setIfInBounds_toArray, List.set_cons_zero, List.set_cons_succ]
            refine wpAnyH_ready (rs := [2]) (by kernel_rfl) (by simp) ?_
            refine consH rfl (fun K hK => ?_) AllReadyH.nil
            go_simp
            refine (mA.out _).mono ?_
            rintro e v ⟨rfl, hv⟩
            rw [hv]
            clear hv
            refine hK.out _ _ trivial (fun hHeld2 => ?_)
            clear hK K hHeld
            have hHeld := hHeld2
            clear hHeld2
            try simp only [Act.put, List.setIfInBounds_toArray, List.set_cons_zero, List.set_cons_succ]
            refine takeH (i := 3) (v := ?_) rfl (by kernel_rfl) (by kernel_rfl) (by kernel_rfl) (fun _ _ _ h => h) (Or.inl ⟨by rfl, ?_⟩) (by assumption) ?_
            rotate_left 1
            · (intro w hSw; (try dsimp only at hSw); go_simp; try (with_reducible rfl))
            try simp only [Act.put, List.setIfInBounds_toArray, List.set_cons_zero, List.set_cons_succ]
            refine takeH (i := 8) (v := ?_) rfl (by kernel_rfl) (by kernel_rfl) (by kernel_rfl) (fun _ _ _ h => h) (Or.inl ⟨by rfl, ?_⟩) (by assumption) ?_
            rotate_left 1
            · (intro w hSw; (try dsimp only at hSw); go_simp; try (with_reducible rfl))
            try simp only [Act.put, List.setIfInBounds_toArray, List.set_cons_zero, List.set_cons_succ]
            refine wpAnyH_ready (rs := [6]) (by kernel_rfl) (by simp) ?_
            refine consH rfl (fun K hK => ?_) AllReadyH.nil
            go_simp
            refine (mB.out _).mono ?_
            rintro e v ⟨rfl, hv⟩
            rw [hv]
            clear hv
            refine hK.out _ _ trivial (fun hHeld2 => ?_)
            clear hK K hHeld
            have hHeld := hHeld2
            clear hHeld2
            try simp only [Act.put, List.setIfInBounds_toArray, List.set_cons_zero, List.set_cons_succ]
            refine takeH (i := 7) (v := ?_) rfl (by kernel_rfl) (by kernel_rfl) (by kernel_rfl) (fun _ _ _ h => h) (Or.inl ⟨by rfl, ?_⟩) (by assumption) ?_
            rotate_left 1
            · (intro w hSw; (try dsimp only at hSw); go_simp; try (with_reducible rfl))
            try simp only [Act.put, List.setIfInBounds_toArray, List.set_cons_zero, List.set_cons_succ]
            refine wpAnyH_ready (rs := [9]) (by kernel_rfl) (by simp) ?_
            refine consH rfl (fun K hK => ?_) AllReadyH.nil
            go_simp
            
            refine hK.out _ _ trivial (fun hHeld2 => ?_)
            clear hK K hHeld
            have hHeld := hHeld2
            clear hHeld2
            try simp only [Act.put, List.setIfInBounds_toArray, List.set_cons_zero, List.set_cons_succ]
            refine takeH (i := 10) (v := ?_) rfl (by kernel_rfl) (by kernel_rfl) (by kernel_rfl) (fun _ _ _ h => h) (Or.inl ⟨by rfl, ?_⟩) (by assumption) ?_
            rotate_left 1
            · (intro w hSw; (try dsimp only at hSw); go_simp; try (with_reducible rfl))
            try simp only [Act.put, List.setIfInBounds_toArray, List.set_cons_zero, List.set_cons_succ]
            refine wpAnyH_ready (rs := [11]) (by kernel_rfl) (by simp) ?_
            refine consH rfl (fun K hK => ?_) AllReadyH.nil
            go_simp
            
            refine hK.out _ _ trivial (fun hHeld2 => ?_)
            clear hK K hHeld
            have hHeld := hHeld2
            clear hHeld2
            try simp only [Act.put, List.setIfInBounds_toArray, List.set_cons_zero, List.set_cons_succ]
            refine wpAnyH_done (by kernel_rfl) ?_ _
            exact main
        case pf2 =>
          obtain ⟨k0, hk0⟩ : ∃ k0, 1 + n0 = k0 := ⟨_, rfl⟩
          obtain ⟨k1', hk1⟩ : ∃ k1, 1 + n1 = k1 := ⟨_, rfl⟩
          have r0 : 1 ≤ k0 ∧ k0 ≤ 6 := by omega
          have r1 : 1 ≤ k1' ∧ k1' ≤ 6 := by omega
          rw [hk0, hk1]
          have neA : ∀ c, c ≠ 1 → ((U0.setCell ⟨gw, 1, none⟩ (.int .i64 k0)).setCell ⟨gz, 1, none⟩ (.int .i64 k1')).drew.cell? ⟨gw, c, none⟩ = U0.cell? ⟨gw, c, none⟩ := fun c hc => (World.cell?_setCell_other _ _ _ _ (by intro e9; injection e9 with e9; omega)).trans (World.cell?_setCell_other _ _ _ _ (by intro e9; injection e9 with _ e9; omega))
          have neB : ∀ c, c ≠ 1 → ((U0.setCell ⟨gw, 1, none⟩ (.int .i64 k0)).setCell ⟨gz, 1, none⟩ (.int .i64 k1')).drew.cell? ⟨gz, c, none⟩ = U0.cell? ⟨gz, c, none⟩ := fun c hc => (World.cell?_setCell_other _ _ _ _ (by intro e9; injection e9 with _ e9; omega)).trans (World.cell?_setCell_other _ _ _ _ (by intro e9; injection e9 with e9; omega))
          have u0 := (neA 0 (by decide)).trans m0
          have u2 := (neA 2 (by decide)).trans m2'
          have u3 := (neA 3 (by decide)).trans m3
          have u4 := (neA 4 (by decide)).trans m4
          have v0 := (neB 0 (by decide)).trans d0
          have v2 := (neB 2 (by decide)).trans d2
          have v3 := (neB 3 (by decide)).trans d3
          have v4 := (neB 4 (by decide)).trans d4
          have u1 : ((U0.setCell ⟨gw, 1, none⟩ (.int .i64 k0)).setCell ⟨gz, 1, none⟩ (.int .i64 k1')).drew.cell? ⟨gw, 1, none⟩ = some (.int .i64 k0) := (World.cell?_setCell_other (U0.setCell ⟨gw, 1, none⟩ (.int .i64 k0)) _ _ _ (by intro e9; injection e9 with e9; omega)).trans (World.cell?_setCell_same' _ _ _ (by rw [m1']; rfl))
          have v1 : ((U0.setCell ⟨gw, 1, none⟩ (.int .i64 k0)).setCell ⟨gz, 1, none⟩ (.int .i64 k1')).drew.cell? ⟨gz, 1, none⟩ = some (.int .i64 k1') := World.cell?_setCell_same' (U0.setCell ⟨gw, 1, none⟩ (.int .i64 k0)) _ _ (by rw [World.cell?_setCell_other _ _ _ _ (by intro e9; injection e9 with e9; omega), d1]; rfl)
          have HU : Hid (Only [] wr ((U0.setCell ⟨gw, 1, none⟩ (.int .i64 k0)).setCell ⟨gz, 1, none⟩ (.int .i64 k1')).drew) := ((OU.out.setCell (.inr gwle.out) _).setCell (.inr gzle.out) _).drew
          clear neA neB m0 m1' m2' m3 m4 d0 d1 d2 d3 d4 gw1 gz1 mA mB h1w h2w hk0 hk1 q1 q2
          generalize ((U0.setCell ⟨gw, 1, none⟩ (.int .i64 k0)).setCell ⟨gz, 1, none⟩ (.int .i64 k1')).drew = U at *
          have HWz : Hid (∀ V, Only [] U V → V.cell? ⟨gw, 0, none⟩ = some (.int .i64 ww) ∧ V.cell? ⟨gw, 1, none⟩ = some (.int .i64 k0) ∧ V.cell? ⟨gw, 2, none⟩ = some (.int .i64 zl) ∧ V.cell? ⟨gw, 3, none⟩ = some (.int .i64 za) ∧ V.cell? ⟨gw, 4, none⟩ = some (.int .i64 zb) ∧ V.cell? ⟨gz, 0, none⟩ = some (.int .i64 zw) ∧ V.cell? ⟨gz, 1, none⟩ = some (.int .i64 k1') ∧ V.cell? ⟨gz, 2, none⟩ = some (.int .i64 zl) ∧ V.cell? ⟨gz, 3, none⟩ = some (.int .i64 za) ∧ V.cell? ⟨gz, 4, none⟩ = some (.int .i64 zb)) := fun V o => by
            have kp : ∀ (q : Addr) (v : Value), U.cell? q = some v → V.cell? q = some v := fun q v h => (o.cell (World.block_lt_of_cell? _ _ h) (by simp)).trans h
            exact ⟨kp _ _ u0, kp _ _ u1, kp _ _ u2, kp _ _ u3, kp _ _ u4, kp _ _ v0, kp _ _ v1, kp _ _ v2, kp _ _ v3, kp _ _ v4⟩
          have cf := Lib.hid (fun (V : World) => cConf ⟨ww, k0, ⟨zl, za, zb⟩⟩ ⟨zw, k1', ⟨zl, za, zb⟩⟩ V)
          have rf := Lib.hid (fun (V : World) => rConf ⟨ww, k0, ⟨zl, za, zb⟩⟩ ⟨zw, k1', ⟨zl, za, zb⟩⟩ r0 r1 V)
          dsimp only at cf rf
          generalize confB ⟨ww, k0, ⟨zl, za, zb⟩⟩ ⟨zw, k1', ⟨zl, za, zb⟩⟩ = cb at *
          have f4 : (cb == cb) = true := by simp
          have st : Hid (Only [] U U.drew) := (Only.refl [] U).drew
          clear u0 u1 u2 u3 u4 v0 v1 v2 v3 v4
          go_wp2_with fail
          refine wp_region_held_drew (S := (fun V => V.cell? ⟨gw, 0, none⟩ = some (.int .i64 ww) ∧ V.cell? ⟨gw, 1, none⟩ = some (.int .i64 k0) ∧ V.cell? ⟨gw, 2, none⟩ = some (.int .i64 zl) ∧ V.cell? ⟨gw, 3, none⟩ = some (.int .i64 za) ∧ V.cell? ⟨gw, 4, none⟩ = some (.int .i64 zb) ∧ V.cell? ⟨gz, 0, none⟩ = some (.int .i64 zw) ∧ V.cell? ⟨gz, 1, none⟩ = some (.int .i64 k1') ∧ V.cell? ⟨gz, 2, none⟩ = some (.int .i64 zl) ∧ V.cell? ⟨gz, 3, none⟩ = some (.int .i64 za) ∧ V.cell? ⟨gz, 4, none⟩ = some (.int .i64 zb))) (by kernel_rfl) (HWz.out _ st.out) (fun hHeld => ?_)
          refine wpAnyH_ready (rs := [0]) (by kernel_rfl) (by simp) ?_
          refine consH rfl (fun K hK => ?_) AllReadyH.nil
          go_simp
          refine (lAwake _).mono ?_
          rintro e V ⟨rfl, o⟩
          have st := Lib.hid (st.out.trans' o)
          
          clear o
          refine hK.out _ _ (HWz.out _ st.out) (fun hHeld2 => ?_)
          clear hK K hHeld
          have hHeld := hHeld2
          clear hHeld2
          try simp only [Act.put, List.setIfInBounds_toArray, List.set_cons_zero, List.set_cons_succ]
          refine takeH (i := 1) (v := ?_) rfl (by kernel_rfl) (by kernel_rfl) (by kernel_rfl) (fun _ _ _ h => h) (Or.inl ⟨by rfl, ?_⟩) (by assumption) ?_
          rotate_left 1
          · (intro w hSw; (try dsimp only at hSw); go_simp; try (with_reducible rfl))
          try simp only [Act.put, List.setIfInBounds_toArray, List.set_cons_zero, List.set_cons_succ]
          refine takeH (i := 2) (v := ?_) rfl (by kernel_rfl) (by kernel_rfl) (by kernel_rfl) (fun _ _ _ h => h) (Or.inl ⟨by rfl, ?_⟩) (by assumption) ?_
          rotate_left 1
          · (intro w hSw; (try dsimp only at hSw); go_simp; try (with_reducible rfl))
          try simp only [Act.put, List.setIfInBounds_toArray, List.set_cons_zero, List.set_cons_succ]
          refine takeH (i := 4) (v := ?_) rfl (by kernel_rfl) (by kernel_rfl) (by kernel_rfl) (fun _ _ _ h => h) (Or.inl ⟨by rfl, ?_⟩) (by assumption) ?_
          rotate_left 1
          · (intro w hSw; (try dsimp only at hSw); go_simp; try (with_reducible rfl))
          try simp only [Act.put, List.setIfInBounds_toArray, List.set_cons_zero, List.set_cons_succ]
          refine wpAnyH_ready (rs := [3]) (by kernel_rfl) (by simp) ?_
          refine consH rfl (fun K hK => ?_) AllReadyH.nil
          go_simp
          refine (k3.out _ (HU.out.trans' st.out)).mono ?_
          rintro e V ⟨rfl, o⟩
          have st := Lib.hid (st.out.trans' o)
          
          clear o
          refine hK.out _ _ (HWz.out _ st.out) (fun hHeld2 => ?_)
          clear hK K hHeld
          have hHeld := hHeld2
          clear hHeld2
          try simp only [Act.put, List.setIfInBounds_toArray, List.set_cons_zero, List.set_cons_succ]
          refine wpAnyH_ready (rs := [5]) (by kernel_rfl) (by simp) ?_
          refine consH rfl (fun K hK => ?_) AllReadyH.nil
          go_simp
          refine (k4.out _ (HU.out.trans' st.out)).mono ?_
          rintro e V ⟨rfl, o⟩
          have st := Lib.hid (st.out.trans' o)
          
          clear o
          refine hK.out _ _ (HWz.out _ st.out) (fun hHeld2 => ?_)
          clear hK K hHeld
          have hHeld := hHeld2
          clear hHeld2
          try simp only [Act.put, List.setIfInBounds_toArray, List.set_cons_zero, List.set_cons_succ]
          refine takeH (i := 6) (v := ?_) rfl (by kernel_rfl) (by kernel_rfl) (by kernel_rfl) (fun _ _ _ h => h) (Or.inl ⟨by rfl, ?_⟩) (by assumption) ?_
          rotate_left 1
          · (intro w hSw; (try dsimp only at hSw); go_simp; try (with_reducible rfl))
          try simp only [Act.put, List.setIfInBounds_toArray, List.set_cons_zero, List.set_cons_succ]
          refine takeH (i := 7) (v := ?_) rfl (by kernel_rfl) (by kernel_rfl) (by kernel_rfl) (fun _ _ _ h => h) (Or.inl ⟨by rfl, ?_⟩) (by assumption) ?_
          rotate_left 1
          · (intro w hSw; (try dsimp only at hSw); go_simp; try (with_reducible rfl))
          try simp only [Act.put, List.setIfInBounds_toArray, List.set_cons_zero, List.set_cons_succ]
          refine takeH (i := 8) (v := ?_) rfl (by kernel_rfl) (by kernel_rfl) (by kernel_rfl) (fun _ _ _ h => h) (Or.inl ⟨by rfl, ?_⟩) (by assumption) ?_
          rotate_left 1
          · (intro w hSw; (try dsimp only at hSw); go_simp; try (with_reducible rfl))
          try simp only [Act.put, List.setIfInBounds_toArray, List.set_cons_zero, List.set_cons_succ]
          refine takeH (i := 9) (v := ?_) rfl (by kernel_rfl) (by kernel_rfl) (by kernel_rfl) (fun _ _ _ h => h) (Or.inl ⟨by rfl, ?_⟩) (by assumption) ?_
          rotate_left 1
          · (intro w hSw; (try dsimp only at hSw); go_simp; try (with_reducible rfl))
          try simp only [Act.put, List.setIfInBounds_toArray, List.set_cons_zero, List.set_cons_succ]
          refine takeH (i := 11) (v := ?_) rfl (by kernel_rfl) (by kernel_rfl) (by kernel_rfl) (fun _ _ _ h => h) (Or.inl ⟨by rfl, ?_⟩) (by assumption) ?_
          rotate_left 1
          · (intro w hSw; (try dsimp only at hSw); go_simp; try (with_reducible rfl))
          try simp only [Act.put, List.setIfInBounds_toArray, List.set_cons_zero, List.set_cons_succ]
          refine wpAnyH_ready (rs := [10]) (by kernel_rfl) (by simp) ?_
          refine consH rfl (fun K hK => ?_) AllReadyH.nil
          go_simp
          refine (k5.out _ (HU.out.trans' st.out)).mono ?_
          rintro e V ⟨A7, c7, rfl, r7, o⟩
          have st := Lib.hid (st.out.trans' o)
          have R7 := Lib.hid r7
          clear r7
          clear o
          refine hK.out _ _ (HWz.out _ st.out) (fun hHeld2 => ?_)
          clear hK K hHeld
          have hHeld := hHeld2
          clear hHeld2
          try simp only [Act.put, List.setIfInBounds_toArray, List.set_cons_zero, List.set_cons_succ]
          refine wpAnyH_ready (rs := [12]) (by kernel_rfl) (by simp) ?_
          refine consH rfl (fun K hK => ?_) AllReadyH.nil
          go_simp
          refine (k6.out _ (HU.out.trans' st.out)).mono ?_
          rintro e V ⟨A8, c8, rfl, r8, o⟩
          have st := Lib.hid (st.out.trans' o)
          have R7 := Lib.hid (R7.out.only0 o)
          have R8 := Lib.hid r8
          clear r8
          clear o
          refine hK.out _ _ (HWz.out _ st.out) (fun hHeld2 => ?_)
          clear hK K hHeld
          have hHeld := hHeld2
          clear hHeld2
          try simp only [Act.put, List.setIfInBounds_toArray, List.set_cons_zero, List.set_cons_succ]
          refine wpAnyH_ready (rs := [13]) (by kernel_rfl) (by simp) ?_
          refine consH rfl (fun K hK => ?_) AllReadyH.nil
          go_simp
          refine (hClocks _ A7 A8 M c7 c8 (clk (evs xs)) hn.out R7.out R8.out).mono ?_
          rintro e V ⟨rfl, o⟩
          have st := Lib.hid (st.out.trans' o)
          
          clear o
          refine hK.out _ _ (HWz.out _ st.out) (fun hHeld2 => ?_)
          clear hK K hHeld
          have hHeld := hHeld2
          clear hHeld2
          try simp only [Act.put, List.setIfInBounds_toArray, List.set_cons_zero, List.set_cons_succ]
          refine takeH (i := 14) (v := ?_) rfl (by kernel_rfl) (by kernel_rfl) (by kernel_rfl) (fun _ _ _ h => h) (Or.inl ⟨by rfl, ?_⟩) (by assumption) ?_
          rotate_left 1
          · (intro w hSw; (try dsimp only at hSw); go_simp; try (with_reducible rfl))
          try simp only [Act.put, List.setIfInBounds_toArray, List.set_cons_zero, List.set_cons_succ]
          refine takeH (i := 15) (v := ?_) rfl (by kernel_rfl) (by kernel_rfl) (by kernel_rfl) (fun _ _ _ h => h) (Or.inl ⟨by rfl, ?_⟩) (by assumption) ?_
          rotate_left 1
          · (intro w hSw; (try dsimp only at hSw); go_simp; try (with_reducible rfl))
          try simp only [Act.put, List.setIfInBounds_toArray, List.set_cons_zero, List.set_cons_succ]
          refine takeH (i := 16) (v := ?_) rfl (by kernel_rfl) (by kernel_rfl) (by kernel_rfl) (fun _ _ _ h => h) (Or.inl ⟨by rfl, ?_⟩) (by assumption) ?_
          rotate_left 1
          · (intro w hSw; (try dsimp only at hSw); go_simp; try (with_reducible rfl))
          try simp only [Act.put, List.setIfInBounds_toArray, List.set_cons_zero, List.set_cons_succ]
          refine takeH (i := 17) (v := ?_) rfl (by kernel_rfl) (by kernel_rfl) (by kernel_rfl) (fun _ _ _ h => h) (Or.inl ⟨by rfl, ?_⟩) (by assumption) ?_
          rotate_left 1
          · (intro w hSw; (try dsimp only at hSw); go_simp; try (with_reducible rfl))
          try simp only [Act.put, List.setIfInBounds_toArray, List.set_cons_zero, List.set_cons_succ]
          refine takeH (i := 18) (v := ?_) rfl (by kernel_rfl) (by kernel_rfl) (by kernel_rfl) (fun _ _ _ h => h) (Or.inl ⟨by rfl, ?_⟩) (by assumption) ?_
          rotate_left 1
          · (intro w hSw; (try dsimp only at hSw); go_simp; try (with_reducible rfl))
          try simp only [Act.put, List.setIfInBounds_toArray, List.set_cons_zero, List.set_cons_succ]
          refine takeH (i := 19) (v := ?_) rfl (by kernel_rfl) (by kernel_rfl) (by kernel_rfl) (fun _ _ _ h => h) (Or.inl ⟨by rfl, ?_⟩) (by assumption) ?_
          rotate_left 1
          · (intro w hSw; (try dsimp only at hSw); go_simp; try (with_reducible rfl))
          try simp only [Act.put, List.setIfInBounds_toArray, List.set_cons_zero, List.set_cons_succ]
          refine takeH (i := 20) (v := ?_) rfl (by kernel_rfl) (by kernel_rfl) (by kernel_rfl) (fun _ _ _ h => h) (Or.inl ⟨by rfl, ?_⟩) (by assumption) ?_
          rotate_left 1
          · (intro w hSw; (try dsimp only at hSw); go_simp; try (with_reducible rfl))
          try simp only [Act.put, List.setIfInBounds_toArray, List.set_cons_zero, List.set_cons_succ]
          refine takeH (i := 21) (v := ?_) rfl (by kernel_rfl) (by kernel_rfl) (by kernel_rfl) (fun _ _ _ h => h) (Or.inl ⟨by rfl, ?_⟩) (by assumption) ?_
          rotate_left 1
          · (intro w hSw; (try dsimp only at hSw); go_simp; try (with_reducible rfl))
          try simp only [Act.put, List.setIfInBounds_toArray, List.set_cons_zero, List.set_cons_succ]
          refine takeH (i := 22) (v := ?_) rfl (by kernel_rfl) (by kernel_rfl) (by kernel_rfl) (fun _ _ _ h => h) (Or.inl ⟨by rfl, ?_⟩) (by assumption) ?_
          rotate_left 1
          · (intro w hSw; (try dsimp only at hSw); go_simp; try (with_reducible rfl))
          try simp only [Act.put, List.setIfInBounds_toArray, List.set_cons_zero, List.set_cons_succ]
          refine takeH (i := 23) (v := ?_) rfl (by kernel_rfl) (by kernel_rfl) (by kernel_rfl) (fun _ _ _ h => h) (Or.inl ⟨by rfl, ?_⟩) (by assumption) ?_
          rotate_left 1
          · (intro w hSw; (try dsimp only at hSw); go_simp; try (with_reducible rfl))
          try simp only [Act.put, List.setIfInBounds_toArray, List.set_cons_zero, List.set_cons_succ]
          refine takeH (i := 24) (v := ?_) rfl (by kernel_rfl) (by kernel_rfl) (by kernel_rfl) (fun _ _ _ h => h) (Or.inl ⟨by rfl, ?_⟩) (by assumption) ?_
          rotate_left 1
          · (intro w hSw; (try dsimp only at hSw); go_simp; try (with_reducible rfl))
          try simp only [Act.put, List.setIfInBounds_toArray, List.set_cons_zero, List.set_cons_succ]
          refine takeH (i := 25) (v := ?_) rfl (by kernel_rfl) (by kernel_rfl) (by kernel_rfl) (fun _ _ _ h => h) (Or.inl ⟨by rfl, ?_⟩) (by assumption) ?_
          rotate_left 1
          · (intro w hSw; (try dsimp only at hSw); go_simp; try (with_reducible rfl))
          try simp only [Act.put, List.setIfInBounds_toArray, List.set_cons_zero, List.set_cons_succ]
          refine takeH (i := 26) (v := ?_) rfl (by kernel_rfl) (by kernel_rfl) (by kernel_rfl) (fun _ _ _ h => h) (Or.inl ⟨by rfl, ?_⟩) (by assumption) ?_
          rotate_left 1
          · (intro w hSw; (try dsimp only at hSw); go_simp; try (with_reducible rfl))
          try simp only [Act.put, List.setIfInBounds_toArray, List.set_cons_zero, List.set_cons_succ]
          refine takeH (i := 27) (v := ?_) rfl (by kernel_rfl) (by kernel_rfl) (by kernel_rfl) (fun _ _ _ h => h) (Or.inl ⟨by rfl, ?_⟩) (by assumption) ?_
          rotate_left 1
          · (intro w hSw; (try dsimp only at hSw); go_simp; try (with_reducible rfl))
          try simp only [Act.put, List.setIfInBounds_toArray, List.set_cons_zero, List.set_cons_succ]
          refine takeH (i := 28) (v := ?_) rfl (by kernel_rfl) (by kernel_rfl) (by kernel_rfl) (fun _ _ _ h => h) (Or.inl ⟨by rfl, ?_⟩) (by assumption) ?_
          rotate_left 1
          · (intro w hSw; (try dsimp only at hSw); go_simp; try (with_reducible rfl))
          try simp only [Act.put, List.setIfInBounds_toArray, List.set_cons_zero, List.set_cons_succ]
          refine takeH (i := 29) (v := ?_) rfl (by kernel_rfl) (by kernel_rfl) (by kernel_rfl) (fun _ _ _ h => h) (Or.inl ⟨by rfl, ?_⟩) (by assumption) ?_
          rotate_left 1
          · (intro w hSw; (try dsimp only at hSw); go_simp; try (with_reducible rfl))
          try simp only [Act.put, List.setIfInBounds_toArray, List.set_cons_zero, List.set_cons_succ]
          refine takeH (i := 30) (v := ?_) rfl (by kernel_rfl) (by kernel_rfl) (by kernel_rfl) (fun _ _ _ h => h) (Or.inl ⟨by rfl, ?_⟩) (by assumption) ?_
          rotate_left 1
          · (intro w hSw; (try dsimp only at hSw); go_simp; try (with_reducible rfl))
          try simp only [Act.put, List.setIfInBounds_toArray, List.set_cons_zero, List.set_cons_succ]
          refine takeH (i := 31) (v := ?_) rfl (by kernel_rfl) (by kernel_rfl) (by kernel_rfl) (fun _ _ _ h => h) (Or.inl ⟨by rfl, ?_⟩) (by assumption) ?_
          rotate_left 1
          · (intro w hSw; (try dsimp only at hSw); go_simp; try (with_reducible rfl))
          try simp only [Act.put, List.setIfInBounds_toArray, List.set_cons_zero, List.set_cons_succ]
          refine takeH (i := 32) (v := ?_) rfl (by kernel_rfl) (by kernel_rfl) (by kernel_rfl) (fun _ _ _ h => h) (Or.inl ⟨by rfl, ?_⟩) (by assumption) ?_
          rotate_left 1
          · (intro w hSw; (try dsimp only at hSw); go_simp; try (with_reducible rfl))
          try simp only [Act.put, List.setIfInBounds_toArray, List.set_cons_zero, List.set_cons_succ]
          refine takeH (i := 34) (v := ?_) rfl (by kernel_rfl) (by kernel_rfl) (by kernel_rfl) (fun _ _ _ h => h) (Or.inl ⟨by rfl, ?_⟩) (by assumption) ?_
          rotate_left 1
          · (intro w hSw; (try dsimp only at hSw); go_simp; try (with_reducible rfl))
          try simp only [Act.put, List.setIfInBounds_toArray, List.set_cons_zero, List.set_cons_succ]
          refine takeH (i := 35) (v := ?_) rfl (by kernel_rfl) (by kernel_rfl) (by kernel_rfl) (fun _ _ _ h => h) (Or.inl ⟨by rfl, ?_⟩) (by assumption) ?_
          rotate_left 1
          · (intro w hSw; (try dsimp only at hSw); go_simp; try (with_reducible rfl))
          try simp only [Act.put, List.setIfInBounds_toArray, List.set_cons_zero, List.set_cons_succ]
          refine wpAnyH_ready (rs := [33]) (by kernel_rfl) (by simp) ?_
          refine consH rfl (fun K hK => ?_) AllReadyH.nil
          go_simp
          refine (cf.out _).mono ?_
          rintro e V ⟨rfl, o⟩
          have st := Lib.hid (st.out.trans' o)
          
          clear o
          refine hK.out _ _ (HWz.out _ st.out) (fun hHeld2 => ?_)
          clear hK K hHeld
          have hHeld := hHeld2
          clear hHeld2
          try simp only [Act.put, List.setIfInBounds_toArray, List.set_cons_zero, List.set_cons_succ]
          refine wpAnyH_ready (rs := [36]) (by kernel_rfl) (by simp) ?_
          refine consH rfl (fun K hK => ?_) AllReadyH.nil
          go_simp
          refine (rf.out _).mono ?_
          rintro e V ⟨rfl, o⟩
          have st := Lib.hid (st.out.trans' o)
          
          clear o
          refine hK.out _ _ (HWz.out _ st.out) (fun hHeld2 => ?_)
          clear hK K hHeld
          have hHeld := hHeld2
          clear hHeld2
          try simp only [Act.put, List.setIfInBounds_toArray, List.set_cons_zero, List.set_cons_succ]
          refine takeH (i := 37) (v := ?_) rfl (by kernel_rfl) (by kernel_rfl) (by kernel_rfl) (fun _ _ _ h => h) (Or.inl ⟨by rfl, ?_⟩) (by assumption) ?_
          rotate_left 1
          · (intro w hSw; (try dsimp only at hSw); go_simp; try (with_reducible rfl))
          try simp only [Act.put, List.setIfInBounds_toArray, List.set_cons_zero, List.set_cons_succ]
          refine takeH (i := 38) (v := ?_) rfl (by kernel_rfl) (by kernel_rfl) (by kernel_rfl) (fun _ _ _ h => h) (Or.inl ⟨by rfl, ?_⟩) (by assumption) ?_
          rotate_left 1
          · (intro w hSw; (try dsimp only at hSw); go_simp; try (with_reducible rfl))
          try simp only [Act.put, List.setIfInBounds_toArray, List.set_cons_zero, List.set_cons_succ]
          refine takeH (i := 39) (v := ?_) rfl (by kernel_rfl) (by kernel_rfl) (by kernel_rfl) (fun _ _ _ h => h) (Or.inl ⟨by rfl, ?_⟩) (by assumption) ?_
          rotate_left 1
          · (intro w hSw; (try dsimp only at hSw); go_simp; try (with_reducible rfl))
          try simp only [Act.put, List.setIfInBounds_toArray, List.set_cons_zero, List.set_cons_succ]
          refine wpAnyH_done (by kernel_rfl) ?_ _
          go_wp2_with fail
          go_ret
          exact ⟨by simp, ((OB.out.trans' R.out.only).trans' (HU.out.trans' st.out)).below (Nat.le_refl _) (by simp)⟩

/-! ### The step from the walk to the statement -/
set_option maxRecDepth 100000 in
theorem lifted (os : Os) (started : os.Started) (H : Type) (enc : TypeId × Value → H) :
    ReturnsInHanded {} Try.checked os 4 .any (Rows.raceRawSpec.pre6 enc Try.prog Try.f4 Rows.raceRawRow.domain false) (Rows.raceRawSpec.post enc Try.prog Try.f4 false true false false) := by
  refine returnsInHanded_of_change (C := Try.checked) own started (by kernel_rfl) Try.func4
    (ChangeSpec.witness6 (enc := enc) (C := Try.checked) false ⟨#[], #[.slice none 0 0, .agg #[.int .i64 0, .int .i64 0, .int .i64 0, .int .i64 0, .int .i64 0], .agg #[.int .i64 0, .int .i64 0, .int .i64 0, .int .i64 0, .int .i64 0]], []⟩ 8 (by kernel_rfl) (by kernel_rfl) (by kernel_rfl) (by kernel_rfl)) ?_
  intro W base args ds gs before hval0 hW hcnd _
  have hval : ∀ (j : Nat) t v, Try.f4.params[j]? = some t → args[j]? = some v → Value.okWide Try.prog W .any base t v := hval0
  have hW' := hW
  obtain ⟨p, q, hA0, hV, rfl, hfz, hnd⟩ := hW
  have hA : DataW.TrodAll enc Try.prog W 0 (fun _ => true) true Try.f4.params.toList args.toList ds p := hA0
  rw [Try.params4] at hA hval
  obtain ⟨v0, vs0, d0, ds0, p0, q0, hargs, rfl, rfl, h0, r0⟩ := trodAll_cons hA
  obtain ⟨v1, vs1, d1, ds1, p1, q1, rfl, rfl, rfl, h1, r1⟩ := trodAll_cons r0
  obtain ⟨v2, vs2, d2, ds2, p2, q2, rfl, rfl, rfl, h2, r2⟩ := trodAll_cons r1
  obtain ⟨rfl, rfl, rfl⟩ := trodAll_nil r2
  obtain rfl : args = #[v0, v1, v2] := by cases args; simp_all
  obtain ⟨rfl, rfl⟩ := trodVars_none hV
  obtain ⟨a0, len0, cap0, rfl⟩ := okWide_slice Try.underlying22 (hval 0 22 v0 rfl rfl)
  have k0 := h0
  have lt0 : ∀ x ∈ p0, x.block < W.heap.size := by obtain ⟨m, hm⟩ := k0; exact DataW.trod_lt m _ _ _ hm
  obtain ⟨z0, w0⟩ : ∃ z, InEvs W a0 len0 z := by
    obtain ⟨fuel, hf⟩ := h0
    exact open_evs hf
  obtain ⟨who1, kind1, lk1, la1, lb1, rfl, rfl, rfl, wwho1, wkind1, wlk1, wla1, wlb1⟩ := open_ev (hval 1 36 v1 rfl rfl) h1
  obtain ⟨who2, kind2, lk2, la2, lb2, rfl, rfl, rfl, wwho2, wkind2, wlk2, wla2, wlb2⟩ := open_ev (hval 2 36 v2 rfl rfl) h2
  clear hA0 hval0
  refine (walk a0 len0 cap0 z0 who1 kind1 lk1 la1 lb1 who2 kind2 lk2 la2 lb2 W w0 wwho1 wkind1 wlk1 wla1 wlb1 wwho2 wkind2 wlk2 wla2 wlb2).mono fun e W' ⟨he, bel⟩ => ?_
  subst he
  exact ⟨_, rfl, _, _, _, [], _, [], hW', trodAll_mk1 (shut_bool Try.underlying4 _), (trodAll_cons_mk (Below.trod laidOut (by kernel_rfl) (of_decide_eq_true (by kernel_rfl)) k0 bel lt0) (trodAll_cons_mk (reads_ev wwho1 wkind1 wlk1 wla1 wlb1 _ _ _) (trodAll_cons_mk (reads_ev wwho2 wkind2 wlk2 wla2 wlb2 _ _ _) trodAll_mk0))), rfl, bel.frame _, fun h => by cases h⟩

theorem over : Rows.raceRawRow.holds Try.pinned (OpenSpec.ofChange Rows.raceRawSpec) :=
  OpenClaim.holds_of_wide 4 Try.f4 rfl rfl rfl rfl rfl rfl rfl ⟨rfl, rfl, rfl, rfl, rfl⟩ rfl rfl rfl rfl rfl (by kernel_rfl) Try.func4 (by kernel_rfl)
    (of_decide_eq_true (by kernel_rfl)) (by unfold Func.isWrapper; first | (rw [if_pos (by decide +kernel)]; kernel_rfl) | (rw [if_neg (by decide +kernel)]; exact ⟨rfl, rfl⟩))
    (fun os started H enc _ => lifted os started H enc)

/-- The statement. -/
theorem proved : Rows.RaceRawSaid := over
#print axioms proved
end Go.Proofs.Ytmgmfihjojhilaa.raceRaw
