/-
  race.Clocks.
-/
import Derived.Test.YtmgmfihjojhilaaRcD
import Derived.Test.YtmgmfihjojhilaaClkJ
import Derived.Test.YtmgmfihjojhilaaClkD
namespace Go.Proofs.Ytmgmfihjojhilaa
set_option maxRecDepth 100000
open Go.RowKit
set_option linter.unusedVariables false
set_option linter.unusedSimpArgs false
set_option maxRecDepth 100000

/-- A slice that holds these numbers; nil perhaps. -/
structure Tk (S : Nat) (w : World) (s : Sl) (x : List Int) : Prop where
  nums : Nums S w s.A x
  len : x.length = s.n
  nil : s.A = none → s.n = 0 ∧ s.c = 0
theorem Tk.only {S : Nat} {w w' : World} {s : Sl} {x : List Int} (h : Tk S w s x) {T : List Nat} (ho : Only T w w') (hT : ∀ g ∈ T, g < S) : Tk S w' s x :=
  ⟨h.nums.only ho (fun g _ _ hg _ hk => by have := hT g hk; omega), h.len, h.nil⟩
theorem Tk.only0 {S : Nat} {w w' : World} {s : Sl} {x : List Int} (h : Tk S w s x) (ho : Only [] w w') : Tk S w' s x := h.only ho (by simp)
theorem EvAt.only0 {w w' : World} {g o : Nat} {x : Ev} (h : EvAt w g o x) (ho : Only [] w w') : EvAt w' g o x := h.only ho (by simp)
theorem Tk.none (S : Nat) (w : World) : Tk S w Sl.nil [] := ⟨Nums.nil _ _ _, rfl, fun _ => ⟨rfl, rfl⟩⟩
theorem Tp.tk {S : Nat} {w : World} {s : Sl} {x : List Int} {g : Nat} (h : Tp S w s x g) : Tk S w s x := ⟨h.nums, h.len, fun e => by rw [h.at_] at e; cases e⟩
/-- What the program holds while it makes the clocks: what each worker and each location knows, and the clocks so far. -/
structure CW (w wr : World) (S m : Nat) (l : Nat → Ev) (p : Nat) (f : Lc → Option Sl) (hs : List Sl) : Prop where
  only : Only [] w wr
  ge : w.heap.size ≤ S
  wk : ∀ u : Nat, u < 64 → ∃ s : Sl, wr.cell? ⟨S, u, none⟩ = some (.slice s.A s.n s.c) ∧ wr.frozen? ⟨S, u, none⟩ = false ∧ Tk (S + 3) wr s ((knAt l p).wk (u : Int))
  pl : MapL wr (S + 1) f
  plk : ∀ q, Tk (S + 3) wr ((f q).getD Sl.nil) ((knAt l p).pl q)
  row : hE.Row wr (.slice (some ⟨S + 2, 0, none⟩) m m) hs
  len : hs.length = m
  lt : S + 3 ≤ wr.heap.size
  each : ∀ k, k < p → ∃ s g, hs[k]? = some s ∧ Tp (S + 3) wr s (clk l k) g ∧ ∀ (j : Nat) (t : Sl), j < k → hs[j]? = some t → t.A ≠ s.A
section
variable {w wr w' : World} {S m : Nat} {l : Nat → Ev} {p : Nat} {f : Lc → Option Sl} {hs : List Sl}
theorem Only.frozen {T : List Nat} {a b : World} (h : Only T a b) {ad : Addr} (hb : ad.block < a.heap.size) (hT : ad.block ∉ T) : b.frozen? ad = a.frozen? ad := World.frozen?_of_block (h.block _ hb hT)
theorem CW.only0 (h : CW w wr S m l p f hs) (ho : Only [] wr w') : CW w w' S m l p f hs := by
  have hlt := h.lt
  refine ⟨h.only.trans' ho, h.ge, fun u hu => ?_, h.pl.only ho (by simp), fun q => (h.plk q).only0 ho, h.row.only0 ho, h.len, Nat.le_trans h.lt ho.size, fun k hk => ?_⟩
  · obtain ⟨s, c, fz, t⟩ := h.wk u hu
    exact ⟨s, (ho.cell (by show S < _; omega) (by simp)).trans c, (ho.frozen (by show S < _; omega) (by simp)).trans fz, t.only0 ho⟩
  · obtain ⟨s, g, e, t, d⟩ := h.each k hk
    exact ⟨s, g, e, t.only ho (by simp), d⟩
/-- What was made just now lies in a block of its own. -/
theorem CW.fresh (h : CW w wr S m l p f hs) {s : Sl} {x : List Int} {g : Nat} (ht : Tp wr.heap.size w' s x g) : ∀ (k : Nat) (t : Sl), k < p → hs[k]? = some t → t.A ≠ s.A := fun k t hk he e => by
  obtain ⟨s', g', e1, t1, _⟩ := h.each k hk
  rw [he] at e1
  injection e1 with e1
  subst e1
  rw [t1.at_, ht.at_] at e
  injection e with e
  injection e with e
  have := t1.lt
  have := ht.ge
  omega
/-- One event more. -/
theorem CW.next (h : CW w wr S m l p f hs) {u : Nat} (hu : (l p).who = (u : Int)) (h64 : u < 64) (hp : p < m) {s : Sl} {g : Nat} (ht : Tp (S + 3) wr s (clk l p) g) (hd : ∀ (k : Nat) (t : Sl), k < p → hs[k]? = some t → t.A ≠ s.A)
    {f' : Lc → Option Sl} (ho : Only [S + 1] wr w') (hm : MapL w' (S + 1) f') (hf : ∀ q, (f' q).getD Sl.nil = if q = (l p).lc ∧ tellsK (l p).kind = true then s else (f q).getD Sl.nil) :
    CW w ((w'.setCell ⟨S, u, none⟩ (.slice s.A s.n s.c)).setCell ⟨S + 2, p, none⟩ (.slice s.A s.n s.c)) S m l (p + 1) f' (hs.set p s) := by
  have hge := h.ge
  have hlt := h.lt
  have hl := h.len
  have oA : Only [S + 1, S] wr (w'.setCell ⟨S, u, none⟩ (.slice s.A s.n s.c)) := (ho.mono (T := [S + 1, S]) (fun k hk => .inl (by simp at hk; simp [hk]))).setCell (.inl (by simp)) _
  have oB : Only [S + 1, S, S + 2] wr ((w'.setCell ⟨S, u, none⟩ (.slice s.A s.n s.c)).setCell ⟨S + 2, p, none⟩ (.slice s.A s.n s.c)) := (oA.mono (T := [S + 1, S, S + 2]) (fun k hk => .inl (by simp at hk; rcases hk with hk | hk <;> simp [hk]))).setCell (.inl (by simp)) _
  have tk : ∀ {t : Sl} {x : List Int}, Tk (S + 3) wr t x → Tk (S + 3) ((w'.setCell ⟨S, u, none⟩ (.slice s.A s.n s.c)).setCell ⟨S + 2, p, none⟩ (.slice s.A s.n s.c)) t x := fun t => t.only oB (fun g hg => by simp at hg; omega)
  have tp : ∀ {t : Sl} {x : List Int} {g : Nat}, Tp (S + 3) wr t x g → Tp (S + 3) ((w'.setCell ⟨S, u, none⟩ (.slice s.A s.n s.c)).setCell ⟨S + 2, p, none⟩ (.slice s.A s.n s.c)) t x g := fun t => t.only oB (fun hg => by have := t.ge; simp at hg; omega)
  refine ⟨?_, hge, fun v hv => ?_, ?_, fun q => ?_, ?_, by simpa using hl, ?_, fun k hk => ?_⟩
  · exact h.only.trans oB (fun k hk => .inr (by simp at hk; omega))
  · obtain ⟨t, c, fz, tt⟩ := h.wk v hv
    have c1 := (ho.cell (p := ⟨S, v, none⟩) (by show S < _; omega) (by simp)).trans c
    have fz1 := (ho.frozen (ad := ⟨S, v, none⟩) (by show S < _; omega) (by simp)).trans fz
    have hx : ∀ W : World, ∀ vv, (W.setCell ⟨S + 2, p, none⟩ vv).cell? ⟨S, v, none⟩ = W.cell? ⟨S, v, none⟩ := fun W vv => World.cell?_setCell_other _ _ _ _ (by intro e; injection e with e; omega)
    rw [knAt_wk]
    by_cases e : v = u
    · subst e
      rw [if_pos hu.symm]
      refine ⟨s, ?_, by rw [World.frozen?_setCell, World.frozen?_setCell]; exact fz1, (tp ht).tk⟩
      rw [hx]
      exact World.cell?_setCell_same' _ _ _ (by rw [c1]; rfl)
    · rw [if_neg (by omega)]
      refine ⟨t, ?_, by rw [World.frozen?_setCell, World.frozen?_setCell]; exact fz1, tk tt⟩
      rw [hx, World.cell?_setCell_other _ _ _ _ (by intro e2; injection e2 with _ e2; omega)]
      exact c1
  · exact (hm.only ((Only.refl [S] _).setCell (p := ⟨S, u, none⟩) (.inl (by simp)) _) (by simp)).only ((Only.refl [S + 2] _).setCell (p := ⟨S + 2, p, none⟩) (.inl (by simp)) _) (by simp)
  · rw [hf, knAt_pl]
    split
    · exact (tp ht).tk
    · exact tk (h.plk q)
  · exact ((h.row.only oA (fun g hg => by simp [Value.ownBlock] at hg; simp; omega)).store1 p s _ rfl)
  · exact Nat.le_trans hlt oB.size
  · by_cases e : k = p
    · subst e
      refine ⟨s, g, by rw [List.getElem?_set_self (by omega)], tp ht, fun j t hj hjt => hd j t hj (by rwa [List.getElem?_set_ne (by omega)] at hjt)⟩
    · obtain ⟨s', g', e1, t1, d1⟩ := h.each k (by omega)
      exact ⟨s', g', by rw [List.getElem?_set_ne (by omega)]; exact e1, tp t1, fun j t hj hjt => d1 j t hj (by rwa [List.getElem?_set_ne (by omega)] at hjt)⟩
theorem CW.done (h : CW w wr S m l m f hs) : CFr w wr (some ⟨S + 2, 0, none⟩) m m hs (clk l) := by
  have hge := h.ge
  refine ⟨⟨h.row, h.len, fun g hg => by simp [Value.ownBlock] at hg; omega, fun k hk => ?_⟩, h.only⟩
  obtain ⟨s, g, e, t, d⟩ := h.each k hk
  exact ⟨s, g, e, t.mono (by omega), by have := t.ge; simp [Value.ownBlock]; omega, d⟩
/-- Before the first event. -/
theorem CW.start (l : Nat → Ev) (o1 : Only [] w wr) (hm : m ≤ 100) {U : World} (hU : U = wr.alloc (.cells #[.slice none 0 0, .slice none 0 0, .slice none 0 0, .slice none 0 0, .slice none 0 0, .slice none 0 0, .slice none 0 0, .slice none 0 0, .slice none 0 0, .slice none 0 0, .slice none 0 0, .slice none 0 0, .slice none 0 0, .slice none 0 0, .slice none 0 0, .slice none 0 0, .slice none 0 0, .slice none 0 0, .slice none 0 0, .slice none 0 0, .slice none 0 0, .slice none 0 0, .slice none 0 0, .slice none 0 0, .slice none 0 0, .slice none 0 0, .slice none 0 0, .slice none 0 0, .slice none 0 0, .slice none 0 0, .slice none 0 0, .slice none 0 0, .slice none 0 0, .slice none 0 0, .slice none 0 0, .slice none 0 0, .slice none 0 0, .slice none 0 0, .slice none 0 0, .slice none 0 0, .slice none 0 0, .slice none 0 0, .slice none 0 0, .slice none 0 0, .slice none 0 0, .slice none 0 0, .slice none 0 0, .slice none 0 0, .slice none 0 0, .slice none 0 0, .slice none 0 0, .slice none 0 0, .slice none 0 0, .slice none 0 0, .slice none 0 0, .slice none 0 0, .slice none 0 0, .slice none 0 0, .slice none 0 0, .slice none 0 0, .slice none 0 0, .slice none 0 0, .slice none 0 0, .slice none 0 0] 59)) :
    CW w ((U.alloc (.map #[] 0)).alloc (.cells (madeCells hE.z.cells (m * 1)) hE.T)) wr.heap.size m l 0 (fun _ => none) (List.replicate m Sl.nil) := by
  have hb : U.heap[wr.heap.size]? = some (.cells #[.slice none 0 0, .slice none 0 0, .slice none 0 0, .slice none 0 0, .slice none 0 0, .slice none 0 0, .slice none 0 0, .slice none 0 0, .slice none 0 0, .slice none 0 0, .slice none 0 0, .slice none 0 0, .slice none 0 0, .slice none 0 0, .slice none 0 0, .slice none 0 0, .slice none 0 0, .slice none 0 0, .slice none 0 0, .slice none 0 0, .slice none 0 0, .slice none 0 0, .slice none 0 0, .slice none 0 0, .slice none 0 0, .slice none 0 0, .slice none 0 0, .slice none 0 0, .slice none 0 0, .slice none 0 0, .slice none 0 0, .slice none 0 0, .slice none 0 0, .slice none 0 0, .slice none 0 0, .slice none 0 0, .slice none 0 0, .slice none 0 0, .slice none 0 0, .slice none 0 0, .slice none 0 0, .slice none 0 0, .slice none 0 0, .slice none 0 0, .slice none 0 0, .slice none 0 0, .slice none 0 0, .slice none 0 0, .slice none 0 0, .slice none 0 0, .slice none 0 0, .slice none 0 0, .slice none 0 0, .slice none 0 0, .slice none 0 0, .slice none 0 0, .slice none 0 0, .slice none 0 0, .slice none 0 0, .slice none 0 0, .slice none 0 0, .slice none 0 0, .slice none 0 0, .slice none 0 0] 59 (0, 0)) := by rw [hU]; exact heap_alloc_new wr _
  have oU : Only [] wr U := by rw [hU]; exact (Only.refl [] wr).alloc _
  have sU : U.heap.size = wr.heap.size + 1 := by rw [hU]; simp
  clear hU
  have mp := MapL.made U
  have oM : Only [] U (U.alloc (.map #[] 0)) := (Only.refl [] U).alloc _
  have sM : (U.alloc (.map #[] 0)).heap.size = wr.heap.size + 2 := by simp [sU]
  rw [sU] at mp
  generalize U.alloc (.map #[] 0) = V at *
  have rw0 := El.Row.made (E := hE) Sl.nil rfl V m (by omega)
  have oV : Only [] V (V.alloc (.cells (madeCells hE.z.cells (m * 1)) hE.T)) := (Only.refl [] V).alloc _
  have sV : (V.alloc (.cells (madeCells hE.z.cells (m * 1)) hE.T)).heap.size = wr.heap.size + 3 := by simp [sM]
  rw [sM] at rw0
  generalize V.alloc (.cells (madeCells hE.z.cells (m * 1)) hE.T) = X at *
  have hbX : X.heap[wr.heap.size]? = some (.cells #[.slice none 0 0, .slice none 0 0, .slice none 0 0, .slice none 0 0, .slice none 0 0, .slice none 0 0, .slice none 0 0, .slice none 0 0, .slice none 0 0, .slice none 0 0, .slice none 0 0, .slice none 0 0, .slice none 0 0, .slice none 0 0, .slice none 0 0, .slice none 0 0, .slice none 0 0, .slice none 0 0, .slice none 0 0, .slice none 0 0, .slice none 0 0, .slice none 0 0, .slice none 0 0, .slice none 0 0, .slice none 0 0, .slice none 0 0, .slice none 0 0, .slice none 0 0, .slice none 0 0, .slice none 0 0, .slice none 0 0, .slice none 0 0, .slice none 0 0, .slice none 0 0, .slice none 0 0, .slice none 0 0, .slice none 0 0, .slice none 0 0, .slice none 0 0, .slice none 0 0, .slice none 0 0, .slice none 0 0, .slice none 0 0, .slice none 0 0, .slice none 0 0, .slice none 0 0, .slice none 0 0, .slice none 0 0, .slice none 0 0, .slice none 0 0, .slice none 0 0, .slice none 0 0, .slice none 0 0, .slice none 0 0, .slice none 0 0, .slice none 0 0, .slice none 0 0, .slice none 0 0, .slice none 0 0, .slice none 0 0, .slice none 0 0, .slice none 0 0, .slice none 0 0, .slice none 0 0] 59 (0, 0)) := oV.get (oM.get hb (by simp)) (by simp)
  refine ⟨((o1.trans' oU).trans' oM).trans' oV, o1.size, fun u hu => ?_, mp.only oV (by simp), fun q => Tk.none _ _, rw0, by simp, by omega, fun k hk => absurd hk (by omega)⟩
  refine ⟨Sl.nil, ?_, by simp [World.frozen?, hbX], Tk.none _ _⟩
  rw [cell_of_row X _ _ _ _ (0, 0) hbX]
  have e9 : (#[.slice none 0 0, .slice none 0 0, .slice none 0 0, .slice none 0 0, .slice none 0 0, .slice none 0 0, .slice none 0 0, .slice none 0 0, .slice none 0 0, .slice none 0 0, .slice none 0 0, .slice none 0 0, .slice none 0 0, .slice none 0 0, .slice none 0 0, .slice none 0 0, .slice none 0 0, .slice none 0 0, .slice none 0 0, .slice none 0 0, .slice none 0 0, .slice none 0 0, .slice none 0 0, .slice none 0 0, .slice none 0 0, .slice none 0 0, .slice none 0 0, .slice none 0 0, .slice none 0 0, .slice none 0 0, .slice none 0 0, .slice none 0 0, .slice none 0 0, .slice none 0 0, .slice none 0 0, .slice none 0 0, .slice none 0 0, .slice none 0 0, .slice none 0 0, .slice none 0 0, .slice none 0 0, .slice none 0 0, .slice none 0 0, .slice none 0 0, .slice none 0 0, .slice none 0 0, .slice none 0 0, .slice none 0 0, .slice none 0 0, .slice none 0 0, .slice none 0 0, .slice none 0 0, .slice none 0 0, .slice none 0 0, .slice none 0 0, .slice none 0 0, .slice none 0 0, .slice none 0 0, .slice none 0 0, .slice none 0 0, .slice none 0 0, .slice none 0 0, .slice none 0 0, .slice none 0 0] : Array Value) = (List.replicate 64 (.slice none 0 0)).toArray := rfl
  have e10 : ∀ n u, u < n → (List.replicate n (Value.slice none 0 0)).toArray[u]? = some (.slice none 0 0) := fun n u h => by simp [h]
  rw [e9]
  exact e10 64 u hu
end
theorem run_mkmap (W : World) : (Instr.makeMap 53 none).run Try.prog W = .ok (.map (some W.heap.size)) (W.alloc (.map #[] 0)) := by
  have hk := Try.underlying53
  simp [Instr.makeMap, run_underlying hk, Result.andThen]
set_option maxHeartbeats 400000 in
theorem cClocksNo (A : Option Addr) (m c : Nat) (xs : List Ev) (w : World) (hm : xs.length = m) (hb : m ≤ 100) (h : Evs w A xs) (hok : okL xs = false) :
    Calls Try.prog 18 #[.slice A m c] w fun e w' => e = .returned (.slice none 0 0) ∧ Only [] w w' := by
  have k := cRight A m c xs w hm (by omega) h
  rw [hok] at k
  clear hok h hm
  go_enter Try.func18, Try.ntmps18
  go_wp2_with fail
  refine k.mono ?_
  rintro e w1 ⟨rfl, o1⟩
  have O1 := Lib.hid o1
  clear k o1
  go_wp2_with fail
  go_ret
  exact ⟨rfl, O1.out⟩
set_option maxHeartbeats 8000000 in
theorem cClocks (A : Option Addr) (m c : Nat) (xs : List Ev) (w : World) (hm : xs.length = m) (hb : m ≤ 100) (h : Evs w A xs) (hok : okL xs = true) (hlc : ∀ i, i < m → (evs xs i).lc.ok) :
    Calls Try.prog 18 #[.slice A m c] w fun e w' => ∃ A2 cap, e = .returned (.slice A2 m cap) ∧ ∃ hs, CFr w w' A2 m cap hs (clk (evs xs)) := by
  have k := cRight A m c xs w hm (by omega) h
  rw [hok] at k
  have HO : Hid (∀ i, i < m → okE (evs xs i) = true) := fun i hi => okL_iff.1 hok i (by omega)
  have HE := Lib.hid h
  have HL := Lib.hid hlc
  have HM := Lib.hid hm
  have hfit := Lib.hid (fun (i : Nat) (hi : i ≤ m) => kn_fits HO.out (by omega) i hi)
  have hclen := Lib.hid (fun (i : Nat) (hi : i < m) => clk_pos HO.out (by omega) hi)
  have hmm := run_mkmap
  have hst := Lib.hid (fun (wr : World) (o1 : Only [] w wr) => CW.start (m := m) (evs xs) o1 hb rfl)
  have hmk := fun (W : World) => El.run_make_ (E := hE) Try.underlying30 W m m (Nat.le_refl _) (by omega)
  clear hok h hm hlc
  go_enter Try.func18, Try.ntmps18
  go_wp2_with fail
  refine k.mono ?_
  rintro e w1 ⟨rfl, o1⟩
  have O1 := Lib.hid o1
  have HC := Lib.hid (hst.out w1 o1)
  clear k o1 hst
  have e1 : ((w1.alloc (.cells #[.slice none 0 0, .slice none 0 0, .slice none 0 0, .slice none 0 0, .slice none 0 0, .slice none 0 0, .slice none 0 0, .slice none 0 0, .slice none 0 0, .slice none 0 0, .slice none 0 0, .slice none 0 0, .slice none 0 0, .slice none 0 0, .slice none 0 0, .slice none 0 0, .slice none 0 0, .slice none 0 0, .slice none 0 0, .slice none 0 0, .slice none 0 0, .slice none 0 0, .slice none 0 0, .slice none 0 0, .slice none 0 0, .slice none 0 0, .slice none 0 0, .slice none 0 0, .slice none 0 0, .slice none 0 0, .slice none 0 0, .slice none 0 0, .slice none 0 0, .slice none 0 0, .slice none 0 0, .slice none 0 0, .slice none 0 0, .slice none 0 0, .slice none 0 0, .slice none 0 0, .slice none 0 0, .slice none 0 0, .slice none 0 0, .slice none 0 0, .slice none 0 0, .slice none 0 0, .slice none 0 0, .slice none 0 0, .slice none 0 0, .slice none 0 0, .slice none 0 0, .slice none 0 0, .slice none 0 0, .slice none 0 0, .slice none 0 0, .slice none 0 0, .slice none 0 0, .slice none 0 0, .slice none 0 0, .slice none 0 0, .slice none 0 0, .slice none 0 0, .slice none 0 0, .slice none 0 0] 59)).alloc (.map #[] 0)).heap.size = w1.heap.size + 2 := by simp
  go_upto_region 5 with fail
  generalize ((w1.alloc (.cells #[.slice none 0 0, .slice none 0 0, .slice none 0 0, .slice none 0 0, .slice none 0 0, .slice none 0 0, .slice none 0 0, .slice none 0 0, .slice none 0 0, .slice none 0 0, .slice none 0 0, .slice none 0 0, .slice none 0 0, .slice none 0 0, .slice none 0 0, .slice none 0 0, .slice none 0 0, .slice none 0 0, .slice none 0 0, .slice none 0 0, .slice none 0 0, .slice none 0 0, .slice none 0 0, .slice none 0 0, .slice none 0 0, .slice none 0 0, .slice none 0 0, .slice none 0 0, .slice none 0 0, .slice none 0 0, .slice none 0 0, .slice none 0 0, .slice none 0 0, .slice none 0 0, .slice none 0 0, .slice none 0 0, .slice none 0 0, .slice none 0 0, .slice none 0 0, .slice none 0 0, .slice none 0 0, .slice none 0 0, .slice none 0 0, .slice none 0 0, .slice none 0 0, .slice none 0 0, .slice none 0 0, .slice none 0 0, .slice none 0 0, .slice none 0 0, .slice none 0 0, .slice none 0 0, .slice none 0 0, .slice none 0 0, .slice none 0 0, .slice none 0 0, .slice none 0 0, .slice none 0 0, .slice none 0 0, .slice none 0 0, .slice none 0 0, .slice none 0 0, .slice none 0 0, .slice none 0 0] 59)).alloc (.map #[] 0)) = V at *
  have hmk' := hmk V
  rw [e1] at hmk'
  clear hmk hmm
  generalize V.alloc (.cells (madeCells hE.z.cells (m * 1)) hE.T) = X at *
  generalize w1.heap.size = S at *
  clear e1
  go_wp2_with fail
  go_loopg [18] (m + 1) (fun gk si wr => ∃ (p : Nat) (f : Lc → Option Sl) (hs : List Sl), si = .int .i64 (p : Int) ∧ p ≤ m ∧ m + 1 ≤ gk + p ∧ Hid (CW w wr S m (evs xs) p f hs))
  case atStart => exact ⟨0, _, _, rfl, by omega, by omega, HC.out⟩
  case round =>
    obtain ⟨p, f, hs, rfl, hp, hg, R⟩ := hrel
    by_cases hpl : p < m
    · have h1 : (p : Int) < (m : Int) := by omega
      obtain ⟨gv, rfl, cv⟩ := (HE.out.only0 R.out.only) p _ (evs_get (by have := HM.out; omega))
      have hBX := EvAt.box wr (evs xs p)
      have R0 := Lib.hid (R.out.only0 ((Only.refl [] wr).alloc (.cells #[.int .i64 (evs xs p).who, .int .i64 (evs xs p).kind, .int .i64 (evs xs p).lc.k, .int .i64 (evs xs p).lc.a, .int .i64 (evs xs p).lc.b] 36)))
      have ct := Lib.hid (hclen.out p hpl)
      have fit := Lib.hid (hfit.out p (by omega))
      have HP := Lib.hid (HL.out p hpl)
      have C := Lib.hid (clk_def (evs xs) p)
      obtain ⟨u, hu⟩ : ∃ u : Nat, (evs xs p).who = (u : Int) := Int.eq_ofNat_of_zero_le (okE_iff.1 (HO.out p hpl)).1
      have hu64 : u < 64 := by have := (okE_iff.1 (HO.out p hpl)).2.1; omega
      obtain ⟨c0, c1, c2, c3, c4⟩ := cv
      obtain ⟨ev, hev⟩ : ∃ ev, evs xs p = ev := ⟨_, rfl⟩
      have HEV := Lib.hid hev
      rw [hev] at c0 c1 c2 c3 c4 hBX R0 HP C hu
      clear hev
      obtain ⟨who, kind, lk, la, lb⟩ := ev
      obtain rfl : who = (u : Int) := hu
      dsimp only at c0 c1 c2 c3 c4 hBX R0 HP C
      go_upto_region 9 with fail
      generalize wr.alloc (.cells #[.int .i64 (u : Int), .int .i64 kind, .int .i64 lk, .int .i64 la, .int .i64 lb] 36) = W0 at *
      have HG := Lib.hid R.out.lt
      generalize wr.heap.size = gB at *
      clear c0 c1 c2 c3 c4 R
      have HB := Lib.hid hBX
      obtain ⟨b0, b1, b2, b3, b4⟩ := hBX
      simp only [Nat.zero_add] at b0 b1 b2 b3 b4
      obtain ⟨⟨B1, n1, q1⟩, x1, _, t1⟩ := R0.out.wk u hu64
      have hlk := R0.out.pl.look HP.out 53 Try.underlying53
      have t2 := R0.out.plk ⟨lk, la, lb⟩
      obtain ⟨⟨B2, n2, q2⟩, hs2⟩ : ∃ s, (f ⟨lk, la, lb⟩).getD Sl.nil = s := ⟨_, rfl⟩
      rw [hs2] at hlk t2
      simp only [Lc.val, Sl.val] at hlk
      have T1 := Lib.hid t1
      have T2 := Lib.hid t2
      clear t1 t2 hs2
      have kh := Lib.hid (fun W => kHears kind W)
      have kt := Lib.hid (fun W => kTells kind W)
      have FL : Hid (n1 ≤ 64 ∧ n2 ≤ 64 ∧ ((knAt (evs xs) p).wk (u : Int)).length ≤ 64 ∧ ((knAt (evs xs) p).pl ⟨lk, la, lb⟩).length ≤ 64) := by
        have h8 := (fit.out.1 (u : Int)).1
        have h9 := (fit.out.2 ⟨lk, la, lb⟩).1
        have l1 : _ = n1 := T1.out.len
        have l2 : _ = n2 := T2.out.len
        exact ⟨by omega, by omega, h8, h9⟩
      have HKB : Hid (∀ s : Sl, ∀ q : Lc, (if q = (evs xs p).lc ∧ tellsK (evs xs p).kind = true then s else (f q).getD Sl.nil) = if q = ⟨lk, la, lb⟩ ∧ tellsK kind = true then s else (f q).getD Sl.nil) := fun s q => by rw [HEV.out]
      have HU : Hid ((evs xs p).who = (u : Int)) := by have := HEV.out; show _ = _; rw [this]
      rcases hh : hearsK kind
      · rw [hh] at kh
        have HC : Hid (clk (evs xs) p = tickM ((knAt (evs xs) p).wk (u : Int)) (u : Int)) := by have := C.out; rw [hh] at this; exact this
        clear hh
        go_wp2_with fail
        refine (kh.out _).mono ?_
        rintro e w2 ⟨rfl, rfl⟩
        clear hlk kh
        have HB9 := Lib.hid (HB.out.only0 (Only.refl [] _))
        obtain ⟨b0, b1, b2, b3, b4⟩ := HB9.out
        simp only [Nat.zero_add] at b0 b1 b2 b3 b4
        have TK : Hid (Calls Try.prog 42 #[.slice B1 n1 q1, .int .i64 (u : Int)] w2 (Fresh w2 (clk (evs xs) p))) := by
          have h9 := cTick B1 n1 q1 ((knAt (evs xs) p).wk (u : Int)) (u : Int) w2 T1.out.len (by have := FL.out; omega) (T1.out.nums.mono (Nat.zero_le _)) T1.out.nil
          rw [← HC.out] at h9
          exact h9
        go_wp2_with fail
        refine TK.out.mono ?_
        clear TK
        intro e w9 hf9
        obtain ⟨B9, n9, q9, g9, rfl, t9, o9⟩ := hf9.tp ct.out
        have F9 := Lib.hid (R0.out.fresh t9)
        have T9 := Lib.hid (t9.mono R0.out.lt)
        have R9 := Lib.hid (R0.out.only0 o9)
        obtain ⟨b0, b1, b2, b3, b4⟩ := HB9.out.only0 o9
        simp only [Nat.zero_add] at b0 b1 b2 b3 b4
        clear hf9 t9 o9
        rcases ht : tellsK kind
        · rw [ht] at kt
          have HT := Lib.hid ht
          obtain ⟨s3, y0, yf0, _⟩ := R9.out.wk u hu64
          obtain ⟨_, eg, _, yc⟩ := R9.out.row.cell (k := p) (x := hs.getD p Sl.nil) (by have := R9.out.len; rw [List.getD_eq_getElem?_getD, List.getElem?_eq_getElem (by omega)]; rfl)
          injection eg with eg
          injection eg with eg
          subst eg
          have z0 := (yc 0 _ rfl).1
          have zf0 := (yc 0 _ rfl).2
          simp only [Nat.mul_one, Nat.add_zero] at z0 zf0
          clear yc ht
          go_wp2_with (refine (kt.out _).mono ?_; rintro e w7 ⟨rfl, rfl⟩)
          go_roundg (m + 1 - (p + 1))
          case measure => omega
          case rel =>
            exact ⟨p + 1, f, _, by simp, by omega, by omega, R9.out.next HU.out hu64 hpl T9.out F9.out ((Only.refl [] _).mono (by simp)) R9.out.pl (fun q => by rw [HKB.out, HT.out, if_neg (by simp)])⟩
        · rw [ht] at kt
          have HT := Lib.hid ht
          obtain ⟨w8, hput, m8, o8⟩ := R9.out.pl.put HP.out ⟨B9, n9, q9⟩ 53 Try.underlying53
          simp only [Lc.val, Sl.val] at hput
          have M8 := Lib.hid (And.intro m8 o8)
          have hlt := Lib.hid R9.out.lt
          obtain ⟨s3, y0', yf0', _⟩ := R9.out.wk u hu64
          have y0 := (o8.cell (p := ⟨S, u, none⟩) (by have := hlt.out; show S < _; omega) (by simp)).trans y0'
          have yf0 := (o8.frozen (ad := ⟨S, u, none⟩) (by have := hlt.out; show S < _; omega) (by simp)).trans yf0'
          obtain ⟨_, eg, _, yc⟩ := R9.out.row.cell (k := p) (x := hs.getD p Sl.nil) (by have := R9.out.len; rw [List.getD_eq_getElem?_getD, List.getElem?_eq_getElem (by omega)]; rfl)
          injection eg with eg
          injection eg with eg
          subst eg
          have z0' := (yc 0 _ rfl).1
          have zf0' := (yc 0 _ rfl).2
          simp only [Nat.mul_one, Nat.add_zero] at z0' zf0'
          have z0 := (o8.cell (p := ⟨S + 2, p, none⟩) (by have := hlt.out; show S + 2 < _; omega) (by simp)).trans z0'
          have zf0 := (o8.frozen (ad := ⟨S + 2, p, none⟩) (by have := hlt.out; show S + 2 < _; omega) (by simp)).trans zf0'
          have b0' := (o8.cell (p := ⟨gB, 0, none⟩) (World.block_lt_of_cell? _ _ b0) (by have := HG.out; simp; omega)).trans b0
          clear yc ht y0' yf0' z0' zf0' m8 o8
          go_wp2_with (refine (kt.out _).mono ?_; rintro e w7 ⟨rfl, rfl⟩)
          go_roundg (m + 1 - (p + 1))
          case measure => omega
          case rel =>
            exact ⟨p + 1, _, _, by simp, by omega, by omega, R9.out.next HU.out hu64 hpl T9.out F9.out M8.out.2 M8.out.1 (fun q => by rw [HKB.out, HT.out]; unfold updL; by_cases hq : q = ⟨lk, la, lb⟩ <;> simp [hq])⟩
      · rw [hh] at kh
        have HC : Hid (clk (evs xs) p = tickM (joinM ((knAt (evs xs) p).wk (u : Int)) ((knAt (evs xs) p).pl ⟨lk, la, lb⟩)) (u : Int)) := by have := C.out; rw [hh] at this; exact this
        have HJ : Hid ((joinM ((knAt (evs xs) p).wk (u : Int)) ((knAt (evs xs) p).pl ⟨lk, la, lb⟩)).length ≤ 64) := by
          have := FL.out
          show _ ≤ _
          rw [joinM_len]
          omega
        clear hh
        go_wp2_with fail
        refine (kh.out _).mono ?_
        rintro e w2 ⟨rfl, rfl⟩
        clear kh
        have JN := Lib.hid (cJoin B1 n1 q1 ((knAt (evs xs) p).wk (u : Int)) B2 n2 q2 ((knAt (evs xs) p).pl ⟨lk, la, lb⟩) w2 T1.out.len T2.out.len (by have := FL.out; omega) (by have := FL.out; omega) (T1.out.nums.mono (Nat.zero_le _)) (T2.out.nums.mono (Nat.zero_le _)))
        go_wp2_with fail
        refine JN.out.mono ?_
        clear JN hlk
        rintro e w4 ⟨B4, q4, rfl, n4, o4, z4⟩
        have R4 := Lib.hid (R0.out.only0 o4)
        have N4 := Lib.hid n4.zero
        have O4 := Lib.hid o4
        have Z4 := Lib.hid z4
        clear n4 o4 z4
        have HB9 := Lib.hid (HB.out.only0 O4.out)
        obtain ⟨b0, b1, b2, b3, b4⟩ := HB9.out
        simp only [Nat.zero_add] at b0 b1 b2 b3 b4
        have TK : Hid (Calls Try.prog 42 #[.slice B4 (joinM ((knAt (evs xs) p).wk (u : Int)) ((knAt (evs xs) p).pl ⟨lk, la, lb⟩)).length q4, .int .i64 (u : Int)] w4 (Fresh w4 (clk (evs xs) p))) := by
          have h9 := cTick B4 (joinM ((knAt (evs xs) p).wk (u : Int)) ((knAt (evs xs) p).pl ⟨lk, la, lb⟩)).length q4 (joinM ((knAt (evs xs) p).wk (u : Int)) ((knAt (evs xs) p).pl ⟨lk, la, lb⟩)) (u : Int) w4 rfl (by have := HJ.out; omega) N4.out Z4.out
          rw [← HC.out] at h9
          exact h9
        go_wp2_with fail
        refine TK.out.mono ?_
        clear TK
        intro e w9 hf9
        obtain ⟨B9, n9, q9, g9, rfl, t9, o9⟩ := hf9.tp ct.out
        have F9 := Lib.hid (R4.out.fresh t9)
        have T9 := Lib.hid (t9.mono R4.out.lt)
        have R9 := Lib.hid (R4.out.only0 o9)
        obtain ⟨b0, b1, b2, b3, b4⟩ := HB9.out.only0 o9
        simp only [Nat.zero_add] at b0 b1 b2 b3 b4
        clear hf9 t9 o9
        rcases ht : tellsK kind
        · rw [ht] at kt
          have HT := Lib.hid ht
          obtain ⟨s3, y0, yf0, _⟩ := R9.out.wk u hu64
          obtain ⟨_, eg, _, yc⟩ := R9.out.row.cell (k := p) (x := hs.getD p Sl.nil) (by have := R9.out.len; rw [List.getD_eq_getElem?_getD, List.getElem?_eq_getElem (by omega)]; rfl)
          injection eg with eg
          injection eg with eg
          subst eg
          have z0 := (yc 0 _ rfl).1
          have zf0 := (yc 0 _ rfl).2
          simp only [Nat.mul_one, Nat.add_zero] at z0 zf0
          clear yc ht
          go_wp2_with (refine (kt.out _).mono ?_; rintro e w7 ⟨rfl, rfl⟩)
          go_roundg (m + 1 - (p + 1))
          case measure => omega
          case rel =>
            exact ⟨p + 1, f, _, by simp, by omega, by omega, R9.out.next HU.out hu64 hpl T9.out F9.out ((Only.refl [] _).mono (by simp)) R9.out.pl (fun q => by rw [HKB.out, HT.out, if_neg (by simp)])⟩
        · rw [ht] at kt
          have HT := Lib.hid ht
          obtain ⟨w8, hput, m8, o8⟩ := R9.out.pl.put HP.out ⟨B9, n9, q9⟩ 53 Try.underlying53
          simp only [Lc.val, Sl.val] at hput
          have M8 := Lib.hid (And.intro m8 o8)
          have hlt := Lib.hid R9.out.lt
          obtain ⟨s3, y0', yf0', _⟩ := R9.out.wk u hu64
          have y0 := (o8.cell (p := ⟨S, u, none⟩) (by have := hlt.out; show S < _; omega) (by simp)).trans y0'
          have yf0 := (o8.frozen (ad := ⟨S, u, none⟩) (by have := hlt.out; show S < _; omega) (by simp)).trans yf0'
          obtain ⟨_, eg, _, yc⟩ := R9.out.row.cell (k := p) (x := hs.getD p Sl.nil) (by have := R9.out.len; rw [List.getD_eq_getElem?_getD, List.getElem?_eq_getElem (by omega)]; rfl)
          injection eg with eg
          injection eg with eg
          subst eg
          have z0' := (yc 0 _ rfl).1
          have zf0' := (yc 0 _ rfl).2
          simp only [Nat.mul_one, Nat.add_zero] at z0' zf0'
          have z0 := (o8.cell (p := ⟨S + 2, p, none⟩) (by have := hlt.out; show S + 2 < _; omega) (by simp)).trans z0'
          have zf0 := (o8.frozen (ad := ⟨S + 2, p, none⟩) (by have := hlt.out; show S + 2 < _; omega) (by simp)).trans zf0'
          have b0' := (o8.cell (p := ⟨gB, 0, none⟩) (World.block_lt_of_cell? _ _ b0) (by have := HG.out; simp; omega)).trans b0
          clear yc ht y0' yf0' z0' zf0' m8 o8
          go_wp2_with (refine (kt.out _).mono ?_; rintro e w7 ⟨rfl, rfl⟩)
          go_roundg (m + 1 - (p + 1))
          case measure => omega
          case rel =>
            exact ⟨p + 1, _, _, by simp, by omega, by omega, R9.out.next HU.out hu64 hpl T9.out F9.out M8.out.2 M8.out.1 (fun q => by rw [HKB.out, HT.out]; unfold updL; by_cases hq : q = ⟨lk, la, lb⟩ <;> simp [hq])⟩
    · have h2 : ¬ ((p : Int) < (m : Int)) := by omega
      have h3 : decide ((p : Int) < (m : Int)) = false := decide_eq_false h2
      obtain rfl : p = m := by omega
      go_wp2_with fail
      go_ret
      exact ⟨_, _, rfl, hs, R.out.done⟩
end Go.Proofs.Ytmgmfihjojhilaa
