/-
  What First asks of each event: does it race with this one? is it the same?
-/
import Derived.Test.YtmgmfihjojhilaaRcE
import Derived.Deep.RegionHeld3
namespace Go.Proofs.Ytmgmfihjojhilaa
set_option maxRecDepth 100000
open Go.RowKit
set_option linter.unusedVariables false
set_option linter.unusedSimpArgs false
set_option maxRecDepth 100000

/-- An operation that is taken first, read off the region's list. -/
theorem takeH {P : Program} {Q : Exit → Act → World → Prop} {md : Region.Mode} {S : World → Prop} {l : List Oper} {i : Nat} {oi : Oper} {v : Value} {fuel : Nat} {listed : Array Bool} {a : Act} {w : World} (hi : l[i]? = some oi)
    (hs : Region.noSelect l.toArray = true) (hf : Region.free md l.toArray listed i = true) (hr : (Region.ready md l.toArray listed).contains i = true)
    (hQ : ∀ c a w, Q (.panic c) (a.put oi.dst v) w → Q (.panic c) a w) (hy : YieldsIf P l.toArray S oi v a) (hS : S w)
    (h : wpAnyH P md l.toArray Q S fuel (listed.setIfInBounds i true) (a.put oi.dst v) w) : wpAnyH P md l.toArray Q S (fuel + 1) listed a w :=
  wpAnyH_take (by simpa using hi) hs hf hr hQ hy hS h
theorem consH {P : Program} {Q : Exit → Act → World → Prop} {md : Region.Mode} {S : World → Prop} {l : List Oper} {fuel : Nat} {listed : Array Bool} {a : Act} {w : World} {i : Nat} {o : Oper} {rs : List Nat} (ho : l[i]? = some o)
    (h : ∀ K' : Act → World → Prop, Shut (∀ a w, S w → (S w → wpAnyH P md l.toArray Q S fuel (listed.setIfInBounds i true) a w) → K' a w) → if Region.wanted o (yielded l.toArray a.tmps) = true then Oper.wp P o a w K' Q else K' (a.put o.dst undef) w)
    (hs : AllReadyH P md l.toArray Q S fuel listed a w rs) : AllReadyH P md l.toArray Q S fuel listed a w (i :: rs) :=
  AllReadyH.cons (by simpa using ho) h hs
/-- What First holds: the events, their clocks, and the number under way, each in a box. -/
structure FW (w u : World) (A : Option Addr) (m c : Nat) (xs : List Ev) (bl bc bj : Nat) (A2 : Option Addr) (c2 : Nat) (hs : List Sl) (j : Nat) : Prop where
  l : Cell1 u bl 22 (.slice A m c)
  c : Cell1 u bc 30 (.slice A2 m c2)
  j : Cell1 u bj 3 (.int .i64 (j : Int))
  ev : Evs u A xs
  row : CFr w u A2 m c2 hs (clk (evs xs))
section
variable {w u u' : World} {A : Option Addr} {m c : Nat} {xs : List Ev} {bl bc bj : Nat} {A2 : Option Addr} {c2 : Nat} {hs : List Sl} {i j : Nat}
theorem Cell1.only0 {W W' : World} {b : Nat} {t : TypeId} {v : Value} (h : Cell1 W b t v) (ho : Only [] W W') : Cell1 W' b t v := ho.get h (by simp)
theorem FW.only0 (h : FW w u A m c xs bl bc bj A2 c2 hs j) (ho : Only [] u u') : FW w u' A m c xs bl bc bj A2 c2 hs j :=
  ⟨h.l.only0 ho, h.c.only0 ho, h.j.only0 ho, h.ev.only0 ho, h.row.only0 ho⟩
/-- The cells that a look at i and j reads. -/
def FCells (u : World) (bl bc bj : Nat) (A : Option Addr) (m c : Nat) (A2 : Option Addr) (c2 j gv gr i : Nat) (ei ej : Ev) (si sj : Sl) : Prop :=
  u.cell? ⟨bl, 0, none⟩ = some (.slice A m c) ∧ u.cell? ⟨bc, 0, none⟩ = some (.slice A2 m c2) ∧ u.cell? ⟨bj, 0, none⟩ = some (.int .i64 (j : Int)) ∧ EvAt u gv (i * 5) ei ∧ EvAt u gv (j * 5) ej ∧
  u.cell? ⟨gr, i, none⟩ = some (.slice si.A si.n si.c) ∧ u.cell? ⟨gr, j, none⟩ = some (.slice sj.A sj.n sj.c)
theorem FW.look (h : FW w u A m c xs bl bc bj A2 c2 hs j) (hx : xs.length = m) (hi : i < m) (hj : j < m) : ∃ gv gr si sj, A = some ⟨gv, 0, none⟩ ∧ A2 = some ⟨gr, 0, none⟩ ∧ hs[i]? = some si ∧ hs[j]? = some sj ∧
    Nums 0 u si.A (clk (evs xs) i) ∧ (clk (evs xs) i).length = si.n ∧ Nums 0 u sj.A (clk (evs xs) j) ∧ (clk (evs xs) j).length = sj.n := by
  obtain ⟨gv, e1, _⟩ := h.ev.at_ (k := i) (by omega)
  obtain ⟨gr, g1, s1, e2, _, e3, t1⟩ := h.row.row.at_ hi
  obtain ⟨gr', g2, s2, e4, _, e5, t2⟩ := h.row.row.at_ hj
  exact ⟨gv, gr, s1, s2, e1, e2, e3, e5, t1.nums.zero, t1.len, t2.nums.zero, t2.len⟩
theorem FW.cells {gv gr : Nat} {si sj : Sl} (h : FW w u (some ⟨gv, 0, none⟩) m c xs bl bc bj (some ⟨gr, 0, none⟩) c2 hs j) (hx : xs.length = m) (hi : i < m) (hj : j < m) (h1 : hs[i]? = some si) (h2 : hs[j]? = some sj) :
    FCells u bl bc bj (some ⟨gv, 0, none⟩) m c (some ⟨gr, 0, none⟩) c2 j gv gr i (evs xs i) (evs xs j) si sj := by
  obtain ⟨gv1, e1, v1⟩ := h.ev.at_ (k := i) (by omega)
  obtain ⟨gv2, e2, v2⟩ := h.ev.at_ (k := j) (by omega)
  obtain ⟨gr1, g1, s1, e3, c1, e5, _⟩ := h.row.row.at_ hi
  obtain ⟨gr2, g2, s2, e4, c2, e6, _⟩ := h.row.row.at_ hj
  injection e1 with e1
  injection e1 with e1
  injection e2 with e2
  injection e2 with e2
  injection e3 with e3
  injection e3 with e3
  injection e4 with e4
  injection e4 with e4
  subst e1 e2 e3 e4
  rw [h1] at e5
  rw [h2] at e6
  injection e5 with e5
  injection e6 with e6
  subst e5 e6
  exact ⟨h.l.c.1, h.c.c.1, h.j.c.1, v1, v2, c1, c2⟩
end
set_option maxHeartbeats 4000000 in
theorem cRaces (w u : World) (A : Option Addr) (m c : Nat) (xs : List Ev) (bl bc bj : Nat) (A2 : Option Addr) (c2 : Nat) (hs : List Sl) (i j : Nat) (h : FW w u A m c xs bl bc bj A2 c2 hs j) (hx : xs.length = m) (hi : i < m) (hj : j < m) (hb : m ≤ 100)
    (h64 : ∀ k, k < m → (clk (evs xs) k).length ≤ 64) :
    Calls Try.prog 31 #[.int .i64 (i : Int), .pointer (some ⟨bl, 0, none⟩), .pointer (some ⟨bj, 0, none⟩), .pointer (some ⟨bc, 0, none⟩)] u fun e w' => e = .returned (.bool (raceB (evs xs) i j)) ∧ Only [] u w' := by
  obtain ⟨gv, gr, ⟨B1, n1, q1⟩, ⟨B2, n2, q2⟩, rfl, rfl, hs1, hs2, N1, L1, N2, L2⟩ := h.look hx hi hj
  have cel : Hid (∀ u' : World, Only [] u u' → u'.cell? ⟨bl, 0, none⟩ = some (.slice (some ⟨gv, 0, none⟩) m c) ∧ u'.cell? ⟨bj, 0, none⟩ = some (.int .i64 (j : Int)) ∧ u'.cell? ⟨gv, i * 5, none⟩ = some (.int .i64 (evs xs i).who) ∧ u'.cell? ⟨gv, i * 5 + 1, none⟩ = some (.int .i64 (evs xs i).kind) ∧ u'.cell? ⟨gv, i * 5 + 2, none⟩ = some (.int .i64 (evs xs i).lc.k) ∧ u'.cell? ⟨gv, i * 5 + 3, none⟩ = some (.int .i64 (evs xs i).lc.a) ∧ u'.cell? ⟨gv, i * 5 + 4, none⟩ = some (.int .i64 (evs xs i).lc.b) ∧ u'.cell? ⟨gv, j * 5, none⟩ = some (.int .i64 (evs xs j).who) ∧ u'.cell? ⟨gv, j * 5 + 1, none⟩ = some (.int .i64 (evs xs j).kind) ∧ u'.cell? ⟨gv, j * 5 + 2, none⟩ = some (.int .i64 (evs xs j).lc.k) ∧ u'.cell? ⟨gv, j * 5 + 3, none⟩ = some (.int .i64 (evs xs j).lc.a) ∧ u'.cell? ⟨gv, j * 5 + 4, none⟩ = some (.int .i64 (evs xs j).lc.b) ∧ u'.cell? ⟨bc, 0, none⟩ = some (.slice (some ⟨gr, 0, none⟩) m c2) ∧ u'.cell? ⟨gr, i, none⟩ = some (.slice B1 n1 q1) ∧ u'.cell? ⟨gr, j, none⟩ = some (.slice B2 n2 q2)) := fun u' o => by
    obtain ⟨x0, x1, x2, ⟨x3, x4, x5, x6, x7⟩, ⟨y3, y4, y5, y6, y7⟩, z1, z2⟩ := (h.only0 o).cells hx hi hj hs1 hs2
    exact ⟨x0, x2, x3, x4, x5, x6, x7, y3, y4, y5, y6, y7, x1, z1, z2⟩
  have lq := Lib.hid (fun (u' : World) (o : Only [] u u') => cLeq B1 n1 q1 (clk (evs xs) i) B2 n2 q2 (clk (evs xs) j) u' L1 L2 (by have := h64 i hi; dsimp only at L1; omega) (by have := h64 j hj; dsimp only at L2; omega) (N1.only0 o) (N2.only0 o))
  have cf := Lib.hid (fun (u' : World) => cConf (evs xs i) (evs xs j) u')
  have E : Hid (raceB (evs xs) i j = (confB (evs xs i) (evs xs j) && !leqB (clk (evs xs) i) (clk (evs xs) j))) := rfl
  clear h hs1 hs2 N1 L1 N2 L2
  generalize leqB (clk (evs xs) i) (clk (evs xs) j) = lb at *
  generalize confB (evs xs i) (evs xs j) = cb at *
  generalize raceB (evs xs) i j = rb at *
  generalize evs xs i = e1 at *
  generalize evs xs j = e2 at *
  obtain ⟨x0, x1, x2, x3, x4, x5, x6, x7, y3, y4, y5, y6, y7, z1, z2⟩ := cel.out u (Only.refl _ _)
  have st : Hid (Only [] u u.drew) := (Only.refl [] u).drew
  rcases cb
  · go_enter Try.func31, Try.ntmps31
    go_wp2_with fail
    refine wp_region_held_drew (S := (fun u' => u'.cell? ⟨bl, 0, none⟩ = some (.slice (some ⟨gv, 0, none⟩) m c) ∧ u'.cell? ⟨bj, 0, none⟩ = some (.int .i64 (j : Int)) ∧ u'.cell? ⟨gv, i * 5, none⟩ = some (.int .i64 e1.who) ∧ u'.cell? ⟨gv, i * 5 + 1, none⟩ = some (.int .i64 e1.kind) ∧ u'.cell? ⟨gv, i * 5 + 2, none⟩ = some (.int .i64 e1.lc.k) ∧ u'.cell? ⟨gv, i * 5 + 3, none⟩ = some (.int .i64 e1.lc.a) ∧ u'.cell? ⟨gv, i * 5 + 4, none⟩ = some (.int .i64 e1.lc.b) ∧ u'.cell? ⟨gv, j * 5, none⟩ = some (.int .i64 e2.who) ∧ u'.cell? ⟨gv, j * 5 + 1, none⟩ = some (.int .i64 e2.kind) ∧ u'.cell? ⟨gv, j * 5 + 2, none⟩ = some (.int .i64 e2.lc.k) ∧ u'.cell? ⟨gv, j * 5 + 3, none⟩ = some (.int .i64 e2.lc.a) ∧ u'.cell? ⟨gv, j * 5 + 4, none⟩ = some (.int .i64 e2.lc.b) ∧ u'.cell? ⟨bc, 0, none⟩ = some (.slice (some ⟨gr, 0, none⟩) m c2) ∧ u'.cell? ⟨gr, i, none⟩ = some (.slice B1 n1 q1) ∧ u'.cell? ⟨gr, j, none⟩ = some (.slice B2 n2 q2))) (by kernel_rfl) (cel.out _ st.out) (fun hHeld => ?_)
    refine takeH (i := 0) (v := ?_) rfl (by kernel_rfl) (by kernel_rfl) (by kernel_rfl) (fun _ _ _ h => h) (Or.inl ⟨by rfl, ?_⟩) (by assumption) ?_
    rotate_left 1
    · (intro w hSw; (try dsimp only at hSw); go_simp; try (with_reducible rfl))
    try simp only [Act.put, List.setIfInBounds_toArray, List.set_cons_zero, List.set_cons_succ]
    refine takeH (i := 1) (v := ?_) rfl (by kernel_rfl) (by kernel_rfl) (by kernel_rfl) (fun _ _ _ h => h) (Or.inl ⟨by rfl, ?_⟩) (by assumption) ?_
    rotate_left 1
    · (intro w hSw; (try dsimp only at hSw); go_simp; try (with_reducible rfl))
    try simp only [Act.put, List.setIfInBounds_toArray, List.set_cons_zero, List.set_cons_succ]
    refine takeH (i := 2) (v := ?_) rfl (by kernel_rfl) (by kernel_rfl) (by kernel_rfl) (fun _ _ _ h => h) (Or.inl ⟨by rfl, ?_⟩) (by assumption) ?_
    rotate_left 1
    · (intro w hSw; (try dsimp only at hSw); go_simp; try (with_reducible rfl))
    try simp only [Act.put, List.setIfInBounds_toArray, List.set_cons_zero, List.set_cons_succ]
    refine takeH (i := 3) (v := ?_) rfl (by kernel_rfl) (by kernel_rfl) (by kernel_rfl) (fun _ _ _ h => h) (Or.inl ⟨by rfl, ?_⟩) (by assumption) ?_
    rotate_left 1
    · (intro w hSw; (try dsimp only at hSw); go_simp; try (with_reducible rfl))
    try simp only [Act.put, List.setIfInBounds_toArray, List.set_cons_zero, List.set_cons_succ]
    refine takeH (i := 4) (v := ?_) rfl (by kernel_rfl) (by kernel_rfl) (by kernel_rfl) (fun _ _ _ h => h) (Or.inl ⟨by rfl, ?_⟩) (by assumption) ?_
    rotate_left 1
    · (intro w hSw; (try dsimp only at hSw); go_simp; try (with_reducible rfl))
    try simp only [Act.put, List.setIfInBounds_toArray, List.set_cons_zero, List.set_cons_succ]
    refine takeH (i := 5) (v := ?_) rfl (by kernel_rfl) (by kernel_rfl) (by kernel_rfl) (fun _ _ _ h => h) (Or.inl ⟨by rfl, ?_⟩) (by assumption) ?_
    rotate_left 1
    · (intro w hSw; (try dsimp only at hSw); go_simp; try (with_reducible rfl))
    try simp only [Act.put, List.setIfInBounds_toArray, List.set_cons_zero, List.set_cons_succ]
    refine takeH (i := 6) (v := ?_) rfl (by kernel_rfl) (by kernel_rfl) (by kernel_rfl) (fun _ _ _ h => h) (Or.inl ⟨by rfl, ?_⟩) (by assumption) ?_
    rotate_left 1
    · (intro w hSw; (try dsimp only at hSw); go_simp; try (with_reducible rfl))
    try simp only [Act.put, List.setIfInBounds_toArray, List.set_cons_zero, List.set_cons_succ]
    refine takeH (i := 7) (v := ?_) rfl (by kernel_rfl) (by kernel_rfl) (by kernel_rfl) (fun _ _ _ h => h) (Or.inl ⟨by rfl, ?_⟩) (by assumption) ?_
    rotate_left 1
    · (intro w hSw; (try dsimp only at hSw); go_simp; try (with_reducible rfl))
    try simp only [Act.put, List.setIfInBounds_toArray, List.set_cons_zero, List.set_cons_succ]
    refine wpAnyH_ready (rs := [8]) (by kernel_rfl) (by simp) ?_
    refine consH rfl (fun K hK => ?_) AllReadyH.nil
    go_simp
    refine (cf.out _).mono ?_
    rintro e v ⟨rfl, o⟩
    have st := Lib.hid (st.out.trans' o)
    clear o
    refine hK.out _ _ (cel.out _ st.out) (fun hHeld2 => ?_)
    clear hK K hHeld
    have hHeld := hHeld2
    clear hHeld2
    try simp only [Act.put, List.setIfInBounds_toArray, List.set_cons_zero, List.set_cons_succ]
    refine takeH (i := 9) (v := ?_) rfl (by kernel_rfl) (by kernel_rfl) (by kernel_rfl) (fun _ _ _ h => h) (Or.inl ⟨by rfl, ?_⟩) (by assumption) ?_
    rotate_left 1
    · (intro w hSw; (try dsimp only at hSw); go_simp; try (with_reducible rfl))
    try simp only [Act.put, List.setIfInBounds_toArray, List.set_cons_zero, List.set_cons_succ]
    refine takeH (i := 10) (v := undef) rfl (by kernel_rfl) (by kernel_rfl) (by kernel_rfl) (fun _ _ _ h => h) (Or.inr ⟨by rfl, rfl⟩) (by assumption) ?_
    try simp only [Act.put, List.setIfInBounds_toArray, List.set_cons_zero, List.set_cons_succ]
    refine takeH (i := 11) (v := undef) rfl (by kernel_rfl) (by kernel_rfl) (by kernel_rfl) (fun _ _ _ h => h) (Or.inr ⟨by rfl, rfl⟩) (by assumption) ?_
    try simp only [Act.put, List.setIfInBounds_toArray, List.set_cons_zero, List.set_cons_succ]
    refine takeH (i := 12) (v := undef) rfl (by kernel_rfl) (by kernel_rfl) (by kernel_rfl) (fun _ _ _ h => h) (Or.inr ⟨by rfl, rfl⟩) (by assumption) ?_
    try simp only [Act.put, List.setIfInBounds_toArray, List.set_cons_zero, List.set_cons_succ]
    refine takeH (i := 13) (v := undef) rfl (by kernel_rfl) (by kernel_rfl) (by kernel_rfl) (fun _ _ _ h => h) (Or.inr ⟨by rfl, rfl⟩) (by assumption) ?_
    try simp only [Act.put, List.setIfInBounds_toArray, List.set_cons_zero, List.set_cons_succ]
    refine takeH (i := 14) (v := undef) rfl (by kernel_rfl) (by kernel_rfl) (by kernel_rfl) (fun _ _ _ h => h) (Or.inr ⟨by rfl, rfl⟩) (by assumption) ?_
    try simp only [Act.put, List.setIfInBounds_toArray, List.set_cons_zero, List.set_cons_succ]
    refine takeH (i := 15) (v := undef) rfl (by kernel_rfl) (by kernel_rfl) (by kernel_rfl) (fun _ _ _ h => h) (Or.inr ⟨by rfl, rfl⟩) (by assumption) ?_
    try simp only [Act.put, List.setIfInBounds_toArray, List.set_cons_zero, List.set_cons_succ]
    refine takeH (i := 16) (v := undef) rfl (by kernel_rfl) (by kernel_rfl) (by kernel_rfl) (fun _ _ _ h => h) (Or.inr ⟨by rfl, rfl⟩) (by assumption) ?_
    try simp only [Act.put, List.setIfInBounds_toArray, List.set_cons_zero, List.set_cons_succ]
    refine takeH (i := 17) (v := undef) rfl (by kernel_rfl) (by kernel_rfl) (by kernel_rfl) (fun _ _ _ h => h) (Or.inr ⟨by rfl, rfl⟩) (by assumption) ?_
    try simp only [Act.put, List.setIfInBounds_toArray, List.set_cons_zero, List.set_cons_succ]
    refine takeH (i := 18) (v := undef) rfl (by kernel_rfl) (by kernel_rfl) (by kernel_rfl) (fun _ _ _ h => h) (Or.inr ⟨by rfl, rfl⟩) (by assumption) ?_
    try simp only [Act.put, List.setIfInBounds_toArray, List.set_cons_zero, List.set_cons_succ]
    refine takeH (i := 19) (v := undef) rfl (by kernel_rfl) (by kernel_rfl) (by kernel_rfl) (fun _ _ _ h => h) (Or.inr ⟨by rfl, rfl⟩) (by assumption) ?_
    try simp only [Act.put, List.setIfInBounds_toArray, List.set_cons_zero, List.set_cons_succ]
    refine takeH (i := 20) (v := ?_) rfl (by kernel_rfl) (by kernel_rfl) (by kernel_rfl) (fun _ _ _ h => h) (Or.inl ⟨by rfl, ?_⟩) (by assumption) ?_
    rotate_left 1
    · (intro w hSw; (try dsimp only at hSw); go_simp; try (with_reducible rfl))
    try simp only [Act.put, List.setIfInBounds_toArray, List.set_cons_zero, List.set_cons_succ]
    refine takeH (i := 21) (v := ?_) rfl (by kernel_rfl) (by kernel_rfl) (by kernel_rfl) (fun _ _ _ h => h) (Or.inl ⟨by rfl, ?_⟩) (by assumption) ?_
    rotate_left 1
    · (intro w hSw; (try dsimp only at hSw); go_simp; try (with_reducible rfl))
    try simp only [Act.put, List.setIfInBounds_toArray, List.set_cons_zero, List.set_cons_succ]
    refine wpAnyH_done (by kernel_rfl) ?_ _
    go_wp2_with fail
    go_ret
    exact ⟨by rw [E.out]; rfl, st.out⟩
  · rcases lb
    all_goals
      go_enter Try.func31, Try.ntmps31
      go_wp2_with fail
      refine wp_region_held_drew (S := (fun u' => u'.cell? ⟨bl, 0, none⟩ = some (.slice (some ⟨gv, 0, none⟩) m c) ∧ u'.cell? ⟨bj, 0, none⟩ = some (.int .i64 (j : Int)) ∧ u'.cell? ⟨gv, i * 5, none⟩ = some (.int .i64 e1.who) ∧ u'.cell? ⟨gv, i * 5 + 1, none⟩ = some (.int .i64 e1.kind) ∧ u'.cell? ⟨gv, i * 5 + 2, none⟩ = some (.int .i64 e1.lc.k) ∧ u'.cell? ⟨gv, i * 5 + 3, none⟩ = some (.int .i64 e1.lc.a) ∧ u'.cell? ⟨gv, i * 5 + 4, none⟩ = some (.int .i64 e1.lc.b) ∧ u'.cell? ⟨gv, j * 5, none⟩ = some (.int .i64 e2.who) ∧ u'.cell? ⟨gv, j * 5 + 1, none⟩ = some (.int .i64 e2.kind) ∧ u'.cell? ⟨gv, j * 5 + 2, none⟩ = some (.int .i64 e2.lc.k) ∧ u'.cell? ⟨gv, j * 5 + 3, none⟩ = some (.int .i64 e2.lc.a) ∧ u'.cell? ⟨gv, j * 5 + 4, none⟩ = some (.int .i64 e2.lc.b) ∧ u'.cell? ⟨bc, 0, none⟩ = some (.slice (some ⟨gr, 0, none⟩) m c2) ∧ u'.cell? ⟨gr, i, none⟩ = some (.slice B1 n1 q1) ∧ u'.cell? ⟨gr, j, none⟩ = some (.slice B2 n2 q2))) (by kernel_rfl) (cel.out _ st.out) (fun hHeld => ?_)
      refine takeH (i := 0) (v := ?_) rfl (by kernel_rfl) (by kernel_rfl) (by kernel_rfl) (fun _ _ _ h => h) (Or.inl ⟨by rfl, ?_⟩) (by assumption) ?_
      rotate_left 1
      · (intro w hSw; (try dsimp only at hSw); go_simp; try (with_reducible rfl))
      try simp only [Act.put, List.setIfInBounds_toArray, List.set_cons_zero, List.set_cons_succ]
      refine takeH (i := 1) (v := ?_) rfl (by kernel_rfl) (by kernel_rfl) (by kernel_rfl) (fun _ _ _ h => h) (Or.inl ⟨by rfl, ?_⟩) (by assumption) ?_
      rotate_left 1
      · (intro w hSw; (try dsimp only at hSw); go_simp; try (with_reducible rfl))
      try simp only [Act.put, List.setIfInBounds_toArray, List.set_cons_zero, List.set_cons_succ]
      refine takeH (i := 2) (v := ?_) rfl (by kernel_rfl) (by kernel_rfl) (by kernel_rfl) (fun _ _ _ h => h) (Or.inl ⟨by rfl, ?_⟩) (by assumption) ?_
      rotate_left 1
      · (intro w hSw; (try dsimp only at hSw); go_simp; try (with_reducible rfl))
      try simp only [Act.put, List.setIfInBounds_toArray, List.set_cons_zero, List.set_cons_succ]
      refine takeH (i := 3) (v := ?_) rfl (by kernel_rfl) (by kernel_rfl) (by kernel_rfl) (fun _ _ _ h => h) (Or.inl ⟨by rfl, ?_⟩) (by assumption) ?_
      rotate_left 1
      · (intro w hSw; (try dsimp only at hSw); go_simp; try (with_reducible rfl))
      try simp only [Act.put, List.setIfInBounds_toArray, List.set_cons_zero, List.set_cons_succ]
      refine takeH (i := 4) (v := ?_) rfl (by kernel_rfl) (by kernel_rfl) (by kernel_rfl) (fun _ _ _ h => h) (Or.inl ⟨by rfl, ?_⟩) (by assumption) ?_
      rotate_left 1
      · (intro w hSw; (try dsimp only at hSw); go_simp; try (with_reducible rfl))
      try simp only [Act.put, List.setIfInBounds_toArray, List.set_cons_zero, List.set_cons_succ]
      refine takeH (i := 5) (v := ?_) rfl (by kernel_rfl) (by kernel_rfl) (by kernel_rfl) (fun _ _ _ h => h) (Or.inl ⟨by rfl, ?_⟩) (by assumption) ?_
      rotate_left 1
      · (intro w hSw; (try dsimp only at hSw); go_simp; try (with_reducible rfl))
      try simp only [Act.put, List.setIfInBounds_toArray, List.set_cons_zero, List.set_cons_succ]
      refine takeH (i := 6) (v := ?_) rfl (by kernel_rfl) (by kernel_rfl) (by kernel_rfl) (fun _ _ _ h => h) (Or.inl ⟨by rfl, ?_⟩) (by assumption) ?_
      rotate_left 1
      · (intro w hSw; (try dsimp only at hSw); go_simp; try (with_reducible rfl))
      try simp only [Act.put, List.setIfInBounds_toArray, List.set_cons_zero, List.set_cons_succ]
      refine takeH (i := 7) (v := ?_) rfl (by kernel_rfl) (by kernel_rfl) (by kernel_rfl) (fun _ _ _ h => h) (Or.inl ⟨by rfl, ?_⟩) (by assumption) ?_
      rotate_left 1
      · (intro w hSw; (try dsimp only at hSw); go_simp; try (with_reducible rfl))
      try simp only [Act.put, List.setIfInBounds_toArray, List.set_cons_zero, List.set_cons_succ]
      refine wpAnyH_ready (rs := [8]) (by kernel_rfl) (by simp) ?_
      refine consH rfl (fun K hK => ?_) AllReadyH.nil
      go_simp
      refine (cf.out _).mono ?_
      rintro e v ⟨rfl, o⟩
      have st := Lib.hid (st.out.trans' o)
      clear o
      refine hK.out _ _ (cel.out _ st.out) (fun hHeld2 => ?_)
      clear hK K hHeld
      have hHeld := hHeld2
      clear hHeld2
      try simp only [Act.put, List.setIfInBounds_toArray, List.set_cons_zero, List.set_cons_succ]
      refine takeH (i := 9) (v := ?_) rfl (by kernel_rfl) (by kernel_rfl) (by kernel_rfl) (fun _ _ _ h => h) (Or.inl ⟨by rfl, ?_⟩) (by assumption) ?_
      rotate_left 1
      · (intro w hSw; (try dsimp only at hSw); go_simp; try (with_reducible rfl))
      try simp only [Act.put, List.setIfInBounds_toArray, List.set_cons_zero, List.set_cons_succ]
      refine takeH (i := 10) (v := ?_) rfl (by kernel_rfl) (by kernel_rfl) (by kernel_rfl) (fun _ _ _ h => h) (Or.inl ⟨by rfl, ?_⟩) (by assumption) ?_
      rotate_left 1
      · (intro w hSw; (try dsimp only at hSw); go_simp; try (with_reducible rfl))
      try simp only [Act.put, List.setIfInBounds_toArray, List.set_cons_zero, List.set_cons_succ]
      refine takeH (i := 11) (v := ?_) rfl (by kernel_rfl) (by kernel_rfl) (by kernel_rfl) (fun _ _ _ h => h) (Or.inl ⟨by rfl, ?_⟩) (by assumption) ?_
      rotate_left 1
      · (intro w hSw; (try dsimp only at hSw); go_simp; try (with_reducible rfl))
      try simp only [Act.put, List.setIfInBounds_toArray, List.set_cons_zero, List.set_cons_succ]
      refine takeH (i := 12) (v := ?_) rfl (by kernel_rfl) (by kernel_rfl) (by kernel_rfl) (fun _ _ _ h => h) (Or.inl ⟨by rfl, ?_⟩) (by assumption) ?_
      rotate_left 1
      · (intro w hSw; (try dsimp only at hSw); go_simp; try (with_reducible rfl))
      try simp only [Act.put, List.setIfInBounds_toArray, List.set_cons_zero, List.set_cons_succ]
      refine takeH (i := 13) (v := ?_) rfl (by kernel_rfl) (by kernel_rfl) (by kernel_rfl) (fun _ _ _ h => h) (Or.inl ⟨by rfl, ?_⟩) (by assumption) ?_
      rotate_left 1
      · (intro w hSw; (try dsimp only at hSw); go_simp; try (with_reducible rfl))
      try simp only [Act.put, List.setIfInBounds_toArray, List.set_cons_zero, List.set_cons_succ]
      refine takeH (i := 14) (v := ?_) rfl (by kernel_rfl) (by kernel_rfl) (by kernel_rfl) (fun _ _ _ h => h) (Or.inl ⟨by rfl, ?_⟩) (by assumption) ?_
      rotate_left 1
      · (intro w hSw; (try dsimp only at hSw); go_simp; try (with_reducible rfl))
      try simp only [Act.put, List.setIfInBounds_toArray, List.set_cons_zero, List.set_cons_succ]
      refine takeH (i := 15) (v := ?_) rfl (by kernel_rfl) (by kernel_rfl) (by kernel_rfl) (fun _ _ _ h => h) (Or.inl ⟨by rfl, ?_⟩) (by assumption) ?_
      rotate_left 1
      · (intro w hSw; (try dsimp only at hSw); go_simp; try (with_reducible rfl))
      try simp only [Act.put, List.setIfInBounds_toArray, List.set_cons_zero, List.set_cons_succ]
      refine takeH (i := 16) (v := ?_) rfl (by kernel_rfl) (by kernel_rfl) (by kernel_rfl) (fun _ _ _ h => h) (Or.inl ⟨by rfl, ?_⟩) (by assumption) ?_
      rotate_left 1
      · (intro w hSw; (try dsimp only at hSw); go_simp; try (with_reducible rfl))
      try simp only [Act.put, List.setIfInBounds_toArray, List.set_cons_zero, List.set_cons_succ]
      refine takeH (i := 17) (v := ?_) rfl (by kernel_rfl) (by kernel_rfl) (by kernel_rfl) (fun _ _ _ h => h) (Or.inl ⟨by rfl, ?_⟩) (by assumption) ?_
      rotate_left 1
      · (intro w hSw; (try dsimp only at hSw); go_simp; try (with_reducible rfl))
      try simp only [Act.put, List.setIfInBounds_toArray, List.set_cons_zero, List.set_cons_succ]
      refine wpAnyH_ready (rs := [18]) (by kernel_rfl) (by simp) ?_
      refine consH rfl (fun K hK => ?_) AllReadyH.nil
      go_simp
      refine (lq.out _ st.out).mono ?_
      rintro e v ⟨rfl, o⟩
      have st := Lib.hid (st.out.trans' o)
      clear o
      refine hK.out _ _ (cel.out _ st.out) (fun hHeld2 => ?_)
      clear hK K hHeld
      have hHeld := hHeld2
      clear hHeld2
      try simp only [Act.put, List.setIfInBounds_toArray, List.set_cons_zero, List.set_cons_succ]
      refine takeH (i := 19) (v := ?_) rfl (by kernel_rfl) (by kernel_rfl) (by kernel_rfl) (fun _ _ _ h => h) (Or.inl ⟨by rfl, ?_⟩) (by assumption) ?_
      rotate_left 1
      · (intro w hSw; (try dsimp only at hSw); go_simp; try (with_reducible rfl))
      try simp only [Act.put, List.setIfInBounds_toArray, List.set_cons_zero, List.set_cons_succ]
      refine takeH (i := 20) (v := ?_) rfl (by kernel_rfl) (by kernel_rfl) (by kernel_rfl) (fun _ _ _ h => h) (Or.inl ⟨by rfl, ?_⟩) (by assumption) ?_
      rotate_left 1
      · (intro w hSw; (try dsimp only at hSw); go_simp; try (with_reducible rfl))
      try simp only [Act.put, List.setIfInBounds_toArray, List.set_cons_zero, List.set_cons_succ]
      refine takeH (i := 21) (v := ?_) rfl (by kernel_rfl) (by kernel_rfl) (by kernel_rfl) (fun _ _ _ h => h) (Or.inl ⟨by rfl, ?_⟩) (by assumption) ?_
      rotate_left 1
      · (intro w hSw; (try dsimp only at hSw); go_simp; try (with_reducible rfl))
      try simp only [Act.put, List.setIfInBounds_toArray, List.set_cons_zero, List.set_cons_succ]
      refine wpAnyH_done (by kernel_rfl) ?_ _
      go_wp2_with fail
      go_ret
      exact ⟨by rw [E.out]; rfl, st.out⟩
end Go.Proofs.Ytmgmfihjojhilaa
