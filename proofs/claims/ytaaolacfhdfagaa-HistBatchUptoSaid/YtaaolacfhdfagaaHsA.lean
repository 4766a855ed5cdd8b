/-
  Calls in memory (twelve cells each); rows of them; what comes in.
-/
import Derived.Test.YtaaolacfhdfagaaClkB
import Derived.Deep.RegionHeld3
import Derived.Deep.Cut
import Derived.Laws.IdiomCopy
namespace Go.Proofs.Ytaaolacfhdfagaa
set_option maxRecDepth 100000
open Go.RowKit
set_option linter.unusedVariables false
set_option linter.unusedSimpArgs false
set_option maxRecDepth 100000

/-- A call of a history; A, m, c: where its packets lie. -/
structure Dn where
  who : Int
  place : Int
  op : Int
  f : Int
  a : Int
  b : Int
  e : Int
  A : Option Addr
  m : Nat
  c : Nat
  n : Int
  v : Int
  fr : Int
  to : Int
deriving DecidableEq, Inhabited
def Dn.cs (x : Dn) : List Value := [.int .i64 x.who, .int .i64 x.place, .int .i64 x.op, .int .i64 x.f, .int .i64 x.a, .int .i64 x.b, .int .i64 x.e, .slice x.A x.m x.c, .int .i64 x.n, .int .u64 x.v, .int .i64 x.fr, .int .i64 x.to]
theorem Dn.one (x : Dn) : ∀ u ∈ x.cs, u.oneCell' = true := fun u hu => by
  simp [Dn.cs] at hu
  rcases hu with rfl | rfl | rfl | rfl | rfl | rfl | rfl | rfl | rfl | rfl | rfl | rfl <;> rfl
def dE : El Dn 12 where
  T := 30
  cs := Dn.cs
  z := .agg #[.int .i64 0, .int .i64 0, .int .i64 0, .int .i64 0, .int .i64 0, .int .i64 0, .int .i64 0, .slice none 0 0, .int .i64 0, .int .u64 0, .int .i64 0, .int .i64 0]
  wide := 112
  len := fun _ => rfl
  one := Dn.one
  pos := by decide
  info := by kernel_rfl
  zs := rfl
  small := by decide
def kE : El Dn 12 where
  T := 41
  cs := Dn.cs
  z := .agg #[.int .i64 0, .int .i64 0, .int .i64 0, .int .i64 0, .int .i64 0, .int .i64 0, .int .i64 0, .slice none 0 0, .int .i64 0, .int .u64 0, .int .i64 0, .int .i64 0]
  wide := 112
  len := fun _ => rfl
  one := Dn.one
  pos := by decide
  info := by kernel_rfl
  zs := rfl
  small := by decide

/-- The twelve cells of a call. -/
def DnAt (w : World) (g o : Nat) (x : Dn) : Prop := w.cell? ⟨g, o, none⟩ = some (.int .i64 x.who) ∧ w.cell? ⟨g, o + 1, none⟩ = some (.int .i64 x.place) ∧ w.cell? ⟨g, o + 2, none⟩ = some (.int .i64 x.op) ∧ w.cell? ⟨g, o + 3, none⟩ = some (.int .i64 x.f) ∧ w.cell? ⟨g, o + 4, none⟩ = some (.int .i64 x.a) ∧ w.cell? ⟨g, o + 5, none⟩ = some (.int .i64 x.b) ∧ w.cell? ⟨g, o + 6, none⟩ = some (.int .i64 x.e) ∧ w.cell? ⟨g, o + 7, none⟩ = some (.slice x.A x.m x.c) ∧ w.cell? ⟨g, o + 8, none⟩ = some (.int .i64 x.n) ∧ w.cell? ⟨g, o + 9, none⟩ = some (.int .u64 x.v) ∧ w.cell? ⟨g, o + 10, none⟩ = some (.int .i64 x.fr) ∧ w.cell? ⟨g, o + 11, none⟩ = some (.int .i64 x.to)
theorem DnAt.lt {w : World} {g o : Nat} {x : Dn} (h : DnAt w g o x) : g < w.heap.size := World.block_lt_of_cell? w _ h.1
theorem DnAt.only {w w' : World} {S : List Nat} {g o : Nat} {x : Dn} (h : DnAt w g o x) (ho : Only S w w') (hS : g ∉ S) : DnAt w' g o x := by
  have hl := h.lt
  obtain ⟨h0, h1, h2, h3, h4, h5, h6, h7, h8, h9, h10, h11⟩ := h
  exact ⟨(ho.cell hl hS).trans h0, (ho.cell hl hS).trans h1, (ho.cell hl hS).trans h2, (ho.cell hl hS).trans h3, (ho.cell hl hS).trans h4, (ho.cell hl hS).trans h5, (ho.cell hl hS).trans h6, (ho.cell hl hS).trans h7, (ho.cell hl hS).trans h8, (ho.cell hl hS).trans h9, (ho.cell hl hS).trans h10, (ho.cell hl hS).trans h11⟩
theorem DnAt.only0 {w w' : World} {g o : Nat} {x : Dn} (h : DnAt w g o x) (ho : Only [] w w') : DnAt w' g o x := h.only ho (by simp)
theorem DnAt.of_cells {w : World} {g : Nat} {x : Dn} {t : TypeId} (hb : w.heap[g]? = some (.cells #[.int .i64 x.who, .int .i64 x.place, .int .i64 x.op, .int .i64 x.f, .int .i64 x.a, .int .i64 x.b, .int .i64 x.e, .slice x.A x.m x.c, .int .i64 x.n, .int .u64 x.v, .int .i64 x.fr, .int .i64 x.to] t (0, 0))) : DnAt w g 0 x := by
  refine ⟨?_, ?_, ?_, ?_, ?_, ?_, ?_, ?_, ?_, ?_, ?_, ?_⟩ <;> (rw [cell_of_row w _ _ _ _ (0, 0) hb]; rfl)
theorem DnAt.box (w : World) (x : Dn) (t : TypeId) : DnAt (w.alloc (.cells #[.int .i64 x.who, .int .i64 x.place, .int .i64 x.op, .int .i64 x.f, .int .i64 x.a, .int .i64 x.b, .int .i64 x.e, .slice x.A x.m x.c, .int .i64 x.n, .int .u64 x.v, .int .i64 x.fr, .int .i64 x.to] t)) w.heap.size 0 x := DnAt.of_cells (heap_alloc_new w _)
/-- Two calls in boxes of their own. -/
theorem DnAt.boxes (w : World) (x y : Dn) (t : TypeId) : DnAt ((w.alloc (.cells #[.int .i64 x.who, .int .i64 x.place, .int .i64 x.op, .int .i64 x.f, .int .i64 x.a, .int .i64 x.b, .int .i64 x.e, .slice x.A x.m x.c, .int .i64 x.n, .int .u64 x.v, .int .i64 x.fr, .int .i64 x.to] t)).alloc (.cells #[.int .i64 y.who, .int .i64 y.place, .int .i64 y.op, .int .i64 y.f, .int .i64 y.a, .int .i64 y.b, .int .i64 y.e, .slice y.A y.m y.c, .int .i64 y.n, .int .u64 y.v, .int .i64 y.fr, .int .i64 y.to] t)) w.heap.size 0 x ∧ DnAt ((w.alloc (.cells #[.int .i64 x.who, .int .i64 x.place, .int .i64 x.op, .int .i64 x.f, .int .i64 x.a, .int .i64 x.b, .int .i64 x.e, .slice x.A x.m x.c, .int .i64 x.n, .int .u64 x.v, .int .i64 x.fr, .int .i64 x.to] t)).alloc (.cells #[.int .i64 y.who, .int .i64 y.place, .int .i64 y.op, .int .i64 y.f, .int .i64 y.a, .int .i64 y.b, .int .i64 y.e, .slice y.A y.m y.c, .int .i64 y.n, .int .u64 y.v, .int .i64 y.fr, .int .i64 y.to] t)) (w.heap.size + 1) 0 y := by
  refine ⟨(DnAt.box w x t).only ((Only.refl [] _).alloc _) (by simp), ?_⟩
  have := DnAt.box (w.alloc (.cells #[.int .i64 x.who, .int .i64 x.place, .int .i64 x.op, .int .i64 x.f, .int .i64 x.a, .int .i64 x.b, .int .i64 x.e, .slice x.A x.m x.c, .int .i64 x.n, .int .u64 x.v, .int .i64 x.fr, .int .i64 x.to] t)) y t
  rwa [World.size_alloc] at this

/-! ### lists of calls -/
def dns (xs : List Dn) (k : Nat) : Dn := xs.getD k default
theorem dns_get {xs : List Dn} {k : Nat} (h : k < xs.length) : xs[k]? = some (dns xs k) := by simp [dns, List.getElem?_eq_getElem h]
theorem dns_eq {xs : List Dn} {k : Nat} {x : Dn} (h : xs[k]? = some x) : dns xs k = x := by simp [dns, h]
theorem dns_mem {xs : List Dn} {k : Nat} (h : k < xs.length) : dns xs k ∈ xs := List.mem_of_getElem? (dns_get h)
/-- A slice's address leads to these calls. -/
def Dns (w : World) (A : Option Addr) (xs : List Dn) : Prop := ∀ k x, xs[k]? = some x → ∃ g, A = some ⟨g, 0, none⟩ ∧ DnAt w g (k * 12) x
section
variable {w w' : World} {A : Option Addr} {xs : List Dn}
theorem Dns.nil (w : World) (A : Option Addr) : Dns w A [] := fun k x h => by simp at h
theorem Dns.only (h : Dns w A xs) {S : List Nat} (ho : Only S w w') (hS : ∀ g, A = some ⟨g, 0, none⟩ → g ∉ S) : Dns w' A xs := fun k x hx => by
  obtain ⟨g, e, hc⟩ := h k x hx
  exact ⟨g, e, hc.only ho (hS g e)⟩
theorem Dns.only0 (h : Dns w A xs) (ho : Only [] w w') : Dns w' A xs := h.only ho (by simp)
theorem Dns.of_row {E : El Dn 12} (hE : E.cs = Dn.cs) {m cap : Nat} (h : E.Row w (.slice A m cap) xs) : Dns w A xs := fun k x hx => by
  obtain ⟨g, e, hg, hc⟩ := h.cell hx
  have c : ∀ j u, x.cs[j]? = some u → w.cell? ⟨g, k * 12 + j, none⟩ = some u := fun j u hu => (hc j u (by rw [hE]; exact hu)).1
  exact ⟨g, e, c 0 _ rfl, c 1 _ rfl, c 2 _ rfl, c 3 _ rfl, c 4 _ rfl, c 5 _ rfl, c 6 _ rfl, c 7 _ rfl, c 8 _ rfl, c 9 _ rfl, c 10 _ rfl, c 11 _ rfl⟩
theorem Dns.at_ (h : Dns w A xs) {k : Nat} (hk : k < xs.length) : ∃ g, A = some ⟨g, 0, none⟩ ∧ DnAt w g (k * 12) (dns xs k) := h k _ (dns_get hk)
end
theorem El.Row.lenOf {α : Type} {n : Nat} {E : El α n} {w : World} {A : Option Addr} {m c : Nat} {L : List α} (h : E.Row w (.slice A m c) L) : L.length = m := by
  rcases h.2 with ⟨e, e2⟩ | ⟨g, cap, cur, e, _⟩
  · injection e with _ e _; omega
  · injection e with _ e _; exact e.symm
theorem El.Row.addr {α : Type} {n : Nat} {E : El α n} {w : World} {A : Option Addr} {m c : Nat} {L : List α} (h : E.Row w (.slice A m c) L) : A = none ∨ ∃ g, A = some ⟨g, 0, none⟩ := by
  rcases h.2 with ⟨e, _⟩ | ⟨g, cap, cur, e, _⟩
  · injection e with e; exact .inl e
  · injection e with e; exact .inr ⟨g, e⟩
theorem El.Row.capOf {α : Type} {n : Nat} {E : El α n} {w : World} {g m c : Nat} {L : List α} (h : E.Row w (.slice (some ⟨g, 0, none⟩) m c) L) : m ≤ c := by
  rcases h.2 with ⟨e, _⟩ | ⟨g', cap, cur, e, _, _, hnc, _⟩
  · cases e
  · injection e with _ e2 e3; omega

/-! ### elements stored -/
/-- Cells written one behind the other. -/
def wrL (cur : Array Value) : Nat → List Value → Array Value
  | _, [] => cur
  | o, v :: r => wrL (cur.setIfInBounds o v) (o + 1) r
theorem wrL_size : ∀ (vs : List Value) (o : Nat) (cur : Array Value), (wrL cur o vs).size = cur.size
  | [], _, _ => rfl
  | v :: r, o, cur => by rw [wrL, wrL_size r]; simp
theorem wrL_get : ∀ (vs : List Value) (o : Nat) (cur : Array Value) (j : Nat), (wrL cur o vs)[j]? = if o ≤ j ∧ j < o + vs.length ∧ j < cur.size then vs[j - o]? else cur[j]?
  | [], o, cur, j => by rw [wrL, if_neg (by simp; omega)]
  | v :: r, o, cur, j => by
    rw [wrL, wrL_get r, Array.size_setIfInBounds]
    by_cases h1 : o + 1 ≤ j ∧ j < o + 1 + r.length ∧ j < cur.size
    · rw [if_pos h1, if_pos (by simp only [List.length_cons]; omega), show j - o = (j - (o + 1)) + 1 by omega]
      simp
    · rw [if_neg h1, Array.getElem?_setIfInBounds]
      by_cases h2 : o = j
      · subst h2
        rw [if_pos rfl]
        by_cases h3 : o < cur.size
        · rw [if_pos h3, if_pos ⟨Nat.le_refl _, by simp only [List.length_cons]; omega, h3⟩]; simp
        · rw [if_neg h3, if_neg (by omega), Array.getElem?_eq_none (by omega)]
      · rw [if_neg h2, if_neg (by simp only [List.length_cons]; omega)]
theorem setCells_blk (g : Nat) {t : TypeId} : ∀ (vs : List Value) (o : Nat) (w : World) (cur : Array Value), w.heap[g]? = some (.cells cur t (0, 0)) → (w.setCells g o vs).heap[g]? = some (.cells (wrL cur o vs) t (0, 0))
  | [], _, _, _, h => h
  | v :: r, o, w, cur, h => by
    rw [World.setCells, wrL]
    exact setCells_blk g r (o + 1) _ _ (by simp [World.setCell, Array.getElem?_modify, h])
theorem Only.setCells (b : Nat) : ∀ (vs : List Value) (o : Nat) (w : World), Only [b] w (w.setCells b o vs)
  | [], _, w => Only.refl _ w
  | v :: r, o, w => ((Only.refl [b] w).setCell (p := ⟨b, o, none⟩) (.inl (by simp)) v).trans' (Only.setCells b r (o + 1) _)
theorem El.Row.storeN {α : Type} {n : Nat} {E : El α n} {w : World} {g m cap : Nat} {xs : List α} (h : E.Row w (.slice (some ⟨g, 0, none⟩) m cap) xs) (k : Nat) (x : α) (hk : k < xs.length) :
    E.Row (w.setCells g (k * n) (E.cs x)) (.slice (some ⟨g, 0, none⟩) m cap) (xs.set k x) := by
  obtain ⟨h1, h2⟩ := h
  rcases h2 with ⟨e, _⟩ | ⟨g', cap', cur, e, h0, hg, hn, hc, hsz, hcur⟩
  · cases e
  · injection e with e1 e2 e3
    injection e1 with e1
    injection e1 with e1
    subst e1 e2 e3
    refine ⟨by rw [E.flat_length], .inr ⟨g, cap, wrL cur (k * n) (E.cs x), by simp, h0, setCells_blk g _ _ _ _ hg, by simpa using hn, hc, by rw [wrL_size]; exact hsz, ?_⟩⟩
    have hn0 := E.pos
    apply List.ext_getElem?
    intro j
    rw [List.getElem?_take, List.length_set]
    by_cases hj : j < xs.length * n
    · rw [if_pos hj]
      have hq : j / n < xs.length := by rw [Nat.div_lt_iff_lt_mul hn0]; exact hj
      have hm : j % n < n := Nat.mod_lt _ hn0
      have ej : j / n * n + j % n = j := by rw [Nat.mul_comm]; exact Nat.div_add_mod j n
      have hjc : j < cur.size := by
        have h9 : xs.length * n ≤ cap * n := Nat.mul_le_mul_right n hn
        rw [hsz]; omega
      rw [Array.getElem?_toList, wrL_get, E.len]
      by_cases he : j / n = k
      · have h5 := E.flat_at (xs.set k x) k x (by simp [hk]) (j % n) hm
        rw [← he, ej] at h5
        rw [← he, h5, if_pos ⟨by omega, by omega, hjc⟩]
        congr 1
        omega
      · have h5 := E.flat_at (xs.set k x) (j / n) xs[j / n] (by rw [List.getElem?_set_ne (by omega)]; exact List.getElem?_eq_getElem hq) (j % n) hm
        have h6 := E.flat_at xs (j / n) xs[j / n] (List.getElem?_eq_getElem hq) (j % n) hm
        rw [ej] at h5 h6
        have hno : ¬ (k * n ≤ j ∧ j < k * n + n ∧ j < cur.size) := by
          rintro ⟨a1, a2, _⟩
          apply he
          have : j / n ≥ k := (Nat.le_div_iff_mul_le hn0).2 a1
          have : j / n < k + 1 := (Nat.div_lt_iff_lt_mul hn0).2 (by rw [Nat.add_mul]; omega)
          omega
        rw [if_neg hno, h5, ← h6, ← hcur, List.getElem?_take, if_pos hj, Array.getElem?_toList]
    · rw [if_neg hj, List.getElem?_eq_none (by rw [E.flat_length, List.length_set]; omega)]
/-- What is written behind the row does not touch it. -/
theorem El.Row.farN {α : Type} {n : Nat} {E : El α n} {w : World} {g m cap : Nat} {xs : List α} (h : E.Row w (.slice (some ⟨g, 0, none⟩) m cap) xs) (o : Nat) (ho : xs.length * n ≤ o) (vs : List Value) :
    E.Row (w.setCells g o vs) (.slice (some ⟨g, 0, none⟩) m cap) xs := by
  obtain ⟨h1, h2⟩ := h
  rcases h2 with ⟨e, _⟩ | ⟨g', cap', cur, e, h0, hg, hn, hc, hsz, hcur⟩
  · cases e
  · injection e with e1 e2 e3
    injection e1 with e1
    injection e1 with e1
    subst e1 e2 e3
    refine ⟨h1, .inr ⟨g, cap, wrL cur o vs, rfl, h0, setCells_blk g _ _ _ _ hg, hn, hc, by rw [wrL_size]; exact hsz, ?_⟩⟩
    rw [← hcur]
    apply List.ext_getElem?
    intro j
    rw [List.getElem?_take, List.getElem?_take]
    by_cases hj : j < xs.length * n
    · rw [if_pos hj, if_pos hj, Array.getElem?_toList, Array.getElem?_toList, wrL_get, if_neg (by omega)]
    · rw [if_neg hj, if_neg hj]
theorem El.Row.cutN {α : Type} {n : Nat} {E : El α n} {w : World} {g m cap : Nat} {xs : List α} (h : E.Row w (.slice (some ⟨g, 0, none⟩) m cap) xs) {p : Nat} (hm : p ≤ xs.length) : E.Row w (.slice (some ⟨g, 0, none⟩) p cap) (xs.take p) := by
  obtain ⟨h1, h2⟩ := h
  rcases h2 with ⟨e, _⟩ | ⟨g', cap', cur, e, h0, hg, hn, hc, hsz, hcur⟩
  · cases e
  · injection e with e1 e2 e3
    injection e1 with e1
    injection e1 with e1
    subst e1 e2 e3
    have el : (xs.take p).length = p := by simp [hm]
    refine ⟨by rw [E.flat_length], .inr ⟨g, cap, cur, by rw [el], h0, hg, by omega, hc, hsz, ?_⟩⟩
    rw [el, ← E.flat_take, ← hcur, List.take_take]
    congr 1
    exact (Nat.min_eq_left (Nat.mul_le_mul_right n hm)).symm
/-- Twelve cells written, one by one. -/
theorem set12 (w : World) (g o : Nat) (x : Dn) : ((((((((((((w.setCell ⟨g, o, none⟩ (.int .i64 x.who)).setCell ⟨g, o + 1, none⟩ (.int .i64 x.place)).setCell ⟨g, o + 2, none⟩ (.int .i64 x.op)).setCell ⟨g, o + 3, none⟩ (.int .i64 x.f)).setCell ⟨g, o + 4, none⟩ (.int .i64 x.a)).setCell ⟨g, o + 5, none⟩ (.int .i64 x.b)).setCell ⟨g, o + 6, none⟩ (.int .i64 x.e)).setCell ⟨g, o + 7, none⟩ (.slice x.A x.m x.c)).setCell ⟨g, o + 8, none⟩ (.int .i64 x.n)).setCell ⟨g, o + 9, none⟩ (.int .u64 x.v)).setCell ⟨g, o + 10, none⟩ (.int .i64 x.fr)).setCell ⟨g, o + 11, none⟩ (.int .i64 x.to)) = w.setCells g o x.cs := by
  simp only [World.setCells, Dn.cs, Nat.add_assoc, Nat.reduceAdd]
theorem El.Row.store12 {E : El Dn 12} (hE : E.cs = Dn.cs) {w : World} {g m cap : Nat} {xs : List Dn} (h : E.Row w (.slice (some ⟨g, 0, none⟩) m cap) xs) (k : Nat) (x : Dn) (hk : k < xs.length) :
    E.Row ((((((((((((w.setCell ⟨g, k * 12, none⟩ (.int .i64 x.who)).setCell ⟨g, k * 12 + 1, none⟩ (.int .i64 x.place)).setCell ⟨g, k * 12 + 2, none⟩ (.int .i64 x.op)).setCell ⟨g, k * 12 + 3, none⟩ (.int .i64 x.f)).setCell ⟨g, k * 12 + 4, none⟩ (.int .i64 x.a)).setCell ⟨g, k * 12 + 5, none⟩ (.int .i64 x.b)).setCell ⟨g, k * 12 + 6, none⟩ (.int .i64 x.e)).setCell ⟨g, k * 12 + 7, none⟩ (.slice x.A x.m x.c)).setCell ⟨g, k * 12 + 8, none⟩ (.int .i64 x.n)).setCell ⟨g, k * 12 + 9, none⟩ (.int .u64 x.v)).setCell ⟨g, k * 12 + 10, none⟩ (.int .i64 x.fr)).setCell ⟨g, k * 12 + 11, none⟩ (.int .i64 x.to)) (.slice (some ⟨g, 0, none⟩) m cap) (xs.set k x) := by
  rw [set12]
  have := h.storeN k x hk
  rwa [hE] at this
theorem Only.set12 {S : List Nat} {a w : World} (h : Only S a w) (g o : Nat) (x : Dn) (hp : g ∈ S ∨ a.heap.size ≤ g) : Only S a ((((((((((((w.setCell ⟨g, o, none⟩ (.int .i64 x.who)).setCell ⟨g, o + 1, none⟩ (.int .i64 x.place)).setCell ⟨g, o + 2, none⟩ (.int .i64 x.op)).setCell ⟨g, o + 3, none⟩ (.int .i64 x.f)).setCell ⟨g, o + 4, none⟩ (.int .i64 x.a)).setCell ⟨g, o + 5, none⟩ (.int .i64 x.b)).setCell ⟨g, o + 6, none⟩ (.int .i64 x.e)).setCell ⟨g, o + 7, none⟩ (.slice x.A x.m x.c)).setCell ⟨g, o + 8, none⟩ (.int .i64 x.n)).setCell ⟨g, o + 9, none⟩ (.int .u64 x.v)).setCell ⟨g, o + 10, none⟩ (.int .i64 x.fr)).setCell ⟨g, o + 11, none⟩ (.int .i64 x.to)) := by
  rw [Go.Proofs.Ytaaolacfhdfagaa.set12]
  exact h.trans (Only.setCells g _ o w) (fun k hk => by simp at hk; subst hk; exact hp)
theorem El.Row.frozen {α : Type} {n : Nat} {E : El α n} {w : World} {g m cap : Nat} {xs : List α} (h : E.Row w (.slice (some ⟨g, 0, none⟩) m cap) xs) (o : Nat) (h0 : 0 < xs.length) : w.frozen? ⟨g, o, none⟩ = false := by
  obtain ⟨g', cap', cur, e, _, _, _, hg, _⟩ := h.at_ h0
  injection e with e1 e2 e3
  injection e1 with e1
  injection e1 with e1
  subst e1
  simp [World.frozen?, hg]

/-! ### what comes in -/
def InAt (w : World) (b o : Nat) (s : Option Nat) (x : Dn) : Prop := w.cell? ⟨b, o, s⟩ = some (.int .i64 x.who) ∧ w.cell? ⟨b, o + 1, none⟩ = some (.int .i64 x.place) ∧ w.cell? ⟨b, o + 2, none⟩ = some (.int .i64 x.op) ∧ w.cell? ⟨b, o + 3, none⟩ = some (.int .i64 x.f) ∧
  w.cell? ⟨b, o + 4, none⟩ = some (.int .i64 x.a) ∧ w.cell? ⟨b, o + 5, none⟩ = some (.int .i64 x.b) ∧ w.cell? ⟨b, o + 6, none⟩ = some (.int .i64 x.e) ∧ w.cell? ⟨b, o + 7, none⟩ = some (.slice x.A x.m x.c) ∧ w.cell? ⟨b, o + 8, none⟩ = some (.int .i64 x.n) ∧
  w.cell? ⟨b, o + 9, none⟩ = some (.int .u64 x.v) ∧ w.cell? ⟨b, o + 10, none⟩ = some (.int .i64 x.fr) ∧ w.cell? ⟨b, o + 11, none⟩ = some (.int .i64 x.to)
theorem Only.kp {w w' : World} (ho : Only [] w w') {p : Addr} {v : Value} (h : w.cell? p = some v) : w'.cell? p = some v := (ho.cell (World.block_lt_of_cell? w _ h) (by simp)).trans h
theorem InAt.only0 {w w' : World} {b o : Nat} {s : Option Nat} {x : Dn} (h : InAt w b o s x) (ho : Only [] w w') : InAt w' b o s x := by
  obtain ⟨h0, h1, h2, h3, h4, h5, h6, h7, h8, h9, h10, h11⟩ := h
  exact ⟨ho.kp h0, ho.kp h1, ho.kp h2, ho.kp h3, ho.kp h4, ho.kp h5, ho.kp h6, ho.kp h7, ho.kp h8, ho.kp h9, ho.kp h10, ho.kp h11⟩
/-- A slice of calls that came in. -/
def InDns (w : World) (A : Option Addr) (len : Nat) (ds : Nat → Dn) : Prop :=
  ∀ k, k < len → ∃ (x : Addr) (b o : Nat) (s : Option Nat), A = some x ∧ x.add (k * 12) = ⟨b, o, s⟩ ∧ InAt w b o s (ds k)
theorem InDns.only0 {w w' : World} {A : Option Addr} {len : Nat} {ds : Nat → Dn} (h : InDns w A len ds) (ho : Only [] w w') : InDns w' A len ds := fun k hk => by
  obtain ⟨x, b, o, s, e1, e2, hc⟩ := h k hk
  exact ⟨x, b, o, s, e1, e2, hc.only0 ho⟩

/-! ### a row under way -/
/-- A row of calls that is new since w; all that was there is as it was. -/
structure DFr (w wr : World) (A : Option Addr) (p cap : Nat) (xs : List Dn) : Prop where
  row : dE.Row wr (.slice A p cap) xs
  len : xs.length = p
  new : ∀ k, (Value.slice A p cap).ownBlock = some k → w.heap.size ≤ k
  only : Only [] w wr
section
variable {w wr w' : World} {A : Option Addr} {p cap : Nat} {xs : List Dn}
theorem DFr.nil (h : Only [] w wr) : DFr w wr none 0 0 [] := ⟨El.Row.nil _, rfl, fun k hk => by simp [Value.ownBlock] at hk, h⟩
theorem DFr.only0 (h : DFr w wr A p cap xs) (ho : Only [] wr w') : DFr w w' A p cap xs := ⟨h.row.only0 ho, h.len, h.new, h.only.trans' ho⟩
theorem DFr.dns (h : DFr w wr A p cap xs) : Dns wr A xs := Dns.of_row rfl h.row
theorem DFr.app (h : DFr w wr A p cap xs) {ys : List Dn} {q : Nat} {u : World} {A2 : Option Addr} {cap2 : Nat} {w2 : World} (ho : Only [] wr u) (h2 : dE.Row w2 (.slice A2 q cap2) (xs ++ ys)) (hg : u.grownBy w2 (Value.slice A p cap).ownBlock)
    (hl : (Value.slice A2 q cap2).ownBlock = (Value.slice A p cap).ownBlock ∨ (Value.slice A2 q cap2).ownBlock = some u.heap.size) : DFr w w2 A2 q cap2 (xs ++ ys) := by
  refine ⟨h2, h2.lenOf, fun k hk => ?_, (h.only.trans' ho).grown hg (fun k hk => .inr (h.new k hk))⟩
  rcases hl with hl | hl
  · exact h.new k (hl ▸ hk)
  · rw [hl] at hk
    have h1 := h.only.size
    have h3 := ho.size
    simp at hk
    omega
end
section
variable {w wr : World} {ops : Array Oper} {o : Oper} {a : Act} {K : Act → World → Prop} {Q : Exit → Act → World → Prop}
theorem wp_appD (s x : Operand) (ho : o.op = .call { callee := .builtin .append, args := #[s, x], argTypes := #[34, 34] })
    (A : Option Addr) (p cap : Nat) (xs : List Dn) (v : Dn) (hs : a.eval s = .slice A p cap) (hx : a.eval x = .slice (some ⟨wr.heap.size, 0, none⟩) 1 1) (h : DFr w wr A p cap xs) (hb : p ≤ 90000000)
    (hK : ∀ A2 cap2 w2, DFr w w2 A2 (p + 1) cap2 (xs ++ [v]) → K (a.put o.dst (.slice A2 (p + 1) cap2)) w2) : o.wp Try.prog a (wr.alloc (.cells #[.int .i64 v.who, .int .i64 v.place, .int .i64 v.op, .int .i64 v.f, .int .i64 v.a, .int .i64 v.b, .int .i64 v.e, .slice v.A v.m v.c, .int .i64 v.n, .int .u64 v.v, .int .i64 v.fr, .int .i64 v.to] 30)) K Q := by
  have oB : Only [] wr (wr.alloc (.cells #[.int .i64 v.who, .int .i64 v.place, .int .i64 v.op, .int .i64 v.f, .int .i64 v.a, .int .i64 v.b, .int .i64 v.e, .slice v.A v.m v.c, .int .i64 v.n, .int .u64 v.v, .int .i64 v.fr, .int .i64 v.to] 30)) := (Only.refl [] wr).alloc _
  refine El.wp_append (E := dE) Try.underlying34 s x ho (.slice A p cap) xs hs (h.row.only0 oB) _ 1 1 [v] hx rfl (El.Src.box (E := dE) (x := v) (heap_alloc_new wr _)) (p + 1) (by rw [h.len]) (by omega) ?_
  intro A2 cap2 w2 r2 g2 l2
  exact hK A2 cap2 w2 (h.app oB r2 g2 l2)
theorem wpList_appD {rest : List Oper} (hgd : o.guard = none) (s x : Operand) (ho : o.op = .call { callee := .builtin .append, args := #[s, x], argTypes := #[34, 34] })
    (A : Option Addr) (p cap : Nat) (xs : List Dn) (v : Dn) (hs : a.eval s = .slice A p cap) (hx : a.eval x = .slice (some ⟨wr.heap.size, 0, none⟩) 1 1) (h : DFr w wr A p cap xs) (hb : p ≤ 90000000)
    (hK : ∀ A2 cap2 w2, DFr w w2 A2 (p + 1) cap2 (xs ++ [v]) → wpList Try.prog ops Q rest (a.put o.dst (.slice A2 (p + 1) cap2)) w2) : wpList Try.prog ops Q (o :: rest) a (wr.alloc (.cells #[.int .i64 v.who, .int .i64 v.place, .int .i64 v.op, .int .i64 v.f, .int .i64 v.a, .int .i64 v.b, .int .i64 v.e, .slice v.A v.m v.c, .int .i64 v.n, .int .u64 v.v, .int .i64 v.fr, .int .i64 v.to] 30)) :=
  wpList_plain hgd fun _ hK' => wp_appD s x ho A p cap xs v hs hx h hb fun A2 cap2 w2 h2 => hK' _ _ (hK A2 cap2 w2 h2)
end

/-! ### regions, step by step -/
/-- An operation that is taken first, read off the region's list. -/
theorem takeH {P : Program} {Q : Exit → Act → World → Prop} {md : Region.Mode} {S : World → Prop} {l : List Oper} {i : Nat} {oi : Oper} {v : Value} {fuel : Nat} {listed : Array Bool} {a : Act} {w : World} (hi : l[i]? = some oi)
    (hs : Region.noSelect l.toArray = true) (hf : Region.free md l.toArray listed i = true) (hr : (Region.ready md l.toArray listed).contains i = true)
    (hQ : ∀ c a w, Q (.panic c) (a.put oi.dst v) w → Q (.panic c) a w) (hy : YieldsIf P l.toArray S oi v a) (hS : S w)
    (h : wpAnyH P md l.toArray Q S fuel (listed.setIfInBounds i true) (a.put oi.dst v) w) : wpAnyH P md l.toArray Q S (fuel + 1) listed a w :=
  wpAnyH_take (by simpa using hi) hs hf hr hQ hy hS h
theorem consH {P : Program} {Q : Exit → Act → World → Prop} {md : Region.Mode} {S : World → Prop} {l : List Oper} {fuel : Nat} {listed : Array Bool} {a : Act} {w : World} {i : Nat} {o : Oper} {rs : List Nat} (ho : l[i]? = some o)
    (h : ∀ K' : Act → World → Prop, Shut (∀ a w, S w → (S w → wpAnyH P md l.toArray Q S fuel (listed.setIfInBounds i true) a w) → K' a w) → if Region.wanted o (yielded l.toArray a.tmps) = true then Oper.wp P o a w K' Q else K' (a.put o.dst undef) w)
    (hs : AllReadyH P md l.toArray Q S fuel listed a w rs) : AllReadyH P md l.toArray Q S fuel listed a w (i :: rs) :=
  AllReadyH.cons (by simpa using ho) h hs
end Go.Proofs.Ytaaolacfhdfagaa
