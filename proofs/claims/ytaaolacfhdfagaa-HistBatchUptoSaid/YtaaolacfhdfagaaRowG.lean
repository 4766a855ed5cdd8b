/-
  Rows of any kind of element (n cells each): what lies where, append, make, store. One text for every element type.
-/
import Derived.Test.YtaaolacfhdfagaaHeapW
import Derived.Deep.RegionLaw
namespace Go.Proofs.Ytaaolacfhdfagaa
set_option maxRecDepth 100000
open Go.RowKit
set_option linter.unusedVariables false
set_option linter.unusedSimpArgs false

/-- A kind of element: its type, its n cells, its zero value. -/
structure El (α : Type) (n : Nat) where
  T : TypeId
  cs : α → List Value
  z : Value
  wide : Nat
  len : ∀ x, (cs x).length = n
  one : ∀ x, ∀ u ∈ cs x, u.oneCell' = true
  pos : 0 < n
  info : (Try.prog.info? T).map (fun i => (i.zero, i.size, i.bytes)) = some (some z, n, wide)
  zs : z.cells.size = n
  small : wide ≤ 1000

theorem addr_at (g o j : Nat) : (⟨g, o, none⟩ : Addr).add j = ⟨g, o + j, none⟩ := by
  unfold Addr.add
  split
  · rename_i h0; subst h0; rfl
  · simp

section
variable {α : Type} {n : Nat} (E : El α n)
def El.flat (xs : List α) : List Value := xs.flatMap E.cs
theorem El.flat_nil : E.flat [] = [] := rfl
theorem El.flat_cons (x : α) (xs : List α) : E.flat (x :: xs) = E.cs x ++ E.flat xs := by simp [El.flat]
theorem El.flat_append (xs ys : List α) : E.flat (xs ++ ys) = E.flat xs ++ E.flat ys := by simp [El.flat]
theorem El.flat_length (xs : List α) : (E.flat xs).length = xs.length * n := by
  induction xs with
  | nil => simp [El.flat]
  | cons x xs ih => rw [E.flat_cons, List.length_append, E.len, ih, List.length_cons, Nat.add_mul]; omega
theorem El.flat_at : ∀ (xs : List α) (k : Nat) (x : α), xs[k]? = some x → ∀ j, j < n → (E.flat xs)[k * n + j]? = (E.cs x)[j]?
  | [], k, x, h, j, hj => by simp at h
  | y :: xs, 0, x, h, j, hj => by
    simp at h
    subst h
    rw [E.flat_cons, Nat.zero_mul, Nat.zero_add, List.getElem?_append_left (by rw [E.len]; exact hj)]
  | y :: xs, k + 1, x, h, j, hj => by
    have ih := El.flat_at xs k x (by simpa using h) j hj
    rw [E.flat_cons, List.getElem?_append_right (by rw [E.len, Nat.add_mul]; omega), E.len, ← ih]
    congr 1
    rw [Nat.add_mul]; omega
theorem El.flat_take : ∀ (xs : List α) (k : Nat), (E.flat xs).take (k * n) = E.flat (xs.take k)
  | [], k => by simp [El.flat]
  | x :: xs, 0 => by simp [El.flat]
  | x :: xs, k + 1 => by
    rw [List.take_succ_cons, E.flat_cons, E.flat_cons, ← El.flat_take xs k, List.take_append, E.len]
    rw [List.take_of_length_le (by rw [E.len, Nat.add_mul]; omega)]
    congr 2
    rw [Nat.add_mul]; omega
theorem El.flat_drop : ∀ (xs : List α) (k : Nat), (E.flat xs).drop (k * n) = E.flat (xs.drop k)
  | [], k => by simp [El.flat]
  | x :: xs, 0 => by simp
  | x :: xs, k + 1 => by
    rw [List.drop_succ_cons, E.flat_cons, ← El.flat_drop xs k, List.drop_append, E.len]
    rw [List.drop_of_length_le (by rw [E.len, Nat.add_mul]; omega), List.nil_append]
    congr 1
    rw [Nat.add_mul]; omega
theorem El.flat_one (xs : List α) : ∀ u ∈ E.flat xs, u.oneCell' = true := by
  intro u hu
  simp only [El.flat, List.mem_flatMap] at hu
  obtain ⟨x, _, hx⟩ := hu
  exact E.one x u hx

/-- A slice: nil, or at the head of a block that holds nothing else. -/
def El.Row (w : World) (v : Value) (xs : List α) : Prop := w.ownsRow 0 E.T n v xs.length (E.flat xs)
variable {E}
theorem El.Row.form {w : World} {v : Value} {xs : List α} (h : E.Row w v xs) : ∃ A cap, v = .slice A xs.length cap := by
  rcases h.2 with ⟨rfl, e⟩ | ⟨g, cap, cur, rfl, _⟩
  · exact ⟨none, 0, by rw [e]⟩
  · exact ⟨_, _, rfl⟩
theorem El.Row.nil (w : World) : E.Row w (.slice none 0 0) [] := ⟨by simp [El.flat], .inl ⟨rfl, rfl⟩⟩
theorem El.Row.nilOf {w : World} {v : Value} {xs : List α} (h : E.Row w v xs) (hv : v.ownBlock = none) : v = .slice none 0 0 ∧ xs = [] := by
  rcases h.2 with ⟨rfl, e⟩ | ⟨g, cap, cur, rfl, _⟩
  · exact ⟨rfl, List.eq_nil_of_length_eq_zero e⟩
  · cases hv
/-- Where it lies. -/
theorem El.Row.at_ {w : World} {v : Value} {xs : List α} (h : E.Row w v xs) (h0 : 0 < xs.length) : ∃ g cap cur, v = .slice (some ⟨g, 0, none⟩) xs.length cap ∧ xs.length ≤ cap ∧ cap ≤ maxLen ∧ g < w.heap.size ∧
    w.heap[g]? = some (.cells cur E.T (0, 0)) ∧ cur.size = cap * n ∧ cur.toList.take (xs.length * n) = E.flat xs := by
  rcases h.2 with ⟨rfl, e⟩ | ⟨g, cap, cur, rfl, _, hg, hn, hcap, hsz, hcur⟩
  · omega
  · exact ⟨g, cap, cur, rfl, hn, hcap, (Array.getElem?_eq_some_iff.1 hg).1, hg, hsz, hcur⟩
/-- The cells of an element. -/
theorem El.Row.cell {w : World} {A : Option Addr} {m cap : Nat} {xs : List α} (h : E.Row w (.slice A m cap) xs) {k : Nat} {x : α} (hk : xs[k]? = some x) :
    ∃ g, A = some ⟨g, 0, none⟩ ∧ g < w.heap.size ∧ ∀ j u, (E.cs x)[j]? = some u → w.cell? ⟨g, k * n + j, none⟩ = some u ∧ w.frozen? ⟨g, k * n + j, none⟩ = false := by
  have hk0 : k < xs.length := (List.getElem?_eq_some_iff.1 hk).1
  obtain ⟨g, c, cur, e, _, _, hg, hb, hsz, hcur⟩ := h.at_ (by omega)
  injection e with e1 e2 e3
  refine ⟨g, e1, hg, fun j u hu => ⟨?_, by simp [World.frozen?, hb]⟩⟩
  have hj : j < n := by
    have := (List.getElem?_eq_some_iff.1 hu).1
    rwa [E.len] at this
  rw [cell_of_row w g _ cur _ (0, 0) hb]
  have h1 := E.flat_at xs k x hk j hj
  have hlt : k * n + j < xs.length * n := by
    have : (k + 1) * n ≤ xs.length * n := Nat.mul_le_mul_right n hk0
    rw [Nat.add_mul] at this; omega
  rw [← hcur, List.getElem?_take, if_pos hlt, hu] at h1
  simpa using h1
theorem El.Row.keep {w w' : World} {v : Value} {xs : List α} (h : E.Row w v xs) (hk : ∀ g, v.ownBlock = some g → w'.heap[g]? = w.heap[g]?) : E.Row w' v xs := by
  refine ⟨h.1, ?_⟩
  rcases h.2 with h2 | ⟨g, cap, cur, rfl, h0, hg, r⟩
  · exact .inl h2
  · exact .inr ⟨g, cap, cur, rfl, h0, (hk g rfl).trans hg, r⟩
theorem El.Row.typ {w : World} {v : Value} {xs : List α} (h : E.Row w v xs) {g : Nat} (hg : v.ownBlock = some g) : ∃ cur, w.heap[g]? = some (.cells cur E.T (0, 0)) := by
  rcases h.2 with ⟨rfl, _⟩ | ⟨g', cap, cur, rfl, h0, hb, r⟩
  · cases hg
  · have : g' = g := by simpa [Value.ownBlock] using hg
    subst this
    exact ⟨cur, hb⟩
theorem El.Row.lt {w : World} {v : Value} {xs : List α} (h : E.Row w v xs) {g : Nat} (hg : v.ownBlock = some g) : g < w.heap.size := by
  obtain ⟨cur, hb⟩ := h.typ hg
  exact (Array.getElem?_eq_some_iff.1 hb).1
/-- A block of another type is another one. -/
theorem El.Row.ne {w : World} {v : Value} {xs : List α} (h : E.Row w v xs) {b : Nat} {cs : Array Value} {t : TypeId} {f : Nat × Nat} (hb : w.heap[b]? = some (.cells cs t f)) (ht : t ≠ E.T) : ∀ g, v.ownBlock = some g → g ≠ b := by
  rintro g hg rfl
  obtain ⟨cur, hc⟩ := h.typ hg
  rw [hb] at hc
  injection hc with hc
  injection hc with _ hc _
  exact ht hc
theorem El.Row.only {w w' : World} {v : Value} {xs : List α} {S : List Nat} (h : E.Row w v xs) (ho : Only S w w') (hS : ∀ g, v.ownBlock = some g → g ∉ S) : E.Row w' v xs :=
  h.keep fun g hg => ho.block g (h.lt hg) (hS g hg)
theorem El.Row.only0 {w w' : World} {v : Value} {xs : List α} (h : E.Row w v xs) (ho : Only [] w w') : E.Row w' v xs := h.only ho (by simp)

/-! ### sources -/
variable (E)
def El.Src (w : World) (A : Option Addr) (ys : List α) : Prop := ys ≠ [] → ∃ ad, A = some ad ∧ ∀ j u, (E.flat ys)[j]? = some u → w.cell? (ad.add j) = some u
variable {E}
theorem El.Src.nil (w : World) (A : Option Addr) : E.Src w A [] := fun h => absurd rfl h
theorem El.Src.drop {w : World} {g m cap : Nat} {xs : List α} (h : E.Row w (.slice (some ⟨g, 0, none⟩) m cap) xs) (k : Nat) : E.Src w (some ⟨g, k * n, none⟩) (xs.drop k) := fun hne => by
  have h0 : 0 < xs.length := by
    rcases xs with _ | ⟨x, xs⟩
    · simp at hne
    · simp
  obtain ⟨g', c, cur, e, _, _, _, hg, hsz, hcur⟩ := h.at_ h0
  injection e with e1 e2 e3
  injection e1 with e1
  injection e1 with e1
  subst e1
  refine ⟨_, rfl, fun j u hu => ?_⟩
  rw [← E.flat_drop, List.getElem?_drop] at hu
  have hj : k * n + j < xs.length * n := by
    have := (List.getElem?_eq_some_iff.1 hu).1
    rwa [E.flat_length] at this
  rw [addr_at, cell_of_row w g _ cur _ (0, 0) hg]
  rw [← hcur, List.getElem?_take, if_pos hj] at hu
  simpa using hu
theorem El.Src.of_row {w : World} {A : Option Addr} {m cap : Nat} {xs : List α} (h : E.Row w (.slice A m cap) xs) : E.Src w A xs := fun hne => by
  obtain ⟨g, c, cur, e, _⟩ := h.at_ (List.length_pos_iff.2 hne)
  injection e with e1 e2 e3
  subst e1
  obtain ⟨ad, e9, r⟩ := El.Src.drop h 0 (by simpa using hne)
  simp only [Nat.zero_mul, List.drop_zero] at e9 r
  exact ⟨ad, e9, r⟩
theorem El.Src.take {w : World} {A : Option Addr} {xs : List α} (h : E.Src w A xs) (k : Nat) : E.Src w A (xs.take k) := fun hne => by
  obtain ⟨ad, e, r⟩ := h (by rintro rfl; simp at hne)
  refine ⟨ad, e, fun j u hu => r j u ?_⟩
  rw [← E.flat_take, List.getElem?_take] at hu
  split at hu
  · exact hu
  · cases hu
theorem El.Src.keep {w w' : World} {A : Option Addr} {ys : List α} (h : E.Src w A ys) (hk : ∀ ad j, A = some ad → (w.cell? (ad.add j)).isSome = true → w'.cell? (ad.add j) = w.cell? (ad.add j)) : E.Src w' A ys := fun hne => by
  obtain ⟨ad, e, hc⟩ := h hne
  exact ⟨ad, e, fun j u hu => (hk ad j e (by rw [hc j u hu]; rfl)).trans (hc j u hu)⟩
theorem El.Src.only0 {w w' : World} {A : Option Addr} {ys : List α} (h : E.Src w A ys) (ho : Only [] w w') : E.Src w' A ys :=
  h.keep fun ad j _ hs => by
    rcases hc : w.cell? (ad.add j) with _ | u
    · rw [hc] at hs; cases hs
    · exact (ho.cell (World.block_lt_of_cell? w _ hc) (by simp)).trans hc
/-- A block that holds one element. -/
theorem El.Src.box {w : World} {b : Nat} {x : α} (h : w.heap[b]? = some (.cells (E.cs x).toArray E.T (0, 0))) : E.Src w (some ⟨b, 0, none⟩) [x] :=
  El.Src.of_row (m := 1) (cap := 1) ⟨by rw [E.flat_length], .inr ⟨b, 1, _, rfl, Nat.zero_le _, h, Nat.le_refl _, by decide, by simp [E.len], by
    have : (E.cs x).length = [x].length * n := by rw [E.len]; simp
    rw [List.toList_toArray, List.take_of_length_le (by omega)]; simp [El.flat]⟩⟩

/-! ### append -/
section
variable {T : TypeId} (hT : Try.prog.underlying T = some (.slice E.T))
include hT
theorem El.run_append (w : World) (ty : TypeId) (v : Value) (xs : List α) (h : E.Row w v xs) (A : Option Addr) (m c : Nat) (ys : List α) (hm : ys.length = m) (hs : E.Src w A ys) (hb : xs.length + m ≤ 100000000) :
    ∃ v' w', (Builtin.append_ #[T, T] ty #[v, .slice A m c]).run Try.prog w = .ok v' w' ∧ E.Row w' v' (xs ++ ys) ∧ w.grownBy w' v.ownBlock ∧ (v'.ownBlock = v.ownBlock ∨ v'.ownBlock = some w.heap.size) := by
  obtain ⟨i0, hi0, hz0, hz1, hz2⟩ := info_parts E.info
  cases A with
  | none =>
    have hy : ys = [] := by
      cases ys with
      | nil => rfl
      | cons y ys => obtain ⟨ad, e, _⟩ := hs (by simp); cases e
    subst hy
    have hm0 : m = 0 := by simpa using hm.symm
    subst hm0
    refine ⟨v, w, ?_, by simpa using h, World.grownBy.refl w _, .inl rfl⟩
    rcases h.2 with ⟨rfl, e⟩ | ⟨g, cap, cur, rfl, _, _, hnc, _⟩
    · simp [Builtin.append_, run_underlying hT, sizeOf, typeInfo, hi0, Builtin.lenOf, Builtin.firstCells]
    · simp [Builtin.append_, run_underlying hT, sizeOf, typeInfo, hi0, Builtin.lenOf, Builtin.firstCells, hnc, storeCells]
  | some ad =>
    have hcells : ∀ j u, (E.flat ys)[j]? = some u → w.cell? (ad.add j) = some u := fun j u hu => by
      obtain ⟨ad', e, hc⟩ := hs (by rintro rfl; simp [El.flat] at hu)
      injection e with e
      subst e
      exact hc j u hu
    have hw : (xs.length + m) * E.wide ≤ 100000000 * 1000 := Nat.mul_le_mul hb E.small
    obtain ⟨v', w', r1, r2, r3, _, r5⟩ := run_append_own_at (P := Try.prog) w 0 T ty E.T i0 E.z n E.wide hT hi0 hz0 hz1 hz2 E.zs E.pos v xs.length (E.flat xs) h ad m c (E.flat ys)
      (by rw [E.flat_length, hm]) hcells (E.flat_one ys) (by unfold maxLen; omega) (by omega) (Nat.zero_le _)
    refine ⟨v', w', r1, ?_, r3, r5⟩
    unfold El.Row
    rw [E.flat_append, List.length_append, hm]
    exact r2
variable {w : World} {ops : Array Oper} {o : Oper} {a : Act} {K : Act → World → Prop} {Q : Exit → Act → World → Prop}
theorem El.wp_append (s x : Operand) (ho : o.op = .call { callee := .builtin .append, args := #[s, x], argTypes := #[T, T] })
    (v : Value) (xs : List α) (hs : a.eval s = v) (h : E.Row w v xs) (A : Option Addr) (m c : Nat) (ys : List α) (hx : a.eval x = .slice A m c) (hm : ys.length = m) (hr : E.Src w A ys) (N : Nat) (hN : xs.length + m = N) (hb : N ≤ 100000000)
    (hK : ∀ A' cap' w', E.Row w' (.slice A' N cap') (xs ++ ys) → w.grownBy w' v.ownBlock → ((Value.slice A' N cap').ownBlock = v.ownBlock ∨ (Value.slice A' N cap').ownBlock = some w.heap.size) → K (a.put o.dst (.slice A' N cap')) w') : o.wp Try.prog a w K Q := by
  subst hN
  obtain ⟨v', w', r1, r2, r3, r4⟩ := El.run_append hT w o.type v xs h A m c ys hm hr hb
  unfold Oper.wp execOp
  simp only [ho, resolve, invoke, builtin, Sem.run_bind, Sem.run_pure, Result.andThen_ok, List.map_toArray, List.map_cons, List.map_nil, hs, hx, r1]
  obtain ⟨A', cap', rfl⟩ := r2.form
  rw [List.length_append, hm] at r2 r4 ⊢
  exact hK A' cap' w' r2 r3 r4
theorem El.wpList_append {rest : List Oper} (hgd : o.guard = none) (s x : Operand) (ho : o.op = .call { callee := .builtin .append, args := #[s, x], argTypes := #[T, T] })
    (v : Value) (xs : List α) (hs : a.eval s = v) (h : E.Row w v xs) (A : Option Addr) (m c : Nat) (ys : List α) (hx : a.eval x = .slice A m c) (hm : ys.length = m) (hr : E.Src w A ys) (N : Nat) (hN : xs.length + m = N) (hb : N ≤ 100000000)
    (hK : ∀ A' cap' w', E.Row w' (.slice A' N cap') (xs ++ ys) → w.grownBy w' v.ownBlock → ((Value.slice A' N cap').ownBlock = v.ownBlock ∨ (Value.slice A' N cap').ownBlock = some w.heap.size) → wpList Try.prog ops Q rest (a.put o.dst (.slice A' N cap')) w') :
    wpList Try.prog ops Q (o :: rest) a w :=
  wpList_plain hgd fun _ hK' => El.wp_append hT s x ho v xs hs h A m c ys hx hm hr N hN hb fun A' cap' w' h2 h3 h4 => hK' _ _ (hK A' cap' w' h2 h3 h4)
theorem El.step_append {Z : Prop} (hgd : o.guard = none) (s x : Operand) (ho : o.op = .call { callee := .builtin .append, args := #[s, x], argTypes := #[T, T] })
    (v : Value) (xs : List α) (hs : a.eval s = v) (h : E.Row w v xs) (A : Option Addr) (m c : Nat) (ys : List α) (hx : a.eval x = .slice A m c) (hm : ys.length = m) (hr : E.Src w A ys) (N : Nat) (hN : xs.length + m = N) (hb : N ≤ 100000000)
    (hK : ∀ A' cap' w', E.Row w' (.slice A' N cap') (xs ++ ys) → w.grownBy w' v.ownBlock → ((Value.slice A' N cap').ownBlock = v.ownBlock ∨ (Value.slice A' N cap').ownBlock = some w.heap.size) → K (a.put o.dst (.slice A' N cap')) w') :
    if Region.wanted o (yielded ops a.tmps) = true then Oper.wp Try.prog o a w K Q else Z := by
  have hw : Region.wanted o (yielded ops a.tmps) = true := by simp [Region.wanted, hgd]
  rw [if_pos hw]
  exact El.wp_append hT s x ho v xs hs h A m c ys hx hm hr N hN hb hK

/-! ### make -/
/-- make([]T, l, c): a new row of noughts. -/
theorem El.run_make_ (w : World) (l c : Nat) (hl : l ≤ c) (hc : c ≤ 1000000) :
    (Instr.makeSlice T (.int .i64 (l : Int)) (.int .i64 (c : Int))).run Try.prog w = .ok (.slice (some ⟨w.heap.size, 0, none⟩) l c) (w.alloc (.cells (madeCells E.z.cells (c * n)) E.T)) := by
  obtain ⟨i0, hi0, hz0, hz1, hz2⟩ := info_parts E.info
  have hw : E.wide * c ≤ 1000 * 1000000 := Nat.mul_le_mul E.small hc
  have hb : (i0.bytes : Int) * (c : Int) ≤ 281474976710656 := by
    rw [hz2]
    have h9 : ((E.wide * c : Nat) : Int) ≤ 1000000000 := by omega
    rw [Int.natCast_mul] at h9
    omega
  have h := run_make (P := Try.prog) w T E.T i0 E.z hT hi0 hz0 .i64 .i64 (l : Int) (c : Int) (by omega) (by omega) hb (by omega)
  simp only [Int.toNat_natCast, hz1] at h
  exact h
end
/-- What make lays, from which nothing is taken yet. -/
theorem El.Row.made0 (w : World) (c : Nat) (hc : c ≤ 1000000) : E.Row (w.alloc (.cells (madeCells E.z.cells (c * n)) E.T)) (.slice (some ⟨w.heap.size, 0, none⟩) 0 c) [] :=
  ⟨by simp [El.flat], .inr ⟨w.heap.size, c, _, rfl, Nat.zero_le _, heap_alloc_new w _, Nat.zero_le _, by unfold maxLen; omega, size_madeCells _ _, by simp [El.flat]⟩⟩
/-- The cells that make lays are those of so many noughts. -/
theorem El.made_flat (z0 : α) (hz : E.cs z0 = E.z.cells.toList) (c : Nat) : (madeCells E.z.cells (c * n)).toList = E.flat (List.replicate c z0) := by
  have hn := E.pos
  apply List.ext_getElem?
  intro t
  by_cases ht : t < c * n
  · have hk : t / n < c := by rw [Nat.div_lt_iff_lt_mul hn]; exact ht
    have hj : t % n < n := Nat.mod_lt _ hn
    have h1 := E.flat_at (List.replicate c z0) (t / n) z0 (by simp [hk]) (t % n) hj
    rw [show t / n * n + t % n = t by rw [Nat.mul_comm]; exact Nat.div_add_mod t n] at h1
    rw [h1, hz]
    simp only [madeCells, Array.getElem?_toList, Array.getElem?_map, Array.getElem?_range]
    rw [if_pos ht]
    have hj' : t % n < E.z.cells.size := by rw [E.zs]; exact hj
    simp only [Option.map_some, E.zs]
    rw [Array.getElem?_eq_getElem hj', getElem!_pos E.z.cells _ hj']
  · rw [List.getElem?_eq_none (by simp [size_madeCells]; omega), List.getElem?_eq_none (by rw [E.flat_length]; simp; omega)]
theorem El.Row.made (z0 : α) (hz : E.cs z0 = E.z.cells.toList) (w : World) (c : Nat) (hc : c ≤ 1000000) : E.Row (w.alloc (.cells (madeCells E.z.cells (c * n)) E.T)) (.slice (some ⟨w.heap.size, 0, none⟩) c c) (List.replicate c z0) :=
  ⟨by rw [E.flat_length], .inr ⟨w.heap.size, c, _, by simp, Nat.zero_le _, heap_alloc_new w _, by simp, by unfold maxLen; omega, size_madeCells _ _, by
    rw [El.made_flat z0 hz, List.take_of_length_le (by rw [E.flat_length]; omega)]⟩⟩
end

/-! ### an element stored: of one cell, of two -/
theorem El.flat_set1 {α : Type} (E : El α 1) : ∀ (xs : List α) (k : Nat) (x : α) (u : Value), E.cs x = [u] → E.flat (xs.set k x) = (E.flat xs).set k u
  | [], k, x, u, hx => by simp [El.flat]
  | y :: xs, 0, x, u, hx => by
    obtain ⟨q, hq⟩ := List.length_eq_one_iff.1 (E.len y)
    rw [List.set_cons_zero, E.flat_cons, E.flat_cons, hx, hq]
    simp
  | y :: xs, k + 1, x, u, hx => by
    obtain ⟨q, hq⟩ := List.length_eq_one_iff.1 (E.len y)
    rw [List.set_cons_succ, E.flat_cons, E.flat_cons, El.flat_set1 E xs k x u hx, hq]
    simp
theorem two_of {l : List Value} (h : l.length = 2) : ∃ a b, l = [a, b] := by
  match l, h with
  | [a, b], _ => exact ⟨a, b, rfl⟩
theorem El.flat_set2 {α : Type} (E : El α 2) : ∀ (xs : List α) (k : Nat) (x : α) (u v : Value), E.cs x = [u, v] → E.flat (xs.set k x) = ((E.flat xs).set (k * 2) u).set (k * 2 + 1) v
  | [], k, x, u, v, hx => by simp [El.flat]
  | y :: xs, 0, x, u, v, hx => by
    obtain ⟨q, q2, hq⟩ := two_of (E.len y)
    rw [List.set_cons_zero, E.flat_cons, E.flat_cons, hx, hq]
    simp
  | y :: xs, k + 1, x, u, v, hx => by
    obtain ⟨q, q2, hq⟩ := two_of (E.len y)
    have e1 : (k + 1) * 2 = k * 2 + 2 := by omega
    rw [List.set_cons_succ, E.flat_cons, E.flat_cons, El.flat_set2 E xs k x u v hx, hq, e1]
    simp
theorem El.Row.store1 {α : Type} {E : El α 1} {w : World} {g m cap : Nat} {xs : List α} (h : E.Row w (.slice (some ⟨g, 0, none⟩) m cap) xs) (k : Nat) (x : α) (u : Value) (hx : E.cs x = [u]) :
    E.Row (w.setCell ⟨g, k, none⟩ u) (.slice (some ⟨g, 0, none⟩) m cap) (xs.set k x) := by
  obtain ⟨h1, h2⟩ := h
  rcases h2 with ⟨e, _⟩ | ⟨g', cap', cur, e, h0, hg, hn, hc, hsz, hcur⟩
  · cases e
  · injection e with e1 e2 e3
    injection e1 with e1
    injection e1 with e1
    subst e1 e2 e3
    refine ⟨by rw [E.flat_length], .inr ⟨g, cap, cur.setIfInBounds k u, by simp, h0, ?_, by simpa using hn, hc, by simpa using hsz, ?_⟩⟩
    · simp [World.setCell, Array.getElem?_modify, hg]
    · rw [E.flat_set1 xs k x u hx, ← hcur]
      simp only [Array.toList_setIfInBounds, List.length_set]
      rw [List.take_set]
theorem El.Row.store2 {α : Type} {E : El α 2} {w : World} {g m cap : Nat} {xs : List α} (h : E.Row w (.slice (some ⟨g, 0, none⟩) m cap) xs) (k : Nat) (x : α) (u v : Value) (hx : E.cs x = [u, v]) :
    E.Row ((w.setCell ⟨g, k * 2, none⟩ u).setCell ⟨g, k * 2 + 1, none⟩ v) (.slice (some ⟨g, 0, none⟩) m cap) (xs.set k x) := by
  obtain ⟨h1, h2⟩ := h
  rcases h2 with ⟨e, _⟩ | ⟨g', cap', cur, e, h0, hg, hn, hc, hsz, hcur⟩
  · cases e
  · injection e with e1 e2 e3
    injection e1 with e1
    injection e1 with e1
    subst e1 e2 e3
    refine ⟨by rw [E.flat_length], .inr ⟨g, cap, (cur.setIfInBounds (k * 2) u).setIfInBounds (k * 2 + 1) v, by simp, h0, ?_, by simpa using hn, hc, by simpa using hsz, ?_⟩⟩
    · simp [World.setCell, Array.getElem?_modify, hg]
    · rw [E.flat_set2 xs k x u v hx, ← hcur]
      simp only [Array.toList_setIfInBounds, List.length_set]
      rw [List.take_set, List.take_set]
end Go.Proofs.Ytaaolacfhdfagaa
