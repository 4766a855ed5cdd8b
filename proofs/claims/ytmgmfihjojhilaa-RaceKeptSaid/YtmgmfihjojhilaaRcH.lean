/-
  The same event?; DeleteFunc of a row of numbers.
-/
import Derived.Test.YtmgmfihjojhilaaRcG
namespace Go.Proofs.Ytmgmfihjojhilaa
set_option maxRecDepth 100000
open Go.RowKit
set_option linter.unusedVariables false
set_option linter.unusedSimpArgs false
set_option maxRecDepth 100000

/-! ### two events -/
theorem ev_held : Try.prog.stoodInHeld 36 = false := by kernel_rfl
theorem ev_struct : Try.prog.underlying 36 = some (.struct (Try.prog.fieldsOf 36)) := by kernel_rfl
theorem ev_eql (x y : Ev) (w : World) : (binOp .eql 36 (.agg #[.int .i64 x.who, .int .i64 x.kind, .int .i64 x.lc.k, .int .i64 x.lc.a, .int .i64 x.lc.b]) (.agg #[.int .i64 y.who, .int .i64 y.kind, .int .i64 y.lc.k, .int .i64 y.lc.a, .int .i64 y.lc.b])).run Try.prog w = .ok (.bool (decide (x = y))) w := by
  have u1 := Try.underlying3
  have a1 := Try.isAgg3
  have z1 := Try.sizeOf3
  rw [run_eql_struct, show (10000 : Nat) = 9999 + 1 from rfl, run_equalIn_agg w 9999 36 _ _ ev_struct ev_held]
  simp only [Program.fieldsOf, Try.underlying36]
  go_simp
  obtain ⟨w1, k1, ⟨a1, b1, c1⟩⟩ := x
  obtain ⟨w2, k2, ⟨a2, b2, c2⟩⟩ := y
  by_cases h1 : w1 = w2 <;> by_cases h2 : k1 = k2 <;> by_cases h3 : a1 = a2 <;> by_cases h4 : b1 = b2 <;> by_cases h5 : c1 = c2 <;> simp [h1, h2, h3, h4, h5]
set_option maxHeartbeats 1000000 in
theorem cSame (u : World) (A : Option Addr) (m c : Nat) (xs : List Ev) (bl bj i j : Nat) (hl : Cell1 u bl 22 (.slice A m c)) (hbj : Cell1 u bj 3 (.int .i64 (j : Int))) (h : Evs u A xs) (hx : xs.length = m) (hi : i < m) (hj : j < m) (hb : m ≤ 1000) :
    Calls Try.prog 36 #[.int .i64 (i : Int), .pointer (some ⟨bl, 0, none⟩), .pointer (some ⟨bj, 0, none⟩)] u fun e w' => e = .returned (.bool (decide (evs xs i = evs xs j))) ∧ Only [] u w' := by
  obtain ⟨gv, rfl, x3, x4, x5, x6, x7⟩ := h.at_ (k := i) (by omega)
  obtain ⟨gv', ev, y3, y4, y5, y6, y7⟩ := h.at_ (k := j) (by omega)
  injection ev with ev
  injection ev with ev
  subst ev
  have x0 := hl.c.1
  have x1 := hbj.c.1
  have q := ev_eql (evs xs i) (evs xs j)
  generalize decide (evs xs i = evs xs j) = d at *
  generalize evs xs i = e1 at *
  generalize evs xs j = e2 at *
  clear h hl hbj
  go_enter Try.func36, Try.ntmps36
  go_wp2_with fail
  go_quiet (fail)
  have O5 : Hid (Only [] u (u.drewN nq)) := (Only.refl [] u).drewN nq
  generalize u.drewN nq = w5 at *
  go_wp2_with fail
  go_ret
  exact ⟨rfl, O5.out⟩

/-! ### DeleteFunc -/
theorem iRow_far {w : World} {g m cap : Nat} {xs : List Int} (h : iE.Row w (.slice (some ⟨g, 0, none⟩) m cap) xs) (k : Nat) (hk : xs.length ≤ k) (v : Value) : iE.Row (w.setCell ⟨g, k, none⟩ v) (.slice (some ⟨g, 0, none⟩) m cap) xs := by
  obtain ⟨h1, h2⟩ := h
  rcases h2 with ⟨e, _⟩ | ⟨g', cap', cur, e, hb0, hgb, hn, hcm, hsz, hcur⟩
  · cases e
  · injection e with e1 e2 e3
    injection e1 with e1
    injection e1 with e1
    subst e1 e2 e3
    refine ⟨h1, .inr ⟨g, cap, cur.setIfInBounds k v, rfl, hb0, ?_, hn, hcm, by simpa using hsz, ?_⟩⟩
    · simp [World.setCell, Array.getElem?_modify, hgb]
    · rw [← hcur, Array.toList_setIfInBounds, List.take_set_of_le (by omega)]
theorem iRow_cells {g m cap : Nat} {xs : List Int} : ∀ (vs : List Value) (o : Nat) (w : World), xs.length ≤ o → iE.Row w (.slice (some ⟨g, 0, none⟩) m cap) xs → iE.Row (w.setCells g o vs) (.slice (some ⟨g, 0, none⟩) m cap) xs
  | [], _, _, _, h => h
  | v :: r, o, w, ho, h => iRow_cells r (o + 1) _ (by omega) (iRow_far h o ho v)
/-- The slice cut to its first m. -/
theorem iRow_cut {w : World} {g n cap : Nat} {xs : List Int} (h : iE.Row w (.slice (some ⟨g, 0, none⟩) n cap) xs) {m : Nat} (hm : m ≤ xs.length) : iE.Row w (.slice (some ⟨g, 0, none⟩) m cap) (xs.take m) := by
  obtain ⟨h1, h2⟩ := h
  rcases h2 with ⟨e, _⟩ | ⟨g', cap', cur, e, h0, hg, hn, hc, hsz, hcur⟩
  · cases e
  · injection e with e1 e2 e3
    injection e1 with e1
    injection e1 with e1
    subst e1 e2 e3
    have el : (xs.take m).length = m := by simp [hm]
    refine ⟨by rw [iE.flat_length], .inr ⟨g, cap, cur, by rw [el], h0, hg, by omega, hc, hsz, ?_⟩⟩
    rw [el, ← iE.flat_take, ← hcur, List.take_take]
    congr 1
    omega
section
variable {w : World} {ops : Array Oper} {o : Oper} {a : Act} {Q : Exit → Act → World → Prop}
theorem wpList_clearI {rest : List Oper} (hgd : o.guard = none) (d : Operand) (ho : o.op = .call { callee := .builtin .clear, args := #[d], argTypes := #[23] })
    (g i n c : Nat) (hd : a.eval d = .slice (some ⟨g, i, none⟩) n c) (hn : 0 < n) (hc : ∀ j, j < n → (w.cell? ⟨g, i + j, none⟩).isSome = true) (hf : ∀ j, j < n → w.frozen? ⟨g, i + j, none⟩ = false)
    (hK : wpList Try.prog ops Q rest (a.put o.dst (.tuple #[])) (w.setCells g i (List.replicate n (.int .i64 0)))) : wpList Try.prog ops Q (o :: rest) a w := by
  refine wpList_plain hgd fun K hK' => ?_
  have r1 := Lib.run_clear_slice (P := Try.prog) w 23 3 o.type (.int .i64 0) Try.underlying23 zero_int rfl rfl g i n c hn hc hf
  unfold Oper.wp execOp
  simp only [ho, resolve, invoke, builtin, Sem.run_bind, Sem.run_pure, Result.andThen_ok, List.map_toArray, List.map_cons, List.map_nil, hd, r1]
  exact hK' _ _ hK
end
theorem natI_take (L : List Nat) (k : Nat) : natI (L.take k) = (natI L).take k := by simp [natI, List.map_take]
theorem natI_set (L : List Nat) (k x : Nat) : natI (L.set k x) = (natI L).set k (x : Int) := by simp [natI, List.map_set]
/-- What lies in the row while it is gone through: what stays of the first j, and from the j-th on what was there. -/
structure Del (L M : List Nat) (q : Nat → Bool) (i j : Nat) : Prop where
  len : M.length = L.length
  front : M.take i = (L.take j).filter fun x => !q x
  back : ∀ k, j ≤ k → M[k]? = L[k]?
  lt : i < j
  le : j ≤ L.length
section
variable {L M : List Nat} {q : Nat → Bool} {i j : Nat}
theorem Del.fi (h : Del L M q i j) : ((L.take j).filter fun x => !q x).length = i := by
  rw [← h.front, List.length_take]
  have := h.lt; have := h.le; have := h.len
  omega
theorem take_succ_at {α : Type} {l : List α} {k : Nat} {x : α} (h : l[k]? = some x) : l.take (k + 1) = l.take k ++ [x] := by
  rw [List.take_add_one, h]; rfl
theorem Del.skip (h : Del L M q i j) {x : Nat} (hx : L[j]? = some x) (hq : q x = true) : Del L M q i (j + 1) := by
  have hj := (List.getElem?_eq_some_iff.1 hx).1
  refine ⟨h.len, ?_, fun k hk => h.back k (by omega), by have := h.lt; omega, by omega⟩
  rw [take_succ_at hx, List.filter_append, h.front]
  simp [hq]
theorem Del.keep (h : Del L M q i j) {x : Nat} (hx : L[j]? = some x) (hq : q x = false) : Del L (M.set i x) q (i + 1) (j + 1) := by
  have hj := (List.getElem?_eq_some_iff.1 hx).1
  have hlt := h.lt
  have hl := h.len
  refine ⟨by simpa using h.len, ?_, fun k hk => ?_, by omega, by omega⟩
  · rw [take_succ_at hx, List.filter_append, ← h.front, take_succ_at (l := M.set i x) (k := i) (x := x) (by rw [List.getElem?_set_self (by omega)]), List.take_set_of_le (Nat.le_refl _)]
    simp [hq]
  · rw [List.getElem?_set_ne (by omega)]
    exact h.back k (by omega)
theorem Del.start {k x : Nat} (hx : L[k]? = some x) (h : q x = true) (hb : ∀ i y : Nat, i < k → L[i]? = some y → q y = false) : Del L L q k (k + 1) := by
  have hk := (List.getElem?_eq_some_iff.1 hx).1
  have hf : (L.take k).filter (fun x => !q x) = L.take k := by
    rw [List.filter_eq_self]
    intro y hy
    obtain ⟨i, hi⟩ := List.getElem?_of_mem hy
    rw [List.getElem?_take] at hi
    split at hi
    · rw [hb i y (by omega) hi]; rfl
    · cases hi
  refine ⟨rfl, ?_, fun _ _ => rfl, by omega, by omega⟩
  rw [take_succ_at hx, List.filter_append, hf]
  simp [h]
end
end Go.Proofs.Ytmgmfihjojhilaa
