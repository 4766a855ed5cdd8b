/-
  Rows of clocks of which the first ones are spoilt.
-/
import Derived.Test.YtmgmfihjojhilaaRcW
namespace Go.Proofs.Ytmgmfihjojhilaa
set_option maxRecDepth 100000
open Go.RowKit
set_option linter.unusedVariables false
set_option linter.unusedSimpArgs false
set_option maxRecDepth 100000

theorem clk64 {xs : List Ev} (hl : xs.length ≤ 100) : ∀ k, k < clkN xs → (clk (evs xs) k).length ≤ 64 := fun k hk => by
  rcases hok : okL xs
  · unfold clkN at hk; rw [hok] at hk; simp at hk
  · have e9 : clkN xs = xs.length := by unfold clkN; rw [hok, if_pos rfl]
    rw [e9] at hk
    exact (clk_fits (fun i hi => okL_iff.1 hok i hi) (by omega) hk).1
theorem clkN_le (xs : List Ev) : clkN xs ≤ xs.length := by unfold clkN; split <;> omega
theorem cClocksC (A : Option Addr) (m c : Nat) (xs : List Ev) (w : World) (hm : xs.length = m) (hb : m ≤ 100) (h : Evs w A xs) (hlc : ∀ i, i < m → (evs xs i).lc.ok) :
    Calls Try.prog 18 #[.slice A m c] w fun e w' => ∃ A2 c2, e = .returned (.slice A2 (clkN xs) c2) ∧ ∃ hs, CFr w w' A2 (clkN xs) c2 hs (clk (evs xs)) := by
  rcases hok : okL xs
  · have e9 : clkN xs = 0 := by unfold clkN; rw [hok]; rfl
    rw [e9]
    exact (cClocksNo A m c xs w hm hb h hok).mono fun e w' q => ⟨none, 0, q.1, [], CRow.nil _ _ _, q.2⟩
  · have e9 : clkN xs = m := by unfold clkN; rw [hok, if_pos rfl, hm]
    rw [e9]
    exact cClocks A m c xs w hm hb h hok hlc
theorem rClocksC (A : Option Addr) (m c : Nat) (xs : List Ev) (w : World) (hm : xs.length = m) (hb : m ≤ 100) (h : Evs w A xs) :
    Calls Try.prog 19 #[.slice A m c] w fun e w' => ∃ A2 c2, e = .returned (.slice A2 (clkN xs) c2) ∧ ∃ hs, CFr w w' A2 (clkN xs) c2 hs (clk (evs xs)) := by
  rcases hok : okL xs
  · have e9 : clkN xs = 0 := by unfold clkN; rw [hok]; rfl
    rw [e9]
    exact (rClocksNo A m c xs w hm hb h hok).mono fun e w' q => ⟨none, 0, q.1, [], CRow.nil _ _ _, q.2⟩
  · have e9 : clkN xs = m := by unfold clkN; rw [hok, if_pos rfl, hm]
    rw [e9]
    exact rClocks A m c xs w hm hb h hok
/-- Two rows of clocks, of which the first one's first i are spoilt: those lie below H, the other ones not. -/
structure KP (v wr : World) (H : Nat) (A A' : Option Addr) (n cap' : Nat) (hs hs' : List Sl) (cs : Nat → List Int) (i : Nat) : Prop where
  ge : v.heap.size ≤ H
  only : Only [] v wr
  rest : ∀ k, i ≤ k → k < n → ∃ gr s g, A = some ⟨gr, 0, none⟩ ∧ gr < H ∧ g < H ∧ gr ≠ g ∧ gr < wr.heap.size ∧ hs[k]? = some s ∧ wr.cell? ⟨gr, k, none⟩ = some (.slice s.A s.n s.c) ∧ Tp v.heap.size wr s (cs k) g ∧ ∀ (j : Nat) (t : Sl), j < k → hs[j]? = some t → t.A ≠ s.A
  want : CRow H wr A' n cap' hs' cs n
section
variable {v wr w' : World} {H : Nat} {A A' : Option Addr} {n cap cap' : Nat} {hs hs' : List Sl} {cs : Nat → List Int} {i : Nat}
theorem KP.start {w3 : World} (h : CFr v w3 A n cap hs cs) (h' : CFr w3 wr A' n cap' hs' cs) : KP v wr w3.heap.size A A' n cap' hs hs' cs 0 := by
  refine ⟨h.only.size, h.only.trans' h'.only, fun k _ hk => ?_, h'.row⟩
  obtain ⟨gr, g, s, e2, c0, e, t⟩ := h.row.at_ hk
  obtain ⟨s', g', e1, t1, f1, d1⟩ := h.row.each k hk
  rw [e] at e1
  injection e1 with e1
  subst e1
  have hg : g = g' := by have x := t.at_.symm.trans t1.at_; injection x with x; injection x
  subst hg
  have hlt := World.block_lt_of_cell? w3 _ c0
  refine ⟨gr, s, g, e2, hlt, t.lt, fun e3 => f1 ?_, Nat.lt_of_lt_of_le hlt h'.only.size, e, (h'.only.cell hlt (by simp)).trans c0, t.only h'.only (by simp), d1⟩
  rw [e2, e3]
  rfl
theorem KP.only0 (h : KP v wr H A A' n cap' hs hs' cs i) (ho : Only [] wr w') : KP v w' H A A' n cap' hs hs' cs i := by
  refine ⟨h.ge, h.only.trans' ho, fun k hi hk => ?_, h.want.only0 ho⟩
  obtain ⟨gr, s, g, e, l1, l2, ne, lt, e1, c, t, d⟩ := h.rest k hi hk
  exact ⟨gr, s, g, e, l1, l2, ne, Nat.lt_of_lt_of_le lt ho.size, e1, (ho.cell lt (by simp)).trans c, t.only ho (by simp), d⟩
theorem KP.spoil (h : KP v wr H A A' n cap' hs hs' cs i) (hi : i < n) {s : Sl} (hs1 : hs[i]? = some s) (ho : OnlyP (Its s.A 0 s.n) wr w') : KP v w' H A A' n cap' hs hs' cs (i + 1) := by
  obtain ⟨T, oT, hT⟩ := ho
  obtain ⟨gr, s', g, e, l1, l2, ne, lt, e1, c, t, d⟩ := h.rest i (Nat.le_refl i) hi
  rw [hs1] at e1
  injection e1 with e1
  subst e1
  have hTg : ∀ k ∈ T, k = g := fun k hk => by
    have x := (hT k hk).1.symm.trans t.at_
    injection x with x
    injection x
  have hge := t.ge
  refine ⟨h.ge, h.only.trans oT (fun k hk => .inr (by rw [hTg k hk]; exact hge)), fun k hik hk => ?_, h.want.only oT (fun x hx hxT => ?_) (fun x hx => by rw [hTg x hx]; exact l2)⟩
  · obtain ⟨gr', s', g', e', l1', l2', ne', lt', e1', c', t', d'⟩ := h.rest k (by omega) hk
    have hgr : gr' = gr := by have x := e'.symm.trans e; injection x with x; injection x
    subst hgr
    refine ⟨gr', s', g', e', l1', l2', ne', Nat.lt_of_lt_of_le lt' oT.size, e1', (oT.cell lt' (fun hx => ne (hTg _ hx))).trans c', t'.only oT (fun hx => ?_), d'⟩
    have x := hTg _ hx
    subst x
    exact d' i s (by omega) hs1 (t.at_.trans t'.at_.symm)
  · have h1 := h.want.new x hx
    have h2 := hTg x hxT
    omega
theorem KP.rd (h : KP v wr H A A' n cap' hs hs' cs i) (h64 : ∀ k, k < n → (cs k).length ≤ 64) : Rd wr A' n cs := h.want.rd h64
end
end Go.Proofs.Ytmgmfihjojhilaa
