/-
  A call stored as a whole; two that are swapped; what may not be behind what is laid.
-/
import Derived.Test.YtaaolacfhdfagaaHsS
namespace Go.Proofs.Ytaaolacfhdfagaa
set_option maxRecDepth 100000
open Go.RowKit
set_option linter.unusedVariables false
set_option linter.unusedSimpArgs false
set_option maxRecDepth 100000

set_option maxHeartbeats 1000000
section
variable {w : World} {ops : Array Oper} {o : Oper} {a : Act} {K : Act → World → Prop} {Q : Exit → Act → World → Prop}
theorem info_dn : (Try.prog.info? 30).map (·.size) = some 12 := by kernel_rfl
theorem run_storeD (w : World) (g k : Nat) (y : Dn) (hc : ∀ j, j < 12 → (w.cell? ⟨g, k + j, none⟩).isSome = true) (hf : ∀ j, j < 12 → w.frozen? ⟨g, k + j, none⟩ = false) :
    (Instr.storeAt 30 (.pointer (some ⟨g, k, none⟩)) (.agg #[.int .i64 y.who, .int .i64 y.place, .int .i64 y.op, .int .i64 y.f, .int .i64 y.a, .int .i64 y.b, .int .i64 y.e, .slice y.A y.m y.c, .int .i64 y.n, .int .u64 y.v, .int .i64 y.fr, .int .i64 y.to])).run Try.prog w = .ok () (w.setCells g k y.cs) := by
  have h1 := run_storeCells_cells (P := Try.prog) g k y.cs 0 w (by simpa [Dn.cs] using hc) (by simpa [Dn.cs] using hf) y.one
  obtain ⟨ie, hie, hs⟩ : ∃ ie, Try.prog.info? 30 = some ie ∧ ie.size = 12 := by
    have h := info_dn
    rcases h2 : Try.prog.info? 30 with _ | ie
    · rw [h2] at h; cases h
    · rw [h2] at h
      exact ⟨ie, rfl, by simpa using h⟩
  simp only [Nat.add_zero] at h1
  have hcs : y.cs = [.int .i64 y.who, .int .i64 y.place, .int .i64 y.op, .int .i64 y.f, .int .i64 y.a, .int .i64 y.b, .int .i64 y.e, .slice y.A y.m y.c, .int .i64 y.n, .int .u64 y.v, .int .i64 y.fr, .int .i64 y.to] := rfl
  rw [hcs] at h1 ⊢
  simp [Instr.storeAt, storeVar, Value.cells, sizeOf, typeInfo, hie, hs, h1, Instr.sureAddr, Result.andThen]
theorem step_storeD {Z : Prop} (hgd : o.guard = none) (p x : Operand) (ho : o.op = .store 30 p x) (g k : Nat) (hp : a.eval p = .pointer (some ⟨g, k, none⟩)) (y : Dn) (hx : a.eval x = .agg #[.int .i64 y.who, .int .i64 y.place, .int .i64 y.op, .int .i64 y.f, .int .i64 y.a, .int .i64 y.b, .int .i64 y.e, .slice y.A y.m y.c, .int .i64 y.n, .int .u64 y.v, .int .i64 y.fr, .int .i64 y.to])
    (hc : ∀ j, j < 12 → (w.cell? ⟨g, k + j, none⟩).isSome = true) (hf : ∀ j, j < 12 → w.frozen? ⟨g, k + j, none⟩ = false) {V : World} (hV : w.setCells g k y.cs = V) (hK : K (a.put o.dst undef) V) :
    if Region.wanted o (yielded ops a.tmps) = true then Oper.wp Try.prog o a w K Q else Z := by
  have hw : Region.wanted o (yielded ops a.tmps) = true := by simp [Region.wanted, hgd]
  rw [if_pos hw]
  unfold Oper.wp execOp
  simp only [ho, hp, hx, Sem.run_bind, Sem.run_pure, run_storeD w g k y hc hf, Result.andThen_ok, hV]
  exact hK
end
theorem row_cells {w : World} {g m c : Nat} {M : List Dn} (h : dE.Row w (.slice (some ⟨g, 0, none⟩) m c) M) {k : Nat} (hk : k < M.length) : ∀ j, j < 12 → (w.cell? ⟨g, k * 12 + j, none⟩).isSome = true ∧ w.frozen? ⟨g, k * 12 + j, none⟩ = false := fun j hj => by
  obtain ⟨g', e, _, hc⟩ := h.cell (List.getElem?_eq_getElem hk)
  injection e with e
  injection e with e
  subst e
  have hl : j < (dE.cs M[k]).length := by rw [dE.len]; exact hj
  obtain ⟨h1, h2⟩ := hc j _ (List.getElem?_eq_getElem hl)
  exact ⟨by rw [h1]; rfl, h2⟩
theorem swap_perm {M : List Dn} {a b : Nat} (ha : a < M.length) (hb : b < M.length) : ((M.set a (dns M b)).set b (dns M a)).Perm M := by
  have := @List.set_set_perm _ M a b ha hb
  simpa only [show M[a] = dns M a by simp [dns, ha], show M[b] = dns M b by simp [dns, hb]] using this
theorem not_twice {M : List Dn} {x : Dn} (hx : x ∈ M) : rightB (M ++ [x]) = false := rightB_f fun h => by
  have h1 := (List.pairwise_append.1 h.2).2.2 x hx x (by simp)
  rcases h1 rfl with h | h <;> exact absurd h.1 (Int.lt_irrefl _)
theorem not_over {M : List Dn} {x y : Dn} (hx : x ∈ M) (hp : 0 ≤ x.place ∧ x.place < 40) (ht : x.to = -1 ∨ x.fr ≤ x.to) (hw : y.who = x.who) (h1 : y.place = 100) (h2 : y.fr = max x.fr x.to) : rightB (M ++ [y]) = false := rightB_f fun h => by
  have h3 := (List.pairwise_append.1 h.2).2.2 x hx y (by simp)
  rcases h3 hw.symm with ⟨a, b⟩ | ⟨a, b⟩
  · obtain ⟨c1, c2⟩ := ahead_to b
    omega
  · omega
end Go.Proofs.Ytaaolacfhdfagaa
