/-
  append onto a row of items, whatever the source (nil, empty, a part of another row): as a run, as a step of a plain region, as a step of a region that draws.
-/
import Derived.Test.YtjmnklmomdfpfaaHeapW
import Derived.Deep.RegionLaw
namespace Go.Proofs.Ytjmnklmomdfpfaa
set_option maxRecDepth 100000
open Go.RowKit
set_option linter.unusedVariables false
set_option linter.unusedSimpArgs false

theorem item_info : (Try.prog.info? 43).map (fun i => (i.zero, i.size, i.bytes)) = some (some (.agg #[.int .u64 0, .int .i64 0]), 2, 16) := by kernel_rfl

/-- Where there is something to be read, A leads to it. -/
def Src (w : World) (A : Option Addr) (ys : List It) : Prop := ys ≠ [] → ∃ ad, A = some ad ∧ ∀ j u, (flat ys)[j]? = some u → w.cell? (ad.add j) = some u
theorem Src.nil (w : World) (A : Option Addr) : Src w A [] := fun h => absurd rfl h
theorem Src.keep {w w' : World} {A : Option Addr} {ys : List It} (h : Src w A ys) (hk : ∀ ad j, A = some ad → (w.cell? (ad.add j)).isSome = true → w'.cell? (ad.add j) = w.cell? (ad.add j)) : Src w' A ys := fun hne => by
  obtain ⟨ad, e, hc⟩ := h hne
  exact ⟨ad, e, fun j u hu => (hk ad j e (by rw [hc j u hu]; rfl)).trans (hc j u hu)⟩
theorem Src.of_row {w : World} {A : Option Addr} {n cap : Nat} {xs : List It} (h : RowIs w (.slice A n cap) xs) : Src w A xs := fun hne => by
  obtain ⟨g, c, e, _, _, _, ⟨cur, hg, hsz, hcur⟩, _⟩ := h.at_ (List.length_pos_iff.2 hne)
  injection e with e1 e2 e3
  refine ⟨⟨g, 0, none⟩, e1, fun j u hu => ?_⟩
  have hj : j < xs.length * 2 := by
    have := (List.getElem?_eq_some_iff.1 hu).1
    simpa using this
  have e9 : (⟨g, 0, none⟩ : Addr).add j = ⟨g, j, none⟩ := by
    unfold Addr.add
    split
    · rename_i h0; subst h0; rfl
    · simp
  rw [e9, cell_of_row w g j cur _ (0, 0) hg]
  rw [← hcur, List.getElem?_take, if_pos hj] at hu
  simpa using hu

theorem run_append_row (w : World) (ty : TypeId) (v : Value) (xs : List It) (h : RowIs w v xs) (A : Option Addr) (m c : Nat) (ys : List It) (hm : ys.length = m) (hs : Src w A ys) (hb : xs.length + m ≤ 2000000) :
    ∃ v' w', (Builtin.append_ #[40, 40] ty #[v, .slice A m c]).run Try.prog w = .ok v' w' ∧ RowIs w' v' (xs ++ ys) ∧ w.grownBy w' v.ownBlock ∧ (v'.ownBlock = v.ownBlock ∨ v'.ownBlock = some w.heap.size) := by
  obtain ⟨i0, hi0, hz0, hz1, hz2⟩ := info_parts item_info
  cases A with
  | none =>
    have hy : ys = [] := by
      cases ys with
      | nil => rfl
      | cons y ys => obtain ⟨ad, e, _⟩ := hs (by simp); cases e
    subst hy
    have hm0 : m = 0 := by simpa using hm.symm
    subst hm0
    refine ⟨v, w, ?_, by simpa using h, World.grownBy.refl w _, .inl rfl⟩
    rcases h.2 with ⟨rfl, e⟩ | ⟨g, cap, cur, rfl, _, _, hnc, _⟩
    · simp [Builtin.append_, run_underlying Try.underlying40, sizeOf, typeInfo, hi0, Builtin.lenOf, Builtin.firstCells]
    · simp [Builtin.append_, run_underlying Try.underlying40, sizeOf, typeInfo, hi0, Builtin.lenOf, Builtin.firstCells, hnc, storeCells]
  | some ad =>
    have hcells : ∀ j u, (flat ys)[j]? = some u → w.cell? (ad.add j) = some u := fun j u hu => by
      obtain ⟨ad', e, hc⟩ := hs (by rintro rfl; simp [flat] at hu)
      injection e with e
      subst e
      exact hc j u hu
    obtain ⟨v', w', r1, r2, r3, _, r5⟩ := run_append_own_at (P := Try.prog) w 0 40 ty 43 i0 _ 2 16 Try.underlying40 hi0 hz0 hz1 hz2 rfl (by decide) v xs.length (flat xs) h ad m c (flat ys)
      (by rw [flat_length, hm]) hcells (flat_one ys) (by unfold maxLen; omega) (by omega) (Nat.zero_le _)
    refine ⟨v', w', r1, ?_, r3, r5⟩
    unfold RowIs
    rw [flat_append, List.length_append, hm]
    exact r2

section
variable {w : World} {ops : Array Oper} {o : Oper} {a : Act} {K : Act → World → Prop} {Q : Exit → Act → World → Prop}
theorem wp_append_row (s x : Operand) (ho : o.op = .call { callee := .builtin .append, args := #[s, x], argTypes := #[40, 40] })
    (v : Value) (xs : List It) (hs : a.eval s = v) (h : RowIs w v xs) (A : Option Addr) (m c : Nat) (ys : List It) (hx : a.eval x = .slice A m c) (hm : ys.length = m) (hr : Src w A ys) (N : Nat) (hN : xs.length + m = N) (hb : N ≤ 2000000)
    (hK : ∀ A' cap' w', RowIs w' (.slice A' N cap') (xs ++ ys) → w.grownBy w' v.ownBlock → ((Value.slice A' N cap').ownBlock = v.ownBlock ∨ (Value.slice A' N cap').ownBlock = some w.heap.size) → K (a.put o.dst (.slice A' N cap')) w') : o.wp Try.prog a w K Q := by
  subst hN
  obtain ⟨v', w', r1, r2, r3, r4⟩ := run_append_row w o.type v xs h A m c ys hm hr hb
  unfold Oper.wp execOp
  simp only [ho, resolve, invoke, builtin, Sem.run_bind, Sem.run_pure, Result.andThen_ok, List.map_toArray, List.map_cons, List.map_nil, hs, hx, r1]
  obtain ⟨A', cap', rfl⟩ := r2.form
  rw [List.length_append, hm] at r2 r4 ⊢
  exact hK A' cap' w' r2 r3 r4
theorem wpList_append_row {rest : List Oper} (hgd : o.guard = none) (s x : Operand) (ho : o.op = .call { callee := .builtin .append, args := #[s, x], argTypes := #[40, 40] })
    (v : Value) (xs : List It) (hs : a.eval s = v) (h : RowIs w v xs) (A : Option Addr) (m c : Nat) (ys : List It) (hx : a.eval x = .slice A m c) (hm : ys.length = m) (hr : Src w A ys) (N : Nat) (hN : xs.length + m = N) (hb : N ≤ 2000000)
    (hK : ∀ A' cap' w', RowIs w' (.slice A' N cap') (xs ++ ys) → w.grownBy w' v.ownBlock → ((Value.slice A' N cap').ownBlock = v.ownBlock ∨ (Value.slice A' N cap').ownBlock = some w.heap.size) → wpList Try.prog ops Q rest (a.put o.dst (.slice A' N cap')) w') :
    wpList Try.prog ops Q (o :: rest) a w :=
  wpList_plain hgd fun _ hK' => wp_append_row s x ho v xs hs h A m c ys hx hm hr N hN hb fun A' cap' w' h2 h3 h4 => hK' _ _ (hK A' cap' w' h2 h3 h4)
theorem step_append_row {E : Prop} (hgd : o.guard = none) (s x : Operand) (ho : o.op = .call { callee := .builtin .append, args := #[s, x], argTypes := #[40, 40] })
    (v : Value) (xs : List It) (hs : a.eval s = v) (h : RowIs w v xs) (A : Option Addr) (m c : Nat) (ys : List It) (hx : a.eval x = .slice A m c) (hm : ys.length = m) (hr : Src w A ys) (N : Nat) (hN : xs.length + m = N) (hb : N ≤ 2000000)
    (hK : ∀ A' cap' w', RowIs w' (.slice A' N cap') (xs ++ ys) → w.grownBy w' v.ownBlock → ((Value.slice A' N cap').ownBlock = v.ownBlock ∨ (Value.slice A' N cap').ownBlock = some w.heap.size) → K (a.put o.dst (.slice A' N cap')) w') :
    if Region.wanted o (yielded ops a.tmps) = true then Oper.wp Try.prog o a w K Q else E := by
  have hw : Region.wanted o (yielded ops a.tmps) = true := by simp [Region.wanted, hgd]
  rw [if_pos hw]
  exact wp_append_row s x ho v xs hs h A m c ys hx hm hr N hN hb hK
end

/-- A box of one item: where the translation lays what is appended. -/
theorem src_box (w : World) (x : It) : Src (w.alloc (.cells #[.int .u64 x.k, .int .i64 x.i] 43)) (some ⟨w.heap.size, 0, none⟩) [x] := by
  refine Src.of_row (n := 1) (cap := 1) ⟨rfl, .inr ⟨w.heap.size, 1, _, rfl, Nat.zero_le _, heap_alloc_new w _, Nat.le_refl _, by decide, rfl, by simp [flat, It.cs]⟩⟩
end Go.Proofs.Ytjmnklmomdfpfaa
