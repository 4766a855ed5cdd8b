/-
  Contracts of the document's Items (At Min cut Pop Drop Push), the first part of whatever struct: R is the struct's type and its other cells.
  Items held against each other; the statements' Same, Plain, Spoil at items.
-/
import Derived.Test.YtklolepmmabijaaGmH
import Derived.Laws.StructEq
namespace Go.Proofs.Ytklolepmmabijaa
set_option maxRecDepth 100000
open Go.RowKit
set_option linter.unusedVariables false
set_option linter.unusedSimpArgs false

/-- The document's list at xb, in the order of l. -/
structure ItemsIs (R : TypeId × List Value) (w : World) (xb : Nat) (v : Value) (l : List It) : Prop where
  blk : w.heap[xb]? = some (.cells (v :: R.2).toArray R.1 (0, 0))
  typ : R.1 ≠ 77
  row : RowIs w v l
def iown (xb : Nat) (v : Value) : List Nat := xb :: v.ownBlock.toList
section
variable {R : TypeId × List Value} {w w' : World} {xb : Nat} {v : Value} {l : List It} {S T : List Nat}
theorem ItemsIs.c0 (h : ItemsIs R w xb v l) : w.cell? ⟨xb, 0, none⟩ = some v := by rw [cell_of_row w xb 0 _ _ _ h.blk]; rfl
theorem ItemsIs.fr (h : ItemsIs R w xb v l) (i : Nat) : w.frozen? ⟨xb, i, none⟩ = false := by simp [World.frozen?, h.blk]
theorem ItemsIs.lt (h : ItemsIs R w xb v l) : ∀ b ∈ iown xb v, b < w.heap.size := by
  intro b hb'
  simp only [iown, List.mem_cons, Option.mem_toList] at hb'
  rcases hb' with rfl | e
  · exact (Array.getElem?_eq_some_iff.1 h.blk).1
  · exact h.row.lt e
theorem ItemsIs.only (h : ItemsIs R w xb v l) (ho : Only S w w') (hS : ∀ b ∈ iown xb v, b ∉ S) : ItemsIs R w' xb v l :=
  ⟨ho.get h.blk (hS xb (by simp [iown])), h.typ, h.row.keep fun g hg => ho.block g (h.row.lt hg) (hS g (by simp [iown, hg]))⟩
theorem ItemsIs.only0 (h : ItemsIs R w xb v l) (ho : Only [] w w') : ItemsIs R w' xb v l := h.only ho (by simp)
theorem ItemsIs.xbg (h : ItemsIs R w xb v l) {g : Nat} (hg : v.ownBlock = some g) : xb ≠ g := by
  rintro rfl
  obtain ⟨cur, hc⟩ := own_item_blk h.row hg
  have := h.blk
  rw [hc] at this
  injection this with this
  injection this with _ this
  exact h.typ this.symm
def ItemsOf (R : TypeId × List Value) (w : World) (xb : Nat) (S : List Nat) (l : List It) : Prop := ∃ v, S = iown xb v ∧ ItemsIs R w xb v l ∧ l.length ≤ 1000000
theorem ItemsOf.only (h : ItemsOf R w xb S l) (ho : Only T w w') (hT : ∀ b ∈ S, b ∉ T) : ItemsOf R w' xb S l := by
  obtain ⟨v, rfl, h1, h2⟩ := h
  exact ⟨v, rfl, h1.only ho hT, h2⟩
theorem ItemsOf.only0 (h : ItemsOf R w xb S l) (ho : Only [] w w') : ItemsOf R w' xb S l := h.only ho (by simp)
theorem ItemsOf.lt (h : ItemsOf R w xb S l) : ∀ b ∈ S, b < w.heap.size := by
  obtain ⟨v, rfl, h1, h2⟩ := h
  exact h1.lt
end

/-! ### parts of a row -/
theorem Src.take {w : World} {g n cap : Nat} {l : List It} (h : RowIs w (.slice (some ⟨g, 0, none⟩) n cap) l) (k : Nat) : Src w (some ⟨g, 0, none⟩) (l.take k) := by
  by_cases hk : k ≤ l.length
  · exact Src.of_row (h.cut hk)
  · rw [List.take_of_length_le (by omega)]
    exact Src.of_row h
theorem Src.drop {w : World} {g n cap : Nat} {l : List It} (h : RowIs w (.slice (some ⟨g, 0, none⟩) n cap) l) (k : Nat) : Src w (some ⟨g, k * 2, none⟩) (l.drop k) := fun hne => by
  obtain ⟨ad, e, hc⟩ := Src.of_row h (by rintro rfl; simp at hne)
  injection e with e
  subst e
  refine ⟨_, rfl, fun j u hu => ?_⟩
  have add0 : ∀ o j : Nat, (⟨g, o, none⟩ : Addr).add j = ⟨g, o + j, none⟩ := fun o j => by
    unfold Addr.add
    split
    · rename_i h0; subst h0; rfl
    · simp
  rw [add0]
  have := hc (k * 2 + j) u (by rw [← hu, ← flat_drop, List.getElem?_drop])
  rw [add0, Nat.zero_add] at this
  exact this
theorem Src.only {w w' : World} {A : Option Addr} {ys : List It} {S : List Nat} (h : Src w A ys) (ho : Only S w w') (hS : ∀ ad, A = some ad → ad.block ∉ S) : Src w' A ys :=
  h.keep fun ad j e hs => by
    have hb : (ad.add j).block = ad.block := by unfold Addr.add; split <;> rfl
    obtain ⟨u, hu⟩ := Option.isSome_iff_exists.1 hs
    refine ho.cell (World.block_lt_of_cell? w _ hu) ?_
    rw [hb]
    exact hS ad e

/-- Behind an append to a row of the call's own, and a second one to what came of it. -/
theorem cut_keeps {R : TypeId × List Value} {w W w1 w2 : World} {xb : Nat} {v v1 : Value} {l : List It} (h : ItemsIs R w xb v l) (oW : Only [] w W) (g1 : W.grownBy w1 (Value.slice none 0 0).ownBlock) (l1 : v1.ownBlock = (Value.slice none 0 0).ownBlock ∨ v1.ownBlock = some W.heap.size)
    (g2 : w1.grownBy w2 v1.ownBlock) : w2.cell? ⟨xb, 0, none⟩ = some v ∧ w2.frozen? ⟨xb, 0, none⟩ = false ∧ Only [] w w2 := by
  have o1 : Only [] w w1 := oW.grown g1 (by simp [Value.ownBlock])
  have o2 : Only [] w w2 := o1.grown g2 (fun k hk => by
    rcases l1 with e | e
    · rw [e] at hk; simp [Value.ownBlock] at hk
    · rw [e] at hk; injection hk with hk; exact .inr (by rw [← hk]; exact oW.size))
  exact ⟨(h.only0 o2).c0, (h.only0 o2).fr 0, o2⟩
theorem cut_mid {R : TypeId × List Value} {w W w1 w2 : World} {xb : Nat} {v v1 v2 : Value} {l ys : List It} (h : ItemsIs R w xb v l) (oW : Only [] w W) (g1 : W.grownBy w1 (Value.slice none 0 0).ownBlock) (l1 : v1.ownBlock = (Value.slice none 0 0).ownBlock ∨ v1.ownBlock = some W.heap.size)
    (r2 : RowIs w2 v2 ys) (g2 : w1.grownBy w2 v1.ownBlock) (l2 : v2.ownBlock = v1.ownBlock ∨ v2.ownBlock = some w1.heap.size) :
    ItemsIs R (w2.setCell ⟨xb, 0, none⟩ v2) xb v2 ys ∧ Moved w (iown xb v) (w2.setCell ⟨xb, 0, none⟩ v2) (iown xb v2) ∧ ∀ k, v2.ownBlock = some k → W.heap.size ≤ k := by
  obtain ⟨-, -, o2⟩ := cut_keeps h oW g1 l1 g2
  have o1 : Only [] w w1 := oW.grown g1 (by simp [Value.ownBlock])
  have hv1 : ∀ k, v1.ownBlock = some k → W.heap.size ≤ k := fun k hk => by
    rcases l1 with e | e
    · rw [e] at hk; simp [Value.ownBlock] at hk
    · rw [e] at hk; injection hk with hk; omega
  have hW1 : W.heap.size ≤ w1.heap.size := g1.size
  have hv2 : ∀ k, v2.ownBlock = some k → W.heap.size ≤ k := fun k hk => by
    rcases l2 with e | e
    · rw [e] at hk; exact hv1 k hk
    · rw [e] at hk; injection hk with hk; omega
  have hxb : xb < w.heap.size := h.lt xb (by simp [iown])
  have hwW := oW.size
  have b2 := (h.only0 o2).blk
  refine ⟨⟨?_, h.typ, r2.keep fun g hg => Below.heap_setCell _ _ _ _ (fun e => ?_)⟩, ⟨?_, fun b hb => ?_⟩, hv2⟩
  · simp [World.setCell, Array.getElem?_modify, b2]
  · have := hv2 g hg; simp only at e; omega
  · exact (o2.mono (T := iown xb v) (by simp)).setCell (by simp [iown]) _
  · simp only [iown, List.mem_cons, Option.mem_toList] at hb ⊢
    rcases hb with e | e
    · exact .inl (.inl e)
    · have := hv2 b e; exact .inr (by omega)
theorem cut_box {w W w1 w2 : World} {v1 : Value} (oW : Only [] w W) (g1 : W.grownBy w1 (Value.slice none 0 0).ownBlock) (l1 : v1.ownBlock = (Value.slice none 0 0).ownBlock ∨ v1.ownBlock = some W.heap.size)
    (g2 : w1.grownBy w2 v1.ownBlock) {b : Nat} {x : It} (hb : Box W b x) : Box w2 b x := by
  have hv1 : ∀ k, v1.ownBlock = some k → W.heap.size ≤ k := fun k hk => by
    rcases l1 with e | e
    · rw [e] at hk; simp [Value.ownBlock] at hk
    · rw [e] at hk; injection hk with hk; omega
  have hW1 : W.heap.size ≤ w1.heap.size := g1.size
  have hb2 := hb.lt
  have e1 : w2.heap[b]? = w1.heap[b]? := g2.block b (by omega) (fun e => by have := hv1 b e.symm; omega)
  have e2 : w1.heap[b]? = W.heap[b]? := g1.block b hb2 (by simp [Value.ownBlock])
  exact (e1.trans e2).trans hb

theorem drop_at {l : List It} (hi : Ids l) {k : Nat} (hk : k < l.length) {id : Int} (he : (gOf l k).i = id) : l.eraseIdx k = dropId id l ∧ findId id l = some (gOf l k) := by
  have h2 := (dropId_perm (List.Perm.refl l) hi hk he).2
  refine ⟨?_, h2⟩
  unfold dropId
  rw [List.eraseP_eq_eraseIdx]
  have : l.findIdx? (fun x => x.i == id) = some k := List.findIdx?_eq_some_iff_getElem.2 ⟨hk, by rw [gOf_get hk] at he; simpa using he, fun j hj => by
    intro hc
    have := hi.place (a := j) (b := k) (by omega) hk (by rw [gOf_get (by omega : j < l.length), he]; simpa using hc)
    omega⟩
  rw [this]

theorem fOf_neg (l : List It) (id : Int) : ((fOf l id).getD (-1) ≥ 0) ↔ hasId id l = true := by
  rw [← fOf_has]
  rcases h : fOf l id with _ | q
  · simp
  · have : 0 ≤ q := by
      unfold fOf at h
      rw [Option.map_eq_some_iff] at h
      obtain ⟨k, _, rfl⟩ := h
      exact Int.natCast_nonneg k
    simpa using this
theorem takeWhile_of {l : List It} {y : It} {p : Nat} (hp : p ≤ l.length) (h1 : ∀ j, j < p → (gOf l j).lt y = true) (h2 : p < l.length → (gOf l p).lt y = false) :
    l.takeWhile (fun x => x.lt y) = l.take p ∧ l.dropWhile (fun x => x.lt y) = l.drop p := by
  induction p generalizing l with
  | zero =>
    cases l with
    | nil => simp
    | cons x l =>
      have : x.lt y = false := h2 (by simp)
      simp [List.takeWhile_cons, List.dropWhile_cons, this]
  | succ p ih =>
    cases l with
    | nil => simp at hp
    | cons x l =>
      have hx : x.lt y = true := h1 0 (by omega)
      obtain ⟨a, b⟩ := ih (l := l) (by simpa using hp) (fun j hj => h1 (j + 1) (by omega)) (fun hlt => h2 (by simpa using hlt))
      simp [List.takeWhile_cons, List.dropWhile_cons, hx, a, b]

theorem own_fresh {v v' : Value} {W : World} {B : Nat} (l : v'.ownBlock = v.ownBlock ∨ v'.ownBlock = some W.heap.size) (hv : ∀ k, v.ownBlock = some k → B ≤ k) (hW : B ≤ W.heap.size) : ∀ k, v'.ownBlock = some k → B ≤ k := fun k hk => by
  rcases l with e | e
  · rw [e] at hk; exact hv k hk
  · rw [e] at hk; injection hk with hk; omega
theorem store_mid {R : TypeId × List Value} {w w3 : World} {xb : Nat} {v v3 : Value} {l ys : List It} (h : ItemsIs R w xb v l) (o3 : Only [] w w3) (r3 : RowIs w3 v3 ys) (hv : ∀ k, v3.ownBlock = some k → w.heap.size ≤ k) :
    ItemsIs R (w3.setCell ⟨xb, 0, none⟩ v3) xb v3 ys ∧ Moved w (iown xb v) (w3.setCell ⟨xb, 0, none⟩ v3) (iown xb v3) := by
  have hxb : xb < w.heap.size := h.lt xb (by simp [iown])
  have b2 := (h.only0 o3).blk
  refine ⟨⟨?_, h.typ, r3.keep fun g hg => Below.heap_setCell _ _ _ _ (fun e => ?_)⟩, ⟨?_, fun b hb => ?_⟩⟩
  · simp [World.setCell, Array.getElem?_modify, b2]
  · have := hv g hg; simp only at e; omega
  · exact (o3.mono (T := iown xb v) (by simp)).setCell (by simp [iown]) _
  · simp only [iown, List.mem_cons, Option.mem_toList] at hb ⊢
    rcases hb with e | e
    · exact .inl (.inl e)
    · exact .inr (hv b e)

end Go.Proofs.Ytklolepmmabijaa

namespace Go.Proofs.Ytklolepmmabijaa
set_option maxRecDepth 100000
open Go.RowKit
set_option linter.unusedVariables false
set_option linter.unusedSimpArgs false

theorem item_guard : Try.prog.eqGuardType Try.prog.depth 77 = false := by kernel_rfl
theorem item_held : Try.prog.stoodInHeld 77 = false := by kernel_rfl
theorem item_struct : Try.prog.underlying 77 = some (.struct (Try.prog.fieldsOf 77)) := by kernel_rfl
theorem item_eql (x y : It) (w : World) : (binOp .eql 77 (.agg #[.int .u64 x.k, .int .i64 x.i]) (.agg #[.int .u64 y.k, .int .i64 y.i])).run Try.prog w = .ok (.bool (decide (x = y))) w := by
  have u1 := Try.underlying3
  have a1 := Try.isAgg3
  have z1 := Try.sizeOf3
  have u2 := Try.underlying22
  have a2 := Try.isAgg22
  have z2 := Try.sizeOf22
  rw [run_eql_struct, show (10000 : Nat) = 9999 + 1 from rfl, run_equalIn_agg w 9999 77 _ _ item_struct item_held]
  simp only [Program.fieldsOf, Try.underlying77]
  go_simp
  obtain ⟨k, i⟩ := x
  obtain ⟨k', i'⟩ := y
  by_cases h1 : k = k' <;> by_cases h2 : i = i' <;> simp [h1, h2]

theorem ext_gOf {xs ys : List It} (hl : xs.length = ys.length) (h : ∀ k, k < xs.length → gOf xs k = gOf ys k) : xs = ys := by
  apply List.ext_getElem hl
  intro k h1 h2
  have := h k h1
  rw [gOf_get h1, gOf_get h2] at this
  exact this

end Go.Proofs.Ytklolepmmabijaa
