/-
  Contracts of the document's Items (At Min cut Pop Drop Push), the first part of whatever struct: R is the struct's type and its other cells.
  Items held against each other; the statements' Same, Plain, Spoil at items.
  The statements' deeds: Mod, Name, What.
  What a walk is told of slices that came in: of items, of deeds, of integers.
-/
import Derived.Test.YtajhkdbldbifeaaDoorGmA
import Derived.Laws.StructEq
import Derived.Test.YtajhkdbldbifeaaDoorGmM
import Derived.Deep.RegionHeld3
import Derived.ProofKit
import Derived.OpenShut
import Derived.ChangeOld
import Derived.Deep.Slices
namespace Go.Proofs.YtajhkdbldbifeaaDoor
set_option maxRecDepth 100000
open Go.RowKit
set_option linter.unusedVariables false
set_option linter.unusedSimpArgs false

/-- The document's list at xb, in the order of l. -/
structure ItemsIs (R : TypeId × List Value) (w : World) (xb : Nat) (v : Value) (l : List It) : Prop where
  blk : w.heap[xb]? = some (.cells (v :: R.2).toArray R.1 (0, 0))
  typ : R.1 ≠ 24
  row : RowIs w v l
def iown (xb : Nat) (v : Value) : List Nat := xb :: v.ownBlock.toList
section
variable {R : TypeId × List Value} {w w' : World} {xb : Nat} {v : Value} {l : List It} {S T : List Nat}
theorem ItemsIs.c0 (h : ItemsIs R w xb v l) : w.cell? ⟨xb, 0, none⟩ = some v := by rw [cell_of_row w xb 0 _ _ _ h.blk]; rfl
theorem ItemsIs.fr (h : ItemsIs R w xb v l) (i : Nat) : w.frozen? ⟨xb, i, none⟩ = false := by simp [World.frozen?, h.blk]
theorem ItemsIs.lt (h : ItemsIs R w xb v l) : ∀ b ∈ iown xb v, b < w.heap.size := by
  intro b hb'
  simp only [iown, List.mem_cons, Option.mem_toList] at hb'
  rcases hb' with rfl | e
  · exact (Array.getElem?_eq_some_iff.1 h.blk).1
  · exact h.row.lt e
theorem ItemsIs.only (h : ItemsIs R w xb v l) (ho : Only S w w') (hS : ∀ b ∈ iown xb v, b ∉ S) : ItemsIs R w' xb v l :=
  ⟨ho.get h.blk (hS xb (by simp [iown])), h.typ, h.row.keep fun g hg => ho.block g (h.row.lt hg) (hS g (by simp [iown, hg]))⟩
theorem ItemsIs.only0 (h : ItemsIs R w xb v l) (ho : Only [] w w') : ItemsIs R w' xb v l := h.only ho (by simp)
theorem ItemsIs.xbg (h : ItemsIs R w xb v l) {g : Nat} (hg : v.ownBlock = some g) : xb ≠ g := by
  rintro rfl
  obtain ⟨cur, hc⟩ := own_item_blk h.row hg
  have := h.blk
  rw [hc] at this
  injection this with this
  injection this with _ this
  exact h.typ this.symm
def ItemsOf (R : TypeId × List Value) (w : World) (xb : Nat) (S : List Nat) (l : List It) : Prop := ∃ v, S = iown xb v ∧ ItemsIs R w xb v l ∧ l.length ≤ 1000000
theorem ItemsOf.only (h : ItemsOf R w xb S l) (ho : Only T w w') (hT : ∀ b ∈ S, b ∉ T) : ItemsOf R w' xb S l := by
  obtain ⟨v, rfl, h1, h2⟩ := h
  exact ⟨v, rfl, h1.only ho hT, h2⟩
theorem ItemsOf.only0 (h : ItemsOf R w xb S l) (ho : Only [] w w') : ItemsOf R w' xb S l := h.only ho (by simp)
theorem ItemsOf.lt (h : ItemsOf R w xb S l) : ∀ b ∈ S, b < w.heap.size := by
  obtain ⟨v, rfl, h1, h2⟩ := h
  exact h1.lt
end

/-! ### parts of a row -/
theorem Src.take {w : World} {g n cap : Nat} {l : List It} (h : RowIs w (.slice (some ⟨g, 0, none⟩) n cap) l) (k : Nat) : Src w (some ⟨g, 0, none⟩) (l.take k) := by
  by_cases hk : k ≤ l.length
  · exact Src.of_row (h.cut hk)
  · rw [List.take_of_length_le (by omega)]
    exact Src.of_row h
theorem Src.drop {w : World} {g n cap : Nat} {l : List It} (h : RowIs w (.slice (some ⟨g, 0, none⟩) n cap) l) (k : Nat) : Src w (some ⟨g, k * 2, none⟩) (l.drop k) := fun hne => by
  obtain ⟨ad, e, hc⟩ := Src.of_row h (by rintro rfl; simp at hne)
  injection e with e
  subst e
  refine ⟨_, rfl, fun j u hu => ?_⟩
  have add0 : ∀ o j : Nat, (⟨g, o, none⟩ : Addr).add j = ⟨g, o + j, none⟩ := fun o j => by
    unfold Addr.add
    split
    · rename_i h0; subst h0; rfl
    · simp
  rw [add0]
  have := hc (k * 2 + j) u (by rw [← hu, ← flat_drop, List.getElem?_drop])
  rw [add0, Nat.zero_add] at this
  exact this
theorem Src.only {w w' : World} {A : Option Addr} {ys : List It} {S : List Nat} (h : Src w A ys) (ho : Only S w w') (hS : ∀ ad, A = some ad → ad.block ∉ S) : Src w' A ys :=
  h.keep fun ad j e hs => by
    have hb : (ad.add j).block = ad.block := by unfold Addr.add; split <;> rfl
    obtain ⟨u, hu⟩ := Option.isSome_iff_exists.1 hs
    refine ho.cell (World.block_lt_of_cell? w _ hu) ?_
    rw [hb]
    exact hS ad e

/-- Behind an append to a row of the call's own, and a second one to what came of it. -/
theorem cut_keeps {R : TypeId × List Value} {w W w1 w2 : World} {xb : Nat} {v v1 : Value} {l : List It} (h : ItemsIs R w xb v l) (oW : Only [] w W) (g1 : W.grownBy w1 (Value.slice none 0 0).ownBlock) (l1 : v1.ownBlock = (Value.slice none 0 0).ownBlock ∨ v1.ownBlock = some W.heap.size)
    (g2 : w1.grownBy w2 v1.ownBlock) : w2.cell? ⟨xb, 0, none⟩ = some v ∧ w2.frozen? ⟨xb, 0, none⟩ = false ∧ Only [] w w2 := by
  have o1 : Only [] w w1 := oW.grown g1 (by simp [Value.ownBlock])
  have o2 : Only [] w w2 := o1.grown g2 (fun k hk => by
    rcases l1 with e | e
    · rw [e] at hk; simp [Value.ownBlock] at hk
    · rw [e] at hk; injection hk with hk; exact .inr (by rw [← hk]; exact oW.size))
  exact ⟨(h.only0 o2).c0, (h.only0 o2).fr 0, o2⟩
theorem cut_mid {R : TypeId × List Value} {w W w1 w2 : World} {xb : Nat} {v v1 v2 : Value} {l ys : List It} (h : ItemsIs R w xb v l) (oW : Only [] w W) (g1 : W.grownBy w1 (Value.slice none 0 0).ownBlock) (l1 : v1.ownBlock = (Value.slice none 0 0).ownBlock ∨ v1.ownBlock = some W.heap.size)
    (r2 : RowIs w2 v2 ys) (g2 : w1.grownBy w2 v1.ownBlock) (l2 : v2.ownBlock = v1.ownBlock ∨ v2.ownBlock = some w1.heap.size) :
    ItemsIs R (w2.setCell ⟨xb, 0, none⟩ v2) xb v2 ys ∧ Moved w (iown xb v) (w2.setCell ⟨xb, 0, none⟩ v2) (iown xb v2) ∧ ∀ k, v2.ownBlock = some k → W.heap.size ≤ k := by
  obtain ⟨-, -, o2⟩ := cut_keeps h oW g1 l1 g2
  have o1 : Only [] w w1 := oW.grown g1 (by simp [Value.ownBlock])
  have hv1 : ∀ k, v1.ownBlock = some k → W.heap.size ≤ k := fun k hk => by
    rcases l1 with e | e
    · rw [e] at hk; simp [Value.ownBlock] at hk
    · rw [e] at hk; injection hk with hk; omega
  have hW1 : W.heap.size ≤ w1.heap.size := g1.size
  have hv2 : ∀ k, v2.ownBlock = some k → W.heap.size ≤ k := fun k hk => by
    rcases l2 with e | e
    · rw [e] at hk; exact hv1 k hk
    · rw [e] at hk; injection hk with hk; omega
  have hxb : xb < w.heap.size := h.lt xb (by simp [iown])
  have hwW := oW.size
  have b2 := (h.only0 o2).blk
  refine ⟨⟨?_, h.typ, r2.keep fun g hg => Below.heap_setCell _ _ _ _ (fun e => ?_)⟩, ⟨?_, fun b hb => ?_⟩, hv2⟩
  · simp [World.setCell, Array.getElem?_modify, b2]
  · have := hv2 g hg; simp only at e; omega
  · exact (o2.mono (T := iown xb v) (by simp)).setCell (by simp [iown]) _
  · simp only [iown, List.mem_cons, Option.mem_toList] at hb ⊢
    rcases hb with e | e
    · exact .inl (.inl e)
    · have := hv2 b e; exact .inr (by omega)
theorem cut_box {w W w1 w2 : World} {v1 : Value} (oW : Only [] w W) (g1 : W.grownBy w1 (Value.slice none 0 0).ownBlock) (l1 : v1.ownBlock = (Value.slice none 0 0).ownBlock ∨ v1.ownBlock = some W.heap.size)
    (g2 : w1.grownBy w2 v1.ownBlock) {b : Nat} {x : It} (hb : Box W b x) : Box w2 b x := by
  have hv1 : ∀ k, v1.ownBlock = some k → W.heap.size ≤ k := fun k hk => by
    rcases l1 with e | e
    · rw [e] at hk; simp [Value.ownBlock] at hk
    · rw [e] at hk; injection hk with hk; omega
  have hW1 : W.heap.size ≤ w1.heap.size := g1.size
  have hb2 := hb.lt
  have e1 : w2.heap[b]? = w1.heap[b]? := g2.block b (by omega) (fun e => by have := hv1 b e.symm; omega)
  have e2 : w1.heap[b]? = W.heap[b]? := g1.block b hb2 (by simp [Value.ownBlock])
  exact (e1.trans e2).trans hb

theorem drop_at {l : List It} (hi : Ids l) {k : Nat} (hk : k < l.length) {id : Int} (he : (gOf l k).i = id) : l.eraseIdx k = dropId id l ∧ findId id l = some (gOf l k) := by
  have h2 := (dropId_perm (List.Perm.refl l) hi hk he).2
  refine ⟨?_, h2⟩
  unfold dropId
  rw [List.eraseP_eq_eraseIdx]
  have : l.findIdx? (fun x => x.i == id) = some k := List.findIdx?_eq_some_iff_getElem.2 ⟨hk, by rw [gOf_get hk] at he; simpa using he, fun j hj => by
    intro hc
    have := hi.place (a := j) (b := k) (by omega) hk (by rw [gOf_get (by omega : j < l.length), he]; simpa using hc)
    omega⟩
  rw [this]

theorem fOf_neg (l : List It) (id : Int) : ((fOf l id).getD (-1) ≥ 0) ↔ hasId id l = true := by
  rw [← fOf_has]
  rcases h : fOf l id with _ | q
  · simp
  · have : 0 ≤ q := by
      unfold fOf at h
      rw [Option.map_eq_some_iff] at h
      obtain ⟨k, _, rfl⟩ := h
      exact Int.natCast_nonneg k
    simpa using this
theorem takeWhile_of {l : List It} {y : It} {p : Nat} (hp : p ≤ l.length) (h1 : ∀ j, j < p → (gOf l j).lt y = true) (h2 : p < l.length → (gOf l p).lt y = false) :
    l.takeWhile (fun x => x.lt y) = l.take p ∧ l.dropWhile (fun x => x.lt y) = l.drop p := by
  induction p generalizing l with
  | zero =>
    cases l with
    | nil => simp
    | cons x l =>
      have : x.lt y = false := h2 (by simp)
      simp [List.takeWhile_cons, List.dropWhile_cons, this]
  | succ p ih =>
    cases l with
    | nil => simp at hp
    | cons x l =>
      have hx : x.lt y = true := h1 0 (by omega)
      obtain ⟨a, b⟩ := ih (l := l) (by simpa using hp) (fun j hj => h1 (j + 1) (by omega)) (fun hlt => h2 (by simpa using hlt))
      simp [List.takeWhile_cons, List.dropWhile_cons, hx, a, b]

theorem own_fresh {v v' : Value} {W : World} {B : Nat} (l : v'.ownBlock = v.ownBlock ∨ v'.ownBlock = some W.heap.size) (hv : ∀ k, v.ownBlock = some k → B ≤ k) (hW : B ≤ W.heap.size) : ∀ k, v'.ownBlock = some k → B ≤ k := fun k hk => by
  rcases l with e | e
  · rw [e] at hk; exact hv k hk
  · rw [e] at hk; injection hk with hk; omega
theorem store_mid {R : TypeId × List Value} {w w3 : World} {xb : Nat} {v v3 : Value} {l ys : List It} (h : ItemsIs R w xb v l) (o3 : Only [] w w3) (r3 : RowIs w3 v3 ys) (hv : ∀ k, v3.ownBlock = some k → w.heap.size ≤ k) :
    ItemsIs R (w3.setCell ⟨xb, 0, none⟩ v3) xb v3 ys ∧ Moved w (iown xb v) (w3.setCell ⟨xb, 0, none⟩ v3) (iown xb v3) := by
  have hxb : xb < w.heap.size := h.lt xb (by simp [iown])
  have b2 := (h.only0 o3).blk
  refine ⟨⟨?_, h.typ, r3.keep fun g hg => Below.heap_setCell _ _ _ _ (fun e => ?_)⟩, ⟨?_, fun b hb => ?_⟩⟩
  · simp [World.setCell, Array.getElem?_modify, b2]
  · have := hv g hg; simp only at e; omega
  · exact (o3.mono (T := iown xb v) (by simp)).setCell (by simp [iown]) _
  · simp only [iown, List.mem_cons, Option.mem_toList] at hb ⊢
    rcases hb with e | e
    · exact .inl (.inl e)
    · exact .inr (hv b e)

end Go.Proofs.YtajhkdbldbifeaaDoor

namespace Go.Proofs.YtajhkdbldbifeaaDoor
set_option maxRecDepth 100000
open Go.RowKit
set_option linter.unusedVariables false
set_option linter.unusedSimpArgs false

theorem item_guard : Tryd.prog.eqGuardType Tryd.prog.depth 24 = false := by kernel_rfl
theorem item_held : Tryd.prog.stoodInHeld 24 = false := by kernel_rfl
theorem item_struct : Tryd.prog.underlying 24 = some (.struct (Tryd.prog.fieldsOf 24)) := by kernel_rfl
theorem item_eql (x y : It) (w : World) : (binOp .eql 24 (.agg #[.int .u64 x.k, .int .i64 x.i]) (.agg #[.int .u64 y.k, .int .i64 y.i])).run Tryd.prog w = .ok (.bool (decide (x = y))) w := by
  have u1 := Tryd.underlying3
  have a1 := Tryd.isAgg3
  have z1 := Tryd.sizeOf3
  have u2 := Tryd.underlying22
  have a2 := Tryd.isAgg22
  have z2 := Tryd.sizeOf22
  rw [run_eql_struct, show (10000 : Nat) = 9999 + 1 from rfl, run_equalIn_agg w 9999 24 _ _ item_struct item_held]
  simp only [Program.fieldsOf, Tryd.underlying24]
  go_simp
  obtain ⟨k, i⟩ := x
  obtain ⟨k', i'⟩ := y
  by_cases h1 : k = k' <;> by_cases h2 : i = i' <;> simp [h1, h2]

theorem ext_gOf {xs ys : List It} (hl : xs.length = ys.length) (h : ∀ k, k < xs.length → gOf xs k = gOf ys k) : xs = ys := by
  apply List.ext_getElem hl
  intro k h1 h2
  have := h k h1
  rw [gOf_get h1, gOf_get h2] at this
  exact this

end Go.Proofs.YtajhkdbldbifeaaDoor

namespace Go.Proofs.YtajhkdbldbifeaaDoor
set_option maxRecDepth 100000
open Go.RowKit
set_option linter.unusedVariables false
set_option linter.unusedSimpArgs false

theorem i64ok_of {a : Int} (h : -9223372036854775808 ≤ a ∧ a ≤ 9223372036854775807) : i64ok a := by
  simp [i64ok, Lit.wf, IntKind.min, IntKind.max, IntKind.signed, IntKind.bits]
  omega
theorem u64ok_of {a : Int} (h : 0 ≤ a ∧ a ≤ 18446744073709551615) : (Lit.int .u64 a).wf = true := by
  simp [Lit.wf, IntKind.min, IntKind.max, IntKind.signed, IntKind.bits]
  omega
theorem u64ok_to {a : Int} (h : (Lit.int .u64 a).wf = true) : 0 ≤ a ∧ a ≤ 18446744073709551615 := by
  simp [Lit.wf, IntKind.min, IntKind.max, IntKind.signed, IntKind.bits] at h
  omega
set_option maxRecDepth 100000 in
theorem hMod (v : Int) (n : Nat) (h : 0 < n) (hn : n ≤ 1000000) (w : World) :
    Calls Tryd.prog 10 #[.int .i64 v, .int .i64 (n : Int)] w fun e w' => (∃ m : Nat, m < n ∧ e = .returned (.int .i64 (m : Int))) ∧ w' = w := by
  obtain ⟨x, h0, hx, ex⟩ := rem_is v (n : Int) (by omega)
  obtain ⟨m, rfl⟩ : ∃ m : Nat, x = (m : Int) := ⟨x.toNat, by omega⟩
  have hm : m < n := by omega
  have hw : wrap64 (m : Int) = (m : Int) := by unfold wrap64; omega
  have hne' : ¬ ((n : Int) = 0) := by omega
  go_enter Tryd.func10, Tryd.ntmps10
  go_wp2
  go_ret
  exact ⟨⟨m, hm, by simp [ex, hw]⟩, rfl⟩
/-- A deed. -/
structure Dd where
  a : Int
  b : Int
  c : Int
def Dd.val (d : Dd) : Value := .agg #[.int .i64 d.a, .int .u64 d.b, .int .i64 d.c]
def Dd.ok (d : Dd) : Prop := i64ok d.a ∧ (Lit.int .u64 d.b).wf = true ∧ i64ok d.c
end Go.Proofs.YtajhkdbldbifeaaDoor

namespace Go.Proofs.YtajhkdbldbifeaaDoor
set_option maxRecDepth 100000
open Go.RowKit Go.ChangeShapes Go.WideShapes Go.ChangeAt Go.Deep
set_option linter.unusedVariables false
set_option linter.unusedSimpArgs false

instance : Inhabited Dd := ⟨⟨0, 0, 0⟩⟩
/-- A slice of items that came in. -/
def InItems (w : World) (A : Option Addr) (len : Nat) (xs : List It) : Prop :=
  xs.length = len ∧ (∀ x ∈ xs, x.ok) ∧ ∀ k, k < len → ∃ (x : Addr) (b o : Nat) (s : Option Nat), A = some x ∧ x.add (k * 2) = ⟨b, o, s⟩ ∧ b < w.heap.size ∧ w.cell? ⟨b, o, s⟩ = some (.int .u64 (gOf xs k).k) ∧ w.cell? ⟨b, o + 1, none⟩ = some (.int .i64 (gOf xs k).i)
/-- A slice of deeds that came in. -/
def InDeeds (w : World) (A : Option Addr) (len : Nat) (ds : Nat → Dd) : Prop :=
  ∀ k, k < len → (ds k).ok ∧ ∃ (x : Addr) (b o : Nat) (s : Option Nat), A = some x ∧ x.add (k * 3) = ⟨b, o, s⟩ ∧ b < w.heap.size ∧ w.cell? ⟨b, o, s⟩ = some (.int .i64 (ds k).a) ∧ w.cell? ⟨b, o + 1, none⟩ = some (.int .u64 (ds k).b) ∧ w.cell? ⟨b, o + 2, none⟩ = some (.int .i64 (ds k).c)
/-- A slice of integers that came in. -/
def InInts (q : IntKind) (w : World) (A : Option Addr) (len : Nat) (z : Nat → Int) : Prop :=
  ∀ k, k < len → (Lit.int q (z k)).wf = true ∧ ∃ x : Addr, A = some x ∧ (x.add k).block < w.heap.size ∧ w.cell? (x.add k) = some (.int q (z k))

theorem add_at (x : Addr) (n j : Nat) (hj : 0 < j) {b o : Nat} {s : Option Nat} (h : x.add n = ⟨b, o, s⟩) : x.add (n + j) = ⟨b, o + j, none⟩ := by
  unfold Addr.add at h ⊢
  rw [if_neg (by omega)]
  split at h
  · rename_i h0
    subst h0
    subst h
    simp
  · injection h with h1 h2 h3
    subst h1 h2
    simp [Nat.add_assoc]

section
variable {H : Type} {enc : TypeId × Value → H} {w : World} {sp : Nat → Bool} {held : Bool} {fuel : Nat}
theorem open_items {a : Option Addr} {len cap : Nat} {x : DataW H × List MemPlace} (h : DataW.trod enc Tryd.prog w 0 sp held fuel 59 [.slice a len cap] = some x) : ∃ xs, InItems w a len xs := by
  rcases open_slice Tryd.underlying59 h with ⟨e, _⟩ | ⟨ad, len', cap', m, n, D, Pl, e, _, hl, hm, hmm, _, hx⟩
  · injection e with e _
    injection e with e1 e2 e3
    subst e1 e2
    exact ⟨[], rfl, by simp, fun k hk => absurd hk (by omega)⟩
  · injection e with e _
    injection e with e1 e2 e3
    subst e1 e2 e3
    have hlm : len ≤ m := by rw [hmm]; split <;> omega
    have each : ∀ k, k < len → ∃ z : It, z.ok ∧ ∃ (b o : Nat) (s : Option Nat), ad.add (k * 2) = ⟨b, o, s⟩ ∧ b < w.heap.size ∧ w.cell? ⟨b, o, s⟩ = some (.int .u64 z.k) ∧ w.cell? ⟨b, o + 1, none⟩ = some (.int .i64 z.i) := by
      intro k hk
      obtain ⟨cs', g1, g2⟩ := hx k (by omega)
      have ce : Tryd.prog.cellsOf 24 = 2 := by kernel_rfl
      rw [ce] at g1
      obtain ⟨_, hcl, hcell⟩ := World.cells?_some g1
      obtain ⟨ys, n', _, _, _, hyl, hf⟩ := DataW.trod_struct Tryd.underlying24 g2
      match cs', hcl with
      | [v0, v1], _ =>
        have t0 := hf 0 _ rfl
        have t1 := hf 1 _ rfl
        have k0 : Tryd.prog.cellsOf 22 = 1 := by kernel_rfl
        have k1 : Tryd.prog.cellsOf 3 = 1 := by kernel_rfl
        simp [k0, k1] at t0 t1
        match ys, hyl with
        | [u0, u1], _ =>
          simp at t0 t1
          obtain ⟨z0, q0, _, w0⟩ := DataW.trod_int Tryd.underlying22 t0
          obtain ⟨z1, q1, _, w1⟩ := DataW.trod_int Tryd.underlying3 t1
          injection q0 with q0 _
          injection q1 with q1 _
          subst q0 q1
          have e0 := hcell 0 (by omega)
          have e1 := hcell 1 (by omega)
          rw [Go.Deep.add_add] at e0 e1
          simp at e0 e1
          obtain ⟨⟨b, o, s⟩, eA⟩ : ∃ A, ad.add (k * 2) = A := ⟨_, rfl⟩
          rw [eA] at e0
          rw [add_at ad (k * 2) 1 (by omega) eA] at e1
          exact ⟨⟨z0, z1⟩, ⟨w0, w1⟩, b, o, s, eA, World.block_lt_of_cell? w _ e0, e0, e1⟩
    obtain ⟨q, hq⟩ := choose_lt each
    refine ⟨(List.range len).map q, by simp, fun x hx => ?_, fun k hk => ?_⟩
    · obtain ⟨k, hk, rfl⟩ := List.mem_map.1 hx
      exact (hq k (List.mem_range.1 hk)).1
    · obtain ⟨b, o, s, r1, r2, r3, r4⟩ := (hq k hk).2
      have eg : gOf ((List.range len).map q) k = q k := by simp [gOf, hk]
      rw [eg]
      exact ⟨ad, b, o, s, rfl, r1, r2, r3, r4⟩
theorem open_nums {q : IntKind} {t e : TypeId} (ht : Tryd.prog.underlying t = some (.slice e)) (he : Tryd.prog.underlying e = some (.int q)) (hc : Tryd.prog.cellsOf e = 1) {a : Option Addr} {len cap : Nat} {x : DataW H × List MemPlace}
    (h : DataW.trod enc Tryd.prog w 0 (fun _ => true) held fuel t [.slice a len cap] = some x) : ∃ z, InInts q w a len z := by
  rcases open_ints ht he hc h with ⟨hcs, _⟩ | ⟨ad, l, c, zs, hcs, _, hl, hm, hz, _, hcell, hwz⟩
  · injection hcs with e _
    injection e with e1 e2 e3
    subst e1 e2
    exact ⟨fun _ => 0, fun k hk => absurd hk (by omega)⟩
  · injection hcs with e _
    injection e with e1 e2 e3
    subst e1 e2 e3
    have hzl : zs.length = cap := by simpa using hz
    refine ⟨fun k => zs.getD k 0, fun k hk => ⟨?_, ad, rfl, ?_, hcell k (by omega)⟩⟩
    · have hkz : k < zs.length := by omega
      have : zs.getD k 0 = zs[k] := by simp [hkz]
      simp only [this]
      exact hwz _ (List.getElem_mem hkz)
    · exact World.block_lt_of_cell? w _ (hcell k (by omega))
end
end Go.Proofs.YtajhkdbldbifeaaDoor
