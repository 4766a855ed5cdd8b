/-
  Contracts of the document's Items (At Min cut Pop Drop Push), the first part of whatever struct: R is the struct's type and its other cells.
  Items held against each other; the statements' Same, Plain, Spoil at items.
-/
import Derived.Test.YtklolepmmabijaaGreatGmH
import Derived.Laws.StructEq
namespace Go.Proofs.YtklolepmmabijaaGreat
set_option maxRecDepth 100000
open Go.RowKit
set_option linter.unusedVariables false
set_option linter.unusedSimpArgs false

/-- The document's list at xb, in the order of l. -/
structure ItemsIs (R : TypeId × List Value) (w : World) (xb : Nat) (v : Value) (l : List It) : Prop where
  blk : w.heap[xb]? = some (.cells (v :: R.2).toArray R.1 (0, 0))
  typ : R.1 ≠ 55
  row : RowIs w v l
def iown (xb : Nat) (v : Value) : List Nat := xb :: v.ownBlock.toList
section
variable {R : TypeId × List Value} {w w' : World} {xb : Nat} {v : Value} {l : List It} {S T : List Nat}
theorem ItemsIs.c0 (h : ItemsIs R w xb v l) : w.cell? ⟨xb, 0, none⟩ = some v := by rw [cell_of_row w xb 0 _ _ _ h.blk]; rfl
theorem ItemsIs.fr (h : ItemsIs R w xb v l) (i : Nat) : w.frozen? ⟨xb, i, none⟩ = false := by simp [World.frozen?, h.blk]
theorem ItemsIs.lt (h : ItemsIs R w xb v l) : ∀ b ∈ iown xb v, b < w.heap.size := by
  intro b hb'
  simp only [iown, List.mem_cons, Option.mem_toList] at hb'
  rcases hb' with rfl | e
  · exact (Array.getElem?_eq_some_iff.1 h.blk).1
  · exact h.row.lt e
theorem ItemsIs.only (h : ItemsIs R w xb v l) (ho : Only S w w') (hS : ∀ b ∈ iown xb v, b ∉ S) : ItemsIs R w' xb v l :=
  ⟨ho.get h.blk (hS xb (by simp [iown])), h.typ, h.row.keep fun g hg => ho.block g (h.row.lt hg) (hS g (by simp [iown, hg]))⟩
theorem ItemsIs.only0 (h : ItemsIs R w xb v l) (ho : Only [] w w') : ItemsIs R w' xb v l := h.only ho (by simp)
theorem ItemsIs.xbg (h : ItemsIs R w xb v l) {g : Nat} (hg : v.ownBlock = some g) : xb ≠ g := by
  rintro rfl
  obtain ⟨cur, hc⟩ := own_item_blk h.row hg
  have := h.blk
  rw [hc] at this
  injection this with this
  injection this with _ this
  exact h.typ this.symm
def ItemsOf (R : TypeId × List Value) (w : World) (xb : Nat) (S : List Nat) (l : List It) : Prop := ∃ v, S = iown xb v ∧ ItemsIs R w xb v l ∧ l.length ≤ 1000000
theorem ItemsOf.only (h : ItemsOf R w xb S l) (ho : Only T w w') (hT : ∀ b ∈ S, b ∉ T) : ItemsOf R w' xb S l := by
  obtain ⟨v, rfl, h1, h2⟩ := h
  exact ⟨v, rfl, h1.only ho hT, h2⟩
theorem ItemsOf.only0 (h : ItemsOf R w xb S l) (ho : Only [] w w') : ItemsOf R w' xb S l := h.only ho (by simp)
theorem ItemsOf.lt (h : ItemsOf R w xb S l) : ∀ b ∈ S, b < w.heap.size := by
  obtain ⟨v, rfl, h1, h2⟩ := h
  exact h1.lt
end

set_option maxRecDepth 100000 in
set_option maxHeartbeats 1000000 in
theorem xAt (R : TypeId × List Value) (w : World) (xb : Nat) (v : Value) (l : List It) (h : ItemsIs R w xb v l) (hl : l.length ≤ 1000000) (id : Int) :
    Calls Tryz.prog 84 #[.pointer (some ⟨xb, 0, none⟩), .int .i64 id] w fun e w' => e = .returned (.int .i64 ((fOf l id).getD (-1))) ∧ w' = w := by
  obtain ⟨A, cap, ev⟩ := h.row.form
  have c0 := h.c0
  rw [ev] at c0
  have hat : Hid (∀ k, k < l.length → ∃ g, A = some ⟨g, 0, none⟩ ∧ w.cell? ⟨g, k * 2 + 1, none⟩ = some (.int .i64 (gOf l k).i)) := fun k hk => by
    obtain ⟨g, cap', e, -, -, -, -, hc⟩ := h.row.at_ (by omega)
    rw [ev] at e
    injection e with e1 e2 e3
    exact ⟨g, e1, (hc k hk).2.1⟩
  clear h ev
  go_enter Tryz.func84, Tryz.ntmps84
  go_wp2_with fail
  go_loopg [5] (l.length + 1) (fun gk si wr => ∃ p : Nat, si = .int .i64 (p : Int) ∧ p ≤ l.length ∧ l.length + 1 ≤ gk + p ∧ wr = w ∧ Hid (∀ k, k < p → (gOf l k).i ≠ id))
  case atStart => exact ⟨0, rfl, by omega, by omega, rfl, fun k hk => absurd hk (by omega)⟩
  case round =>
    obtain ⟨p, rfl, hp, hg, rfl, HK⟩ := hrel
    by_cases hpl : p < l.length
    · obtain ⟨g, rfl, hc⟩ := hat.out p hpl
      have hpl' : (p : Int) < (l.length : Int) := by omega
      obtain ⟨y, ey⟩ : ∃ y, (gOf l p).i = y := ⟨_, rfl⟩
      rw [ey] at hc
      have HY := Lib.hid ey
      clear ey
      by_cases hy : y = id
      · subst hy
        have hf : fOf l y = some (p : Int) := by
          unfold fOf
          have : l.findIdx? (fun x => x.i == y) = some p := List.findIdx?_eq_some_iff_getElem.2 ⟨hpl, by have := HY.out; rw [gOf_get hpl] at this; simpa using this, fun j hj => by
            have := HK.out j hj
            rw [gOf_get (by omega : j < l.length)] at this
            simpa using this⟩
          rw [this]; rfl
        have HF := Lib.hid hf
        clear hf
        go_wp2_with fail
        go_ret
        exact ⟨by rw [HF.out]; rfl, rfl⟩
      · have hy' : (y == id) = false := by simpa using hy
        go_wp2_with fail
        go_roundg (l.length + 1 - (p + 1))
        case measure => omega
        case rel => exact ⟨p + 1, by simp, by omega, by omega, rfl, fun k hk => by
          rcases Nat.lt_or_ge k p with h1 | h1
          · exact HK.out k h1
          · have : k = p := by omega
            subst this
            rw [HY.out]; exact hy⟩
    · have hpl' : decide ((p : Int) < (l.length : Int)) = false := decide_eq_false (by omega)
      have hf : fOf l id = none := (fOf_none id).2 (fun x hx => by
        obtain ⟨k, hk, rfl⟩ := List.getElem_of_mem hx
        have := HK.out k (by omega)
        rw [gOf_get hk] at this
        exact this)
      have HF := Lib.hid hf
      clear hf
      go_wp2_with fail
      go_ret
      exact ⟨by rw [HF.out]; rfl, rfl⟩

/-! ### parts of a row -/
theorem Src.take {w : World} {g n cap : Nat} {l : List It} (h : RowIs w (.slice (some ⟨g, 0, none⟩) n cap) l) (k : Nat) : Src w (some ⟨g, 0, none⟩) (l.take k) := by
  by_cases hk : k ≤ l.length
  · exact Src.of_row (h.cut hk)
  · rw [List.take_of_length_le (by omega)]
    exact Src.of_row h
theorem Src.drop {w : World} {g n cap : Nat} {l : List It} (h : RowIs w (.slice (some ⟨g, 0, none⟩) n cap) l) (k : Nat) : Src w (some ⟨g, k * 2, none⟩) (l.drop k) := fun hne => by
  obtain ⟨ad, e, hc⟩ := Src.of_row h (by rintro rfl; simp at hne)
  injection e with e
  subst e
  refine ⟨_, rfl, fun j u hu => ?_⟩
  have add0 : ∀ o j : Nat, (⟨g, o, none⟩ : Addr).add j = ⟨g, o + j, none⟩ := fun o j => by
    unfold Addr.add
    split
    · rename_i h0; subst h0; rfl
    · simp
  rw [add0]
  have := hc (k * 2 + j) u (by rw [← hu, ← flat_drop, List.getElem?_drop])
  rw [add0, Nat.zero_add] at this
  exact this
theorem Src.only {w w' : World} {A : Option Addr} {ys : List It} {S : List Nat} (h : Src w A ys) (ho : Only S w w') (hS : ∀ ad, A = some ad → ad.block ∉ S) : Src w' A ys :=
  h.keep fun ad j e hs => by
    have hb : (ad.add j).block = ad.block := by unfold Addr.add; split <;> rfl
    obtain ⟨u, hu⟩ := Option.isSome_iff_exists.1 hs
    refine ho.cell (World.block_lt_of_cell? w _ hu) ?_
    rw [hb]
    exact hS ad e

/-- Behind an append to a row of the call's own, and a second one to what came of it. -/
theorem cut_keeps {R : TypeId × List Value} {w W w1 w2 : World} {xb : Nat} {v v1 : Value} {l : List It} (h : ItemsIs R w xb v l) (oW : Only [] w W) (g1 : W.grownBy w1 (Value.slice none 0 0).ownBlock) (l1 : v1.ownBlock = (Value.slice none 0 0).ownBlock ∨ v1.ownBlock = some W.heap.size)
    (g2 : w1.grownBy w2 v1.ownBlock) : w2.cell? ⟨xb, 0, none⟩ = some v ∧ w2.frozen? ⟨xb, 0, none⟩ = false ∧ Only [] w w2 := by
  have o1 : Only [] w w1 := oW.grown g1 (by simp [Value.ownBlock])
  have o2 : Only [] w w2 := o1.grown g2 (fun k hk => by
    rcases l1 with e | e
    · rw [e] at hk; simp [Value.ownBlock] at hk
    · rw [e] at hk; injection hk with hk; exact .inr (by rw [← hk]; exact oW.size))
  exact ⟨(h.only0 o2).c0, (h.only0 o2).fr 0, o2⟩
theorem cut_mid {R : TypeId × List Value} {w W w1 w2 : World} {xb : Nat} {v v1 v2 : Value} {l ys : List It} (h : ItemsIs R w xb v l) (oW : Only [] w W) (g1 : W.grownBy w1 (Value.slice none 0 0).ownBlock) (l1 : v1.ownBlock = (Value.slice none 0 0).ownBlock ∨ v1.ownBlock = some W.heap.size)
    (r2 : RowIs w2 v2 ys) (g2 : w1.grownBy w2 v1.ownBlock) (l2 : v2.ownBlock = v1.ownBlock ∨ v2.ownBlock = some w1.heap.size) :
    ItemsIs R (w2.setCell ⟨xb, 0, none⟩ v2) xb v2 ys ∧ Moved w (iown xb v) (w2.setCell ⟨xb, 0, none⟩ v2) (iown xb v2) ∧ ∀ k, v2.ownBlock = some k → W.heap.size ≤ k := by
  obtain ⟨-, -, o2⟩ := cut_keeps h oW g1 l1 g2
  have o1 : Only [] w w1 := oW.grown g1 (by simp [Value.ownBlock])
  have hv1 : ∀ k, v1.ownBlock = some k → W.heap.size ≤ k := fun k hk => by
    rcases l1 with e | e
    · rw [e] at hk; simp [Value.ownBlock] at hk
    · rw [e] at hk; injection hk with hk; omega
  have hW1 : W.heap.size ≤ w1.heap.size := g1.size
  have hv2 : ∀ k, v2.ownBlock = some k → W.heap.size ≤ k := fun k hk => by
    rcases l2 with e | e
    · rw [e] at hk; exact hv1 k hk
    · rw [e] at hk; injection hk with hk; omega
  have hxb : xb < w.heap.size := h.lt xb (by simp [iown])
  have hwW := oW.size
  have b2 := (h.only0 o2).blk
  refine ⟨⟨?_, h.typ, r2.keep fun g hg => Below.heap_setCell _ _ _ _ (fun e => ?_)⟩, ⟨?_, fun b hb => ?_⟩, hv2⟩
  · simp [World.setCell, Array.getElem?_modify, b2]
  · have := hv2 g hg; simp only at e; omega
  · exact (o2.mono (T := iown xb v) (by simp)).setCell (by simp [iown]) _
  · simp only [iown, List.mem_cons, Option.mem_toList] at hb ⊢
    rcases hb with e | e
    · exact .inl (.inl e)
    · have := hv2 b e; exact .inr (by omega)
theorem cut_box {w W w1 w2 : World} {v1 : Value} (oW : Only [] w W) (g1 : W.grownBy w1 (Value.slice none 0 0).ownBlock) (l1 : v1.ownBlock = (Value.slice none 0 0).ownBlock ∨ v1.ownBlock = some W.heap.size)
    (g2 : w1.grownBy w2 v1.ownBlock) {b : Nat} {x : It} (hb : Box W b x) : Box w2 b x := by
  have hv1 : ∀ k, v1.ownBlock = some k → W.heap.size ≤ k := fun k hk => by
    rcases l1 with e | e
    · rw [e] at hk; simp [Value.ownBlock] at hk
    · rw [e] at hk; injection hk with hk; omega
  have hW1 : W.heap.size ≤ w1.heap.size := g1.size
  have hb2 := hb.lt
  have e1 : w2.heap[b]? = w1.heap[b]? := g2.block b (by omega) (fun e => by have := hv1 b e.symm; omega)
  have e2 : w1.heap[b]? = W.heap[b]? := g1.block b hb2 (by simp [Value.ownBlock])
  exact (e1.trans e2).trans hb

theorem drop_at {l : List It} (hi : Ids l) {k : Nat} (hk : k < l.length) {id : Int} (he : (gOf l k).i = id) : l.eraseIdx k = dropId id l ∧ findId id l = some (gOf l k) := by
  have h2 := (dropId_perm (List.Perm.refl l) hi hk he).2
  refine ⟨?_, h2⟩
  unfold dropId
  rw [List.eraseP_eq_eraseIdx]
  have : l.findIdx? (fun x => x.i == id) = some k := List.findIdx?_eq_some_iff_getElem.2 ⟨hk, by rw [gOf_get hk] at he; simpa using he, fun j hj => by
    intro hc
    have := hi.place (a := j) (b := k) (by omega) hk (by rw [gOf_get (by omega : j < l.length), he]; simpa using hc)
    omega⟩
  rw [this]

theorem fOf_neg (l : List It) (id : Int) : ((fOf l id).getD (-1) ≥ 0) ↔ hasId id l = true := by
  rw [← fOf_has]
  rcases h : fOf l id with _ | q
  · simp
  · have : 0 ≤ q := by
      unfold fOf at h
      rw [Option.map_eq_some_iff] at h
      obtain ⟨k, _, rfl⟩ := h
      exact Int.natCast_nonneg k
    simpa using this
theorem takeWhile_of {l : List It} {y : It} {p : Nat} (hp : p ≤ l.length) (h1 : ∀ j, j < p → (gOf l j).lt y = true) (h2 : p < l.length → (gOf l p).lt y = false) :
    l.takeWhile (fun x => x.lt y) = l.take p ∧ l.dropWhile (fun x => x.lt y) = l.drop p := by
  induction p generalizing l with
  | zero =>
    cases l with
    | nil => simp
    | cons x l =>
      have : x.lt y = false := h2 (by simp)
      simp [List.takeWhile_cons, List.dropWhile_cons, this]
  | succ p ih =>
    cases l with
    | nil => simp at hp
    | cons x l =>
      have hx : x.lt y = true := h1 0 (by omega)
      obtain ⟨a, b⟩ := ih (l := l) (by simpa using hp) (fun j hj => h1 (j + 1) (by omega)) (fun hlt => h2 (by simpa using hlt))
      simp [List.takeWhile_cons, List.dropWhile_cons, hx, a, b]

theorem own_fresh {v v' : Value} {W : World} {B : Nat} (l : v'.ownBlock = v.ownBlock ∨ v'.ownBlock = some W.heap.size) (hv : ∀ k, v.ownBlock = some k → B ≤ k) (hW : B ≤ W.heap.size) : ∀ k, v'.ownBlock = some k → B ≤ k := fun k hk => by
  rcases l with e | e
  · rw [e] at hk; exact hv k hk
  · rw [e] at hk; injection hk with hk; omega
theorem store_mid {R : TypeId × List Value} {w w3 : World} {xb : Nat} {v v3 : Value} {l ys : List It} (h : ItemsIs R w xb v l) (o3 : Only [] w w3) (r3 : RowIs w3 v3 ys) (hv : ∀ k, v3.ownBlock = some k → w.heap.size ≤ k) :
    ItemsIs R (w3.setCell ⟨xb, 0, none⟩ v3) xb v3 ys ∧ Moved w (iown xb v) (w3.setCell ⟨xb, 0, none⟩ v3) (iown xb v3) := by
  have hxb : xb < w.heap.size := h.lt xb (by simp [iown])
  have b2 := (h.only0 o3).blk
  refine ⟨⟨?_, h.typ, r3.keep fun g hg => Below.heap_setCell _ _ _ _ (fun e => ?_)⟩, ⟨?_, fun b hb => ?_⟩⟩
  · simp [World.setCell, Array.getElem?_modify, b2]
  · have := hv g hg; simp only at e; omega
  · exact (o3.mono (T := iown xb v) (by simp)).setCell (by simp [iown]) _
  · simp only [iown, List.mem_cons, Option.mem_toList] at hb ⊢
    rcases hb with e | e
    · exact .inl (.inl e)
    · exact .inr (hv b e)

set_option maxRecDepth 100000 in
set_option maxHeartbeats 4000000 in
theorem xPush (R : TypeId × List Value) (w : World) (xb : Nat) (S : List Nat) (l : List It) (h : ItemsOf R w xb S l) (y : It) (hroom : l.length < 1000000) :
    Calls Tryz.prog 64 #[.pointer (some ⟨xb, 0, none⟩), y.val] w fun e w' => e = .returned (.bool (!hasId y.i l)) ∧ ∃ S', ItemsOf R w' xb S' (if hasId y.i l then l else ins y l) ∧ Moved w S w' S' := by
  obtain ⟨v, rfl, h1, h5⟩ := h
  have oA : Only [] w (w.alloc (.cells #[.int .u64 y.k, .int .i64 y.i] 55)) := (Only.refl [] w).alloc _
  have hat := xAt R _ xb v l (h1.only0 oA) h5 y.i
  have bY : Box _ w.heap.size y := Box.new w y
  have hge := fOf_neg l y.i
  unfold It.val
  rcases hid : hasId y.i l with _ | _
  · rw [hid] at hge
    have hge' : ¬ ((fOf l y.i).getD (-1) ≥ 0) := by rw [hge]; simp
    have hge2 : (fOf l y.i).getD (-1) < 0 := by omega
    generalize (fOf l y.i).getD (-1) = q at *
    obtain ⟨A, cap, ev⟩ := h1.row.form
    have hxb : xb < w.heap.size := h1.lt xb (by simp [iown])
    have hat2 : Hid (∀ W, Only [] w W → W.cell? ⟨xb, 0, none⟩ = some (.slice A l.length cap) ∧ W.frozen? ⟨xb, 0, none⟩ = false ∧ ∀ k, k < l.length → ∃ g, A = some ⟨g, 0, none⟩ ∧ W.cell? ⟨g, k * 2, none⟩ = some (.int .u64 (gOf l k).k) ∧ W.cell? ⟨g, k * 2 + 1, none⟩ = some (.int .i64 (gOf l k).i)) := fun W hW => by
      have h2 := h1.only0 hW
      refine ⟨by rw [← ev]; exact h2.c0, h2.fr 0, fun k hk => ?_⟩
      obtain ⟨g, cap', e, -, -, -, -, hc⟩ := h2.row.at_ (by omega)
      rw [ev] at e
      injection e with e1 e2 e3
      exact ⟨g, e1, (hc k hk).1, (hc k hk).2.1⟩
    have H1 := Lib.hid h1
    clear h1
    go_enter Tryz.func64, Tryz.ntmps64
    go_wp2_with fail
    refine hat.mono ?_
    rintro e w1 ⟨rfl, rfl⟩
    clear hat hge hge'
    generalize hW1 : w.alloc (.cells #[.int .u64 y.k, .int .i64 y.i] 55) = W1 at *
    have hN1 : w.heap.size < W1.heap.size := bY.lt
    obtain ⟨N, eN⟩ : ∃ N, w.heap.size = N := ⟨_, rfl⟩
    have HN := Lib.hid eN
    rw [eN] at bY hxb hN1 ⊢
    clear hW1 eN
    go_wp2_with fail
    go_loopg [5] (l.length + 1) (fun gk si wr => ∃ p : Nat, si = .int .i64 (p : Int) ∧ p ≤ l.length ∧ l.length + 1 ≤ gk + p ∧ Hid (Only [] w wr) ∧ Hid (Box wr N y) ∧ Hid (∀ k, k < p → (gOf l k).lt y = true))
    case atStart => exact ⟨0, rfl, by omega, by omega, oA, bY, fun k hk => absurd hk (by omega)⟩
    case round =>
      obtain ⟨p, rfl, hp, hg, ho, hB, HK⟩ := hrel
      obtain ⟨c0, fr, hcell⟩ := hat2.out wr ho.out
      have y0 := hB.out.c0
      have y1 := hB.out.c1
      by_cases hpl : p < l.length
      · obtain ⟨g, rfl, d0, d1⟩ := hcell p hpl
        have hpl' : (p : Int) < (l.length : Int) := by omega
        clear hcell oA bY
        obtain ⟨z, ez⟩ : ∃ z, gOf l p = z := ⟨_, rfl⟩
        rw [ez] at d0 d1
        have HZ := Lib.hid ez
        clear ez
        go_wp2_with fail
        go_still_tail 16, (by kernel_rfl)
        change wpList _ _ _ _ _ wr.drew
        go_wp2_with fail
        refine (rahead_only z y _).mono ?_
        rintro e wl ⟨rfl, o2⟩
        have ho2 : Hid (Only [] w wl) := ho.out.drew.trans' o2
        have hB2 : Hid (Box wl N y) := hB.out.only ((Only.refl [] wr).drew.trans' o2) (by simp)
        clear o2
        rcases hz : z.lt y with _ | _
        · have hTW := Lib.hid (takeWhile_of (y := y) hp HK.out (fun _ => by rw [HZ.out]; exact hz))
          have EV := Lib.hid ev
          clear c0 fr y0 y1 d0 d1 ev
          obtain ⟨c0, fr, -⟩ := hat2.out wl ho2.out
          replace ho := ho2
          replace hB := hB2
          have y0 := hB.out.c0
          have y1 := hB.out.c1
          clear ho2 hB2
          have HA : Hid ((l.take p).length = p) := by show _ = _; simp; omega
          have HD : Hid ((l.drop p).length = l.length - p) := by show _ = _; simp
          have HR : Hid (RowIs wl (.slice (some ⟨g, 0, none⟩) l.length cap) l) := by
            have := (H1.out.only0 ho.out).row
            rw [EV.out] at this
            exact this
          have hcl : l.length ≤ cap := by
            rcases HR.out.2 with ⟨e, _⟩ | ⟨g', cap', cur, e, _, _, hn, _⟩
            · cases e
            · injection e with _ _ e; omega
          have hc : ¬ cap = p := by omega
          go_wp2_with (first
            | (at_builtin
               refine wpList_append_row rfl (.const (.slice none 0 0)) (.tmp 37) rfl (.slice none 0 0) [] rfl (RowIs.nil _) _ p _ (l.take p) rfl HA.out (Src.take HR.out p) p (by simp) (by omega) ?_
               intro A1 cap1 w1 r1 g1 l1
               have q1 : Only [] wl w1 := (Only.refl [] wl).grown g1 (by simp [Value.ownBlock])
               have bY1 := hB.out.only q1 (by simp)
               have v1 := own_fresh (B := wl.heap.size) l1 (by simp [Value.ownBlock]) (Nat.le_refl _)
               obtain ⟨c01, fr1, -⟩ := hat2.out w1 (ho.out.trans' q1)
               obtain ⟨c01a, -, -⟩ := hat2.out _ ((ho.out.trans' q1).alloc (.cells #[.int .u64 y.k, .int .i64 y.i] 55))
               have y01 := bY1.c0
               have y11 := bY1.c1
               have R1 := Lib.hid (And.intro r1 (And.intro q1 v1))
               clear r1 g1 l1 q1 v1 bY1))
          go_region_law
            (first
             | (refine step_append_row rfl (.tmp 40) (.tmp 42) rfl (.slice A1 p cap1) ([] ++ l.take p) (by simp [Act.eval, Act.put]) (by exact (R1.out.1.keep fun g' hg' => Below.heap_alloc _ _ _ (R1.out.1.lt hg'))) (some ⟨w1.heap.size, 0, none⟩) 1 1 [y] (by simp [Act.eval, Act.put]) rfl (by exact src_box w1 y) (p + 1) (by have := HA.out; simp only [List.nil_append]; omega) (by omega) ?_
                intro A2 cap2 w2 r2 g2 l2
                have q2 : Only [] wl w2 := Only.grown (by first | exact ((R1.out.2.1.drew).alloc _) | exact ((R1.out.2.1.alloc _).drew)) g2 (fun k hk => .inr (R1.out.2.2 k hk))
                have v2 := own_fresh (B := wl.heap.size) l2 R1.out.2.2 (by have := R1.out.2.1.size; simp; omega)
                obtain ⟨c02, fr2, -⟩ := hat2.out w2 (ho.out.trans' q2)
                have R2 := Lib.hid (And.intro r2 (And.intro q2 v2))
                clear r2 g2 l2 q2 v2)
             | (refine step_append_row rfl (.tmp 43) (.tmp 49) rfl (.slice A2 (p + 1) cap2) ([] ++ l.take p ++ [y]) (by simp [Act.eval, Act.put]) (by exact R2.out.1) _ _ _ (l.drop p) rfl HD.out (by first | exact (Src.drop HR.out p).only R2.out.2.1 (by simp) | (have e : l.drop p = [] := List.drop_eq_nil_of_le (by omega); rw [e]; exact Src.nil _ _)) (l.length + 1) (by have := HA.out; simp only [List.nil_append, List.length_append, List.length_singleton]; omega) (by omega) ?_
                intro A3 cap3 w3 r3 g3 l3
                have q3 : Only [] wl w3 := R2.out.2.1.grown g3 (fun k hk => .inr (R2.out.2.2 k hk))
                have v3 := own_fresh (B := wl.heap.size) l3 R2.out.2.2 R2.out.2.1.size
                obtain ⟨c03, fr3, -⟩ := hat2.out w3 (ho.out.trans' q3)
                have R3 := Lib.hid (store_mid H1.out (ho.out.trans' q3) r3 (fun k hk => Nat.le_trans ho.out.size (v3 k hk)))
                clear r3 g3 l3 q3 v3))
          all_goals
            have e9 : Hid ([] ++ l.take p ++ [y] ++ l.drop p = ins y l) := by
              show _ = _
              unfold ins
              rw [hTW.out.1, hTW.out.2]
              simp
            have e8 : Hid ((ins y l).length ≤ 1000000) := by
              show _ ≤ _
              have := (ins_perm y l).length_eq
              simp at this
              omega
            go_wp2_with fail
            go_ret
            obtain ⟨k1, k2⟩ := R3.out
            rw [e9.out] at k1
            exact ⟨rfl, _, ⟨_, rfl, k1, e8.out⟩, k2⟩
        · go_wp2_with fail
          go_roundg (l.length + 1 - (p + 1))
          case measure => omega
          case rel => exact ⟨p + 1, by simp, by omega, by omega, ho2, hB2, fun k hk => by
            rcases Nat.lt_or_ge k p with h1 | h1
            · exact HK.out k h1
            · have : k = p := by omega
              subst this
              rw [HZ.out]; exact hz⟩
      · have hpe : Hid (p = l.length) := by show _ = _; omega
        have hpl' : decide ((p : Int) < (l.length : Int)) = false := decide_eq_false (by omega)
        have hTW := Lib.hid (takeWhile_of (y := y) hp HK.out (fun hlt => absurd hlt hpl))
        clear hcell oA bY
        have EV := Lib.hid ev
        clear ev
        go_wp2_with fail
        go_quiet (fail)
        have ho2 : Hid (Only [] w (wr.drewN _)) := ho.out.drewN nq
        have hB2 : Hid (Box (wr.drewN _) N y) := hB.out.only ((Only.refl [] wr).drewN nq) (by simp)
        generalize wr.drewN nq = wl at *
        clear c0 fr y0 y1
        obtain ⟨c0, fr, -⟩ := hat2.out wl ho2.out
        replace ho := ho2
        replace hB := hB2
        have y0 := hB.out.c0
        have y1 := hB.out.c1
        clear ho2 hB2
        rcases A with _ | ad
        · have hl0 : l = [] := by
            rcases H1.out.row.2 with ⟨e, e2⟩ | ⟨g', cap', cur, e, _⟩
            · exact List.length_eq_zero_iff.1 e2
            · rw [EV.out] at e; cases e
          have hcap0 : cap = 0 := by
            rcases H1.out.row.2 with ⟨e, e2⟩ | ⟨g', cap', cur, e, _⟩
            · rw [EV.out] at e; injection e
            · rw [EV.out] at e; cases e
          subst hl0 hcap0
          have hp0 : p = 0 := hpe.out
          subst hp0
          go_wp2_with fail
          have bY1 := hB.out
          obtain ⟨c01a, -, -⟩ := hat2.out _ (ho.out.alloc (.cells #[.int .u64 y.k, .int .i64 y.i] 55))
          go_region_law
            (first
             | (refine step_append_row rfl (.tmp 40) (.tmp 42) rfl (.slice none 0 0) [] (by simp [Act.eval, Act.put]) (RowIs.nil _) (some ⟨wl.heap.size, 0, none⟩) 1 1 [y] (by simp [Act.eval, Act.put]) rfl (by exact src_box wl y) 1 rfl (by omega) ?_
                intro A2 cap2 w2 r2 g2 l2
                have q2 : Only [] wl w2 := Only.grown (by first | exact (((Only.refl [] wl).drew).alloc _) | exact (((Only.refl [] wl).alloc _).drew)) g2 (by simp [Value.ownBlock])
                have v2 := own_fresh (B := wl.heap.size) l2 (by simp [Value.ownBlock]) (by simp)
                obtain ⟨c02, fr2, -⟩ := hat2.out w2 (ho.out.trans' q2)
                have R2 := Lib.hid (And.intro r2 (And.intro q2 v2))
                clear r2 g2 l2 q2 v2)
             | (refine step_append_row rfl (.tmp 43) (.tmp 49) rfl (.slice A2 1 cap2) ([] ++ [y]) (by simp [Act.eval, Act.put]) (by exact R2.out.1) none 0 0 [] (by simp [Act.eval, Act.put]) rfl (Src.nil _ _) 1 rfl (by omega) ?_
                intro A3 cap3 w3 r3 g3 l3
                have q3 : Only [] wl w3 := R2.out.2.1.grown g3 (fun k hk => .inr (R2.out.2.2 k hk))
                have v3 := own_fresh (B := wl.heap.size) l3 R2.out.2.2 R2.out.2.1.size
                obtain ⟨c03, fr3, -⟩ := hat2.out w3 (ho.out.trans' q3)
                have R3 := Lib.hid (store_mid H1.out (ho.out.trans' q3) r3 (fun k hk => Nat.le_trans ho.out.size (v3 k hk)))
                clear r3 g3 l3 q3 v3))
          all_goals
            have e9 : Hid ([] ++ [y] ++ [] = ins y []) := rfl
            go_wp2_with fail
            go_ret
            obtain ⟨k1, k2⟩ := R3.out
            rw [e9.out] at k1
            exact ⟨rfl, _, ⟨_, rfl, k1, by simp [ins]⟩, k2⟩
        · obtain ⟨g, rfl⟩ : ∃ g, ad = ⟨g, 0, none⟩ := by
            rcases H1.out.row.2 with ⟨e, e2⟩ | ⟨g', cap', cur, e, _⟩
            · rw [EV.out] at e; cases e
            · rw [EV.out] at e; injection e with e _ _; injection e with e; exact ⟨g', e⟩
          have HA : Hid ((l.take p).length = p) := by show _ = _; simp; omega
          have HD : Hid ((l.drop p).length = l.length - p) := by show _ = _; simp
          have HR : Hid (RowIs wl (.slice (some ⟨g, 0, none⟩) l.length cap) l) := by
            have := (H1.out.only0 ho.out).row
            rw [EV.out] at this
            exact this
          have hcl : l.length ≤ cap := by
            rcases HR.out.2 with ⟨e, _⟩ | ⟨g', cap', cur, e, _, _, hn, _⟩
            · cases e
            · injection e with _ _ e; omega
          by_cases hc : cap = p
          all_goals
            go_wp2_with (first
              | (at_builtin
                 refine wpList_append_row rfl (.const (.slice none 0 0)) (.tmp 37) rfl (.slice none 0 0) [] rfl (RowIs.nil _) _ p _ (l.take p) rfl HA.out (Src.take HR.out p) p (by simp) (by omega) ?_
                 intro A1 cap1 w1 r1 g1 l1
                 have q1 : Only [] wl w1 := (Only.refl [] wl).grown g1 (by simp [Value.ownBlock])
                 have bY1 := hB.out.only q1 (by simp)
                 have v1 := own_fresh (B := wl.heap.size) l1 (by simp [Value.ownBlock]) (Nat.le_refl _)
                 obtain ⟨c01, fr1, -⟩ := hat2.out w1 (ho.out.trans' q1)
                 obtain ⟨c01a, -, -⟩ := hat2.out _ ((ho.out.trans' q1).alloc (.cells #[.int .u64 y.k, .int .i64 y.i] 55))
                 have y01 := bY1.c0
                 have y11 := bY1.c1
                 have R1 := Lib.hid (And.intro r1 (And.intro q1 v1))
                 clear r1 g1 l1 q1 v1 bY1))
            go_region_law
              (first
               | (refine step_append_row rfl (.tmp 40) (.tmp 42) rfl (.slice A1 p cap1) ([] ++ l.take p) (by simp [Act.eval, Act.put]) (by exact (R1.out.1.keep fun g' hg' => Below.heap_alloc _ _ _ (R1.out.1.lt hg'))) (some ⟨w1.heap.size, 0, none⟩) 1 1 [y] (by simp [Act.eval, Act.put]) rfl (by exact src_box w1 y) (p + 1) (by have := HA.out; simp only [List.nil_append]; omega) (by omega) ?_
                  intro A2 cap2 w2 r2 g2 l2
                  have q2 : Only [] wl w2 := Only.grown (by first | exact ((R1.out.2.1.drew).alloc _) | exact ((R1.out.2.1.alloc _).drew)) g2 (fun k hk => .inr (R1.out.2.2 k hk))
                  have v2 := own_fresh (B := wl.heap.size) l2 R1.out.2.2 (by have := R1.out.2.1.size; simp; omega)
                  obtain ⟨c02, fr2, -⟩ := hat2.out w2 (ho.out.trans' q2)
                  have R2 := Lib.hid (And.intro r2 (And.intro q2 v2))
                  clear r2 g2 l2 q2 v2)
               | (refine step_append_row rfl (.tmp 43) (.tmp 49) rfl (.slice A2 (p + 1) cap2) ([] ++ l.take p ++ [y]) (by simp [Act.eval, Act.put]) (by exact R2.out.1) _ _ _ (l.drop p) rfl HD.out (by first | exact (Src.drop HR.out p).only R2.out.2.1 (by simp) | (have e : l.drop p = [] := List.drop_eq_nil_of_le (by omega); rw [e]; exact Src.nil _ _)) (l.length + 1) (by have := HA.out; simp only [List.nil_append, List.length_append, List.length_singleton]; omega) (by omega) ?_
                  intro A3 cap3 w3 r3 g3 l3
                  have q3 : Only [] wl w3 := R2.out.2.1.grown g3 (fun k hk => .inr (R2.out.2.2 k hk))
                  have v3 := own_fresh (B := wl.heap.size) l3 R2.out.2.2 R2.out.2.1.size
                  obtain ⟨c03, fr3, -⟩ := hat2.out w3 (ho.out.trans' q3)
                  have R3 := Lib.hid (store_mid H1.out (ho.out.trans' q3) r3 (fun k hk => Nat.le_trans ho.out.size (v3 k hk)))
                  clear r3 g3 l3 q3 v3))
            all_goals
              have e9 : Hid ([] ++ l.take p ++ [y] ++ l.drop p = ins y l) := by
                show _ = _
                unfold ins
                rw [hTW.out.1, hTW.out.2]
                simp
              have e8 : Hid ((ins y l).length ≤ 1000000) := by
                show _ ≤ _
                have := (ins_perm y l).length_eq
                simp at this
                omega
              go_wp2_with fail
              go_ret
              obtain ⟨k1, k2⟩ := R3.out
              rw [e9.out] at k1
              exact ⟨rfl, _, ⟨_, rfl, k1, e8.out⟩, k2⟩
  · rw [hid] at hge
    have hge' : (fOf l y.i).getD (-1) ≥ 0 := by rw [hge]
    simp only [if_true]
    have HX := Lib.hid (ItemsOf.only0 (R := R) (w := w) (xb := xb) (S := iown xb v) (l := l) ⟨v, rfl, h1, h5⟩ oA)
    generalize (fOf l y.i).getD (-1) = q at *
    have hge2 : 0 ≤ q := hge'
    clear h1 hge hge'
    go_enter Tryz.func64, Tryz.ntmps64
    go_wp2_with fail
    refine hat.mono ?_
    rintro e w1 ⟨rfl, rfl⟩
    go_wp2_with fail
    go_ret
    exact ⟨rfl, _, HX.out, Moved.of_only oA⟩
end Go.Proofs.YtklolepmmabijaaGreat

namespace Go.Proofs.YtklolepmmabijaaGreat
set_option maxRecDepth 100000
open Go.RowKit
set_option linter.unusedVariables false
set_option linter.unusedSimpArgs false

theorem item_guard : Tryz.prog.eqGuardType Tryz.prog.depth 55 = false := by kernel_rfl
theorem item_held : Tryz.prog.stoodInHeld 55 = false := by kernel_rfl
theorem item_struct : Tryz.prog.underlying 55 = some (.struct (Tryz.prog.fieldsOf 55)) := by kernel_rfl
theorem item_eql (x y : It) (w : World) : (binOp .eql 55 (.agg #[.int .u64 x.k, .int .i64 x.i]) (.agg #[.int .u64 y.k, .int .i64 y.i])).run Tryz.prog w = .ok (.bool (decide (x = y))) w := by
  have u1 := Tryz.underlying3
  have a1 := Tryz.isAgg3
  have z1 := Tryz.sizeOf3
  have u2 := Tryz.underlying22
  have a2 := Tryz.isAgg22
  have z2 := Tryz.sizeOf22
  rw [run_eql_struct, show (10000 : Nat) = 9999 + 1 from rfl, run_equalIn_agg w 9999 55 _ _ item_struct item_held]
  simp only [Program.fieldsOf, Tryz.underlying55]
  go_simp
  obtain ⟨k, i⟩ := x
  obtain ⟨k', i'⟩ := y
  by_cases h1 : k = k' <;> by_cases h2 : i = i' <;> simp [h1, h2]

/-- The closure of Plain. -/
theorem plain1 (x y : It) (w : World) : Calls Tryz.prog 55 #[.agg #[.int .u64 x.k, .int .i64 x.i], .agg #[.int .u64 y.k, .int .i64 y.i]] w fun e w' =>
    e = .returned (.bool (decide (x = y))) ∧ Only [] w w' := by
  have hg := item_guard
  have he := item_eql x y
  generalize decide (x = y) = b at *
  go_enter Tryz.func55, Tryz.ntmps55
  go_wp2
  go_ret
  exact ⟨rfl, ((Only.refl _ _).alloc _).alloc _⟩

theorem ext_gOf {xs ys : List It} (hl : xs.length = ys.length) (h : ∀ k, k < xs.length → gOf xs k = gOf ys k) : xs = ys := by
  apply List.ext_getElem hl
  intro k h1 h2
  have := h k h1
  rw [gOf_get h1, gOf_get h2] at this
  exact this

set_option maxRecDepth 100000 in
set_option maxHeartbeats 2000000 in
theorem hSame (w : World) (v1 v2 : Value) (xs ys : List It) (h1 : RowIs w v1 xs) (h2 : RowIs w v2 ys) (hl1 : xs.length ≤ 1000000) (hl2 : ys.length ≤ 1000000) :
    Calls Tryz.prog 54 #[v1, v2, .func (.func 55) #[] #[]] w fun e w' => e = .returned (.bool (decide (xs = ys))) ∧ Only [] w w' := by
  obtain ⟨A1, cap1, e1⟩ := h1.form
  obtain ⟨A2, cap2, e2⟩ := h2.form
  have row : ∀ {v : Value} {zs : List It} {A : Option Addr} {cap : Nat}, RowIs w v zs → v = .slice A zs.length cap → Hid (∀ W, Only [] w W → ∀ k, k < zs.length → ∃ g, A = some ⟨g, 0, none⟩ ∧ W.cell? ⟨g, k * 2, none⟩ = some (.int .u64 (gOf zs k).k) ∧ W.cell? ⟨g, k * 2 + 1, none⟩ = some (.int .i64 (gOf zs k).i)) := by
    intro v zs A cap hr he W hW k hk
    have h9 := hr.keep (w' := W) (fun g hg => hW.block g (hr.lt hg) (by simp))
    obtain ⟨g, cap', e, -, -, -, -, hc⟩ := h9.at_ (by omega)
    rw [he] at e
    injection e with e1 e2 e3
    exact ⟨g, e1, (hc k hk).1, (hc k hk).2.1⟩
  have R1 := row h1 e1
  have R2 := row h2 e2
  subst e1 e2
  clear row h1 h2
  by_cases hl : xs.length = ys.length
  · have hl' : ((xs.length : Int) != (ys.length : Int)) = false := by rw [hl]; simp
    have HL := Lib.hid hl
    clear hl
    go_enter Tryz.func54, Tryz.ntmps54
    go_wp2_with fail
    go_loopg [7] (xs.length + 1) (fun gk si wr => ∃ p : Nat, si = .int .i64 (p : Int) ∧ p ≤ xs.length ∧ xs.length + 1 ≤ gk + p ∧ Hid (Only [] w wr) ∧ Hid (∀ k, k < p → gOf xs k = gOf ys k))
    case atStart => exact ⟨0, rfl, by omega, by omega, Only.refl _ _, fun k hk => absurd hk (by omega)⟩
    case round =>
      obtain ⟨p, rfl, hp, hg, ho, HK⟩ := hrel
      by_cases hpl : p < xs.length
      · have hpl2 : p < ys.length := by rw [← HL.out]; exact hpl
        obtain ⟨g1, rfl, a0, a1⟩ := R1.out wr ho.out p hpl
        obtain ⟨g2, rfl, b0, b1⟩ := R2.out wr ho.out p hpl2
        have hpl' : (p : Int) < (xs.length : Int) := by omega
        have hpl2' : (p : Int) < (ys.length : Int) := by omega
        obtain ⟨x, ex⟩ : ∃ x, gOf xs p = x := ⟨_, rfl⟩
        obtain ⟨y, ey⟩ : ∃ y, gOf ys p = y := ⟨_, rfl⟩
        rw [ex] at a0 a1
        rw [ey] at b0 b1
        have HX := Lib.hid ex
        have HY := Lib.hid ey
        clear ex ey
        go_wp2_with fail
        go_still_tail 9, (by kernel_rfl)
        change wpList _ _ _ _ _ wr.drew
        go_wp2_with fail
        refine (plain1 x y _).mono ?_
        rintro e w2 ⟨rfl, o2⟩
        have ho2 : Hid (Only [] w w2) := ho.out.drew.trans' o2
        clear o2
        by_cases hxy : x = y
        · have hd : decide (x = y) = true := by simpa using hxy
          have HE := Lib.hid hxy
          clear hxy
          rw [hd]
          clear hd
          go_wp2_with fail
          go_roundg (xs.length + 1 - (p + 1))
          case measure => omega
          case rel => exact ⟨p + 1, by simp, by omega, by omega, ho2, fun k hk => by
            rcases Nat.lt_or_ge k p with h1 | h1
            · exact HK.out k h1
            · have : k = p := by omega
              subst this
              rw [HX.out, HY.out]; exact HE.out⟩
        · have hd : decide (x = y) = false := by simpa using hxy
          have hne : decide (xs = ys) = false := by
            apply decide_eq_false
            intro e
            apply hxy
            rw [← HX.out, ← HY.out, e]
          have HE := Lib.hid hne
          clear hxy hne
          rw [hd]
          clear hd
          go_wp2_with fail
          go_ret
          exact ⟨by rw [HE.out]; rfl, ho2.out⟩
      · have hpl' : decide ((p : Int) < (xs.length : Int)) = false := decide_eq_false (by omega)
        have he : decide (xs = ys) = true := by
          simp only [decide_eq_true_eq]
          exact ext_gOf HL.out (fun k hk => HK.out k (by omega))
        have HE := Lib.hid he
        clear he
        go_wp2_with fail
        go_ret
        exact ⟨by rw [HE.out]; rfl, ho.out⟩
  · have hl' : ((xs.length : Int) != (ys.length : Int)) = true := by simp; omega
    have hne : decide (xs = ys) = false := decide_eq_false (fun e => hl (by rw [e]))
    have HE := Lib.hid hne
    clear hl hne
    go_enter Tryz.func54, Tryz.ntmps54
    go_wp2_with fail
    go_ret
    exact ⟨by rw [HE.out]; rfl, Only.refl _ _⟩

theorem hPlain (w : World) (v1 v2 : Value) (xs ys : List It) (h1 : RowIs w v1 xs) (h2 : RowIs w v2 ys) (hl1 : xs.length ≤ 1000000) (hl2 : ys.length ≤ 1000000) :
    Calls Tryz.prog 23 #[v1, v2] w fun e w' => e = .returned (.bool (decide (xs = ys))) ∧ Only [] w w' := by
  have hs := hSame w v1 v2 xs ys h1 h2 hl1 hl2
  generalize decide (xs = ys) = b at *
  go_enter Tryz.func23, Tryz.ntmps23
  go_wp2_with fail
  refine hs.mono ?_
  rintro e w2 ⟨rfl, o2⟩
  go_wp2_with fail
  go_ret
  exact ⟨rfl, o2⟩

set_option maxRecDepth 100000 in
set_option maxHeartbeats 2000000 in
/-- Spoil: the row alone turns. -/
theorem hSpoil (w : World) (v : Value) (xs : List It) (h : RowIs w v xs) (hl : xs.length ≤ 1000000) :
    Calls Tryz.prog 27 #[v] w fun e w' => e = .returned (.tuple #[]) ∧ Only v.ownBlock.toList w w' := by
  obtain ⟨A, cap, e1⟩ := h.form
  have oA : Only [] w (w.alloc (.cells #[.int .u64 0, .int .i64 0] 55)) := (Only.refl [] w).alloc _
  have bN : Box _ w.heap.size ⟨0, 0⟩ := Box.new w ⟨0, 0⟩
  have hvl : Hid (∀ g, v.ownBlock = some g → g < w.heap.size) := fun g hg => h.lt hg
  have H := Lib.hid h
  have EV := Lib.hid e1
  have hoA : Hid (Only v.ownBlock.toList w (w.alloc (.cells #[.int .u64 0, .int .i64 0] 55))) := oA.mono (by simp)
  have hrA : Hid (RowIs (w.alloc (.cells #[.int .u64 0, .int .i64 0] 55)) v xs) := h.keep fun g hg => oA.block g (h.lt hg) (by simp)
  clear h oA
  generalize hn : xs.length = n at *
  rw [e1]
  clear e1
  go_enter Tryz.func27, Tryz.ntmps27
  go_wp2_with fail
  go_loopg [3] (n + 1) (fun gk si wr => ∃ (p : Nat) (zs : List It), si = .int .i64 (p : Int) ∧ p ≤ n ∧ n + 1 ≤ gk + p ∧ Hid (Only v.ownBlock.toList w wr) ∧ Hid (RowIs wr v zs) ∧ Hid (zs.length = n) ∧ Hid (Box wr w.heap.size ⟨0, 0⟩))
  case atStart => exact ⟨0, xs, rfl, by omega, by omega, hoA, hrA, hn, bN⟩
  case round =>
    obtain ⟨p, zs, rfl, hp, hg, ho, hR, hZ, hB⟩ := hrel
    have y0 := hB.out.c0
    have y1 := hB.out.c1
    clear bN hrA hoA
    by_cases hpl : p < n
    · have hpl' : (p : Int) < (n : Int) := by omega
      obtain ⟨g, cap', e, -, -, -, -, hc⟩ := hR.out.at_ (by rw [hZ.out]; omega)
      have e' := e
      rw [EV.out] at e'
      injection e' with e1 e2 e3
      subst e1
      obtain ⟨-, -, f0, f1⟩ := hc p (by rw [hZ.out]; exact hpl)
      obtain ⟨d0, d1, -, -⟩ := hc p (by rw [hZ.out]; exact hpl)
      have hgw := hvl.out g (by rw [e]; rfl)
      have hS := hR.out
      rw [e] at hS
      have HS := Lib.hid (hS.store (k := p) (by rw [hZ.out]; exact hpl) ⟨0, 0⟩)
      have HE := Lib.hid e
      clear hc e e2 e3 hS
      go_wp2_with fail
      go_roundg (n + 1 - (p + 1))
      case measure => omega
      case rel =>
        have hown : v.ownBlock = some g := by rw [HE.out]; rfl
        refine ⟨p + 1, zs.set p ⟨0, 0⟩, by simp, by omega, by omega, ?_, by rw [HE.out]; exact HS.out, by show _ = _; simp; exact hZ.out, ?_⟩
        · exact (ho.out.setCell (by simp [hown]) _).setCell (by simp [hown]) _
        · refine hB.out.only (S := [g]) (((Only.refl _ _).setCell (by simp) _).setCell (by simp) _) (by simp; omega)
    · have hpl' : decide ((p : Int) < (n : Int)) = false := decide_eq_false (by omega)
      go_wp2_with fail
      go_end0
      exact ⟨rfl, by rw [← EV.out]; exact ho.out⟩
end Go.Proofs.YtklolepmmabijaaGreat
