/-
  For a law over one item: plain words on a queue that holds none or one; an item by value.
-/
import Derived.Test.YtajhkdbldbifeaaDoorQueueI
import Derived.Test.YtajhkdbldbifeaaDoorQueueE
import Derived.Test.YtajhkdbldbifeaaDoorWheelF
import Derived.Test.YtajhkdbldbifeaaDoorGmI
import Derived.Lib.SmallJoins
namespace Go.Proofs.YtajhkdbldbifeaaDoor
set_option maxRecDepth 100000
open Go.RowKit Go.ChangeShapes Go.WideShapes Go.ChangeAt Go.Joins
set_option linter.unusedVariables false
set_option linter.unusedSimpArgs false

theorem cellsItem : Tryd.prog.cellsOf 24 = 2 := by kernel_rfl
theorem reads_item {H : Type} {enc : TypeId × Value → H} {k i : Int} (hk : (Lit.int .u64 k).wf = true) (hi : (Lit.int .i64 i).wf = true) (W' : World) (sp : Nat → Bool) (held : Bool) : DataW.Trod enc Tryd.prog W' 0 sp held 24 (.agg #[.int .u64 k, .int .i64 i]) (.agg [.lit (.int .u64 k), .lit (.int .i64 i)]) [] :=
  shut_agg2 (y0 := (.lit (.int .u64 k), [])) (y1 := (.lit (.int .i64 i), [])) Tryd.underlying24 (by kernel_rfl) cellsItem ⟨1, by simp [DataW.trod, Tryd.underlying22, hk]⟩ ⟨1, by simp [DataW.trod, Tryd.underlying3, hi]⟩

/-- No items; bases of 0. -/
def em : Nat → List It := fun _ => []
def zb : Nat → Int := fun _ => 0
theorem em_len (n : Nat) : (catL em n).length = 0 := by
  induction n with
  | zero => rfl
  | succ n ih => rw [catL, List.length_append, ih]; rfl
/-- Below 0: nothing is done. -/
theorem neg_push {L : Nat → List It} {n : Nat} {B : Nat → Int} {k i : Int} (h : i < 0) : pushB L n B ⟨k, i⟩ = false ∧ pushL L n B ⟨k, i⟩ = L ∧ hasB8 L n i = false ∧ dropF L n i = none ∧ dropL L n i = L := by
  have h0 : ¬ (0 ≤ i) := by omega
  have e : pushB L n B ⟨k, i⟩ = false := by unfold pushB; rw [decide_eq_false h0]; rfl
  refine ⟨e, ?_, ?_, ?_, ?_⟩
  · unfold pushL; rw [e]; rfl
  · unfold hasB8; rw [decide_eq_false h0]; rfl
  · unfold dropF; rw [if_neg h0]
  · unfold dropL; rw [if_neg h0]
/-- One item. -/
def one (n : Nat) (x : It) : Nat → List It := fup em (homeN x.i n) [x]
theorem home_lt {j : Int} {n : Nat} (hj : 0 ≤ j) (hn : 1 ≤ n) : homeN j n < n := by
  obtain ⟨i, hi, hm, _⟩ := home_at hj hn
  rw [homeN_at hm]; exact hi
theorem one_push {n : Nat} {k j : Int} (hj : 0 ≤ j) (hk : 0 ≤ k) : pushB em n zb ⟨k, j⟩ = true ∧ pushL em n zb ⟨k, j⟩ = one n ⟨k, j⟩ := by
  have e : pushB em n zb ⟨k, j⟩ = true := by
    unfold pushB
    rw [decide_eq_true hj]
    show (true && (!hasId j [] && decide ((0 : Int) ≤ k))) = true
    rw [decide_eq_true hk]; rfl
  refine ⟨e, ?_⟩
  unfold pushL
  rw [e]
  rfl
theorem one_has {n : Nat} {x : It} : hasId x.i (one n x (homeN x.i n)) = true := by
  unfold one
  rw [fup_same]
  simp [hasId]
theorem one_more {n : Nat} {k j key : Int} (hj : 0 ≤ j) : pushB (one n ⟨k, j⟩) n zb ⟨key, j⟩ = false ∧ pushL (one n ⟨k, j⟩) n zb ⟨key, j⟩ = one n ⟨k, j⟩ ∧ hasB8 (one n ⟨k, j⟩) n j = true ∧ dropF (one n ⟨k, j⟩) n j = some ⟨k, j⟩ ∧ dropL (one n ⟨k, j⟩) n j = em := by
  have h := one_has (n := n) (x := ⟨k, j⟩)
  simp only at h
  have e : pushB (one n ⟨k, j⟩) n zb ⟨key, j⟩ = false := by
    unfold pushB
    simp only
    rw [h, decide_eq_true hj]
    rfl
  refine ⟨e, ?_, ?_, ?_, ?_⟩
  · unfold pushL; rw [e]; rfl
  · unfold hasB8; rw [decide_eq_true hj, h]; rfl
  · unfold dropF one
    rw [if_pos hj]
    simp only
    rw [fup_same]
    simp [findId]
  · unfold dropL one
    rw [if_pos hj]
    simp only
    rw [fup_same, fup_twice]
    have e2 : dropId j [(⟨k, j⟩ : It)] = em (homeN j n) := by simp [dropId, em]
    rw [e2, fup_id]
theorem one_len {n : Nat} {k j : Int} (hj : 0 ≤ j) (hn : 1 ≤ n) : (catL (one n ⟨k, j⟩) n).length = 1 := by
  have h := (catL_ins (L := em) (n := n) (i := homeN j n) (x := ⟨k, j⟩) (home_lt hj hn)).length_eq
  have e : ins ⟨k, j⟩ (em (homeN j n)) = [(⟨k, j⟩ : It)] := rfl
  rw [e] at h
  rw [List.length_cons, em_len] at h
  exact h
theorem em_room (n : Nat) : ∀ i, i < n → (em i).length < 200000 := fun i _ => by simp [em]
theorem one_room (n : Nat) (x : It) : ∀ i, i < n → (one n x i).length < 200000 := fun i _ => by
  unfold one fup
  split
  · simp
  · simp [em]
theorem em_has (n : Nat) (j : Int) : hasB8 em n j = false := by
  unfold hasB8
  show (decide (0 ≤ j) && hasId j []) = false
  simp [hasId]
/-- A queue made within the walk that began in w, beside a box at N. -/
structure QOne (w wr : World) (N qb : Nat) (S : List Nat) (n wd : Nat) (L : Nat → List It) (x : It) : Prop where
  ours : QueueOf wr qb S n wd zb L
  newS : ∀ b ∈ S, w.heap.size ≤ b
  notS : N ∉ S
  lt : N < wr.heap.size
  box : Box wr N x
  new : w.heap.size ≤ N
  only : Only [] w wr
section
variable {w wr w2 : World} {N qb n wd : Nat} {S S' : List Nat} {L L' : Nat → List It} {x : It}
theorem QOne.only0 (h : QOne w wr N qb S n wd L x) (ho : Only [] wr w2) : QOne w w2 N qb S n wd L x :=
  ⟨h.ours.only0 ho, h.newS, h.notS, Nat.lt_of_lt_of_le h.lt ho.size, h.box.only ho (by simp), h.new, h.only.trans' ho⟩
theorem QOne.tab (h : QOne w wr N qb S n wd L x) (hT : Tab w) : Tab wr ∧ 0 ∉ S := by
  refine ⟨hT.only0 h.only, fun hc => ?_⟩
  have h1 := h.newS _ hc
  have h2 := World.block_lt_of_cell? w _ (hT 0 (by omega))
  simp only at h2
  omega
theorem QOne.moved (h : QOne w wr N qb S n wd L x) (q : QueueOf w2 qb S' n wd zb L') (m : Moved wr S w2 S') : QOne w w2 N qb S' n wd L' x := by
  have hb := h.box.moved m h.notS
  refine ⟨q, fun b hb => ?_, hb.2, hb.1.lt, hb.1, h.new, h.only.trans m.1 fun b hb => .inr (h.newS b hb)⟩
  rcases m.2 b hb with h9 | h9
  · exact h.newS b h9
  · exact Nat.le_trans h.only.size h9
theorem QOne.push (h : QOne w wr N qb S n wd L x) (hT : Tab w) (y : It) (hy : y.ok) (hroom : ∀ i, i < n → (L i).length < 200000) : Calls Tryd.prog 6 #[.pointer (some ⟨qb, 0, none⟩), .agg #[.int .u64 y.k, .int .i64 y.i]] wr fun e w' => e = .returned (.bool (pushB L n zb y)) ∧ ∃ S', QOne w w' N qb S' n wd (pushL L n zb y) x ∧ Moved wr S w' S' :=
  (qPush wr qb S n wd zb L h.ours (h.tab hT).1 (h.tab hT).2 y hy hroom).mono fun _ _ q => ⟨q.1, by obtain ⟨S', q1, q2⟩ := q.2; exact ⟨S', h.moved q1 q2, q2⟩⟩
theorem QOne.drop (h : QOne w wr N qb S n wd L x) (hT : Tab w) (id : Int) (hid : i64ok id) : Calls Tryd.prog 9 #[.pointer (some ⟨qb, 0, none⟩), .int .i64 id] wr fun e w' => e = .returned (.tuple #[((dropF L n id).getD ⟨0, 0⟩).val, .bool (dropF L n id).isSome]) ∧ ∃ S', QOne w w' N qb S' n wd (dropL L n id) x ∧ Moved wr S w' S' :=
  (qDrop wr qb S n wd zb L h.ours (h.tab hT).1 (h.tab hT).2 id hid).mono fun _ _ q => ⟨q.1, by obtain ⟨S', q1, q2⟩ := q.2; exact ⟨S', h.moved q1 q2, q2⟩⟩
theorem QOne.has (h : QOne w wr N qb S n wd L x) (id : Int) (hid : i64ok id) : Calls Tryd.prog 7 #[.pointer (some ⟨qb, 0, none⟩), .int .i64 id] wr fun e w' => e = .returned (.bool (hasB8 L n id)) ∧ w' = wr := qHas wr qb S n wd zb L h.ours id hid
theorem QOne.len (h : QOne w wr N qb S n wd L x) : Calls Tryd.prog 8 #[.pointer (some ⟨qb, 0, none⟩)] wr fun e w' => e = .returned (.int .i64 ((catL L n).length : Int)) ∧ QOne w w' N qb S n wd L x ∧ Only [] wr w' := (qLen wr qb S n wd zb L h.ours).mono fun _ _ q => ⟨q.1, h.only0 q.2, q.2⟩
theorem QOne.store (h : QOne w wr N qb S n wd L x) (j : Int) : QOne w (wr.setCell ⟨N, 1, none⟩ (.int .i64 j)) N qb S n wd L ⟨x.k, j⟩ := by
  have o : Only [N] wr (wr.setCell ⟨N, 1, none⟩ (.int .i64 j)) := (Only.refl _ _).setCell (by simp) _
  refine ⟨h.ours.only o (fun b hb hc => h.notS (by simp at hc; rw [← hc]; exact hb)), h.newS, h.notS, Nat.lt_of_lt_of_le h.lt o.size, ?_, h.new, h.only.trans o (by simp; exact h.new)⟩
  have hb := h.box
  unfold Box at hb ⊢
  simp [World.setCell, Array.getElem?_modify, hb]
end
end Go.Proofs.YtajhkdbldbifeaaDoor
