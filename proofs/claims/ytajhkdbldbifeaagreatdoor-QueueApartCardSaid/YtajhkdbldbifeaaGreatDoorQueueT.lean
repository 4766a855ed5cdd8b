/-
  What a walk over deeds keeps of a queue and the document's.
-/
import Derived.Test.YtajhkdbldbifeaaGreatDoorQueueS
import Derived.Test.YtajhkdbldbifeaaGreatDoorQueueG
import Derived.Test.YtajhkdbldbifeaaGreatDoorQueueE
import Derived.Test.YtajhkdbldbifeaaGreatDoorWheelF
import Derived.Test.YtajhkdbldbifeaaGreatDoorGmI
namespace Go.Proofs.YtajhkdbldbifeaaGreatDoor
set_option maxRecDepth 100000
open Go.RowKit Go.ChangeMaps Go.MapKept
set_option linter.unusedVariables false
set_option linter.unusedSimpArgs false

/-- Which one of m a deed is. -/
def Kinds (m : Nat) (qf : Dd → Nat) : Prop := ∀ d : Dd, qf d < m ∧ ∀ w, Calls Tryz.prog 21 #[.agg #[.int .i64 d.a, .int .u64 d.b, .int .i64 d.c], .int .i64 (m : Int)] w fun e w' => e = .returned (.int .i64 (qf d : Int)) ∧ Only [] w w'
theorem kinds_are (m : Nat) (h : 0 < m) (hm : m ≤ 1000000) : ∃ qf, Kinds m qf := Classical.skolem.1 (fun d : Dd => hWhat1 d m h hm)

/-- A queue and the document's, made within the walk that began in w. -/
structure QSound (w wr : World) (qb : Nat) (S : List Nat) (xb : Nat) (T : List Nat) (n wd : Nat) (B : Nat → Int) (L : Nat → List It) : Prop where
  pair : QPair wr qb S xb T n wd B L
  newS : ∀ b ∈ S, w.heap.size ≤ b
  newT : ∀ b ∈ T, w.heap.size ≤ b
  only : Only [] w wr
theorem tab_not {w : World} (hT : Tab w) {S : List Nat} (hS : ∀ b ∈ S, w.heap.size ≤ b) : 0 ∉ S := fun hc => by
  have h1 := hS _ hc
  have h2 := World.block_lt_of_cell? w _ (hT 0 (by omega))
  simp only at h2
  omega
section
variable {w wr : World} {qb xb n wd : Nat} {S T : List Nat} {B : Nat → Int} {L : Nat → List It}
theorem QSound.only0 {w2 : World} (h : QSound w wr qb S xb T n wd B L) (ho : Only [] wr w2) : QSound w w2 qb S xb T n wd B L :=
  ⟨h.pair.only0 ho, h.newS, h.newT, h.only.trans' ho⟩
theorem QSound.keep {w2 : World} {U : List Nat} (h : QSound w wr qb S xb T n wd B L) (ho : Only U wr w2) (hU : ∀ x, x ∈ S ++ T → x ∉ U) (hw : Only [] w w2) : QSound w w2 qb S xb T n wd B L :=
  ⟨h.pair.only ho (fun b hb => hU b (by simp [hb])) (fun b hb => hU b (by simp [hb])), h.newS, h.newT, hw⟩
theorem QSound.tab (h : QSound w wr qb S xb T n wd B L) (hT : Tab w) : Tab wr ∧ 0 ∉ S := ⟨hT.only0 h.only, tab_not hT h.newS⟩
theorem QSound.lt (h : QSound w wr qb S xb T n wd B L) : ∀ x, x ∈ S ++ T → x < wr.heap.size := fun x hx => by
  rcases List.mem_append.1 hx with h1 | h1
  · exact h.pair.ours.lt x h1
  · exact h.pair.ref.lt x h1
theorem QSound.homes (h : QSound w wr qb S xb T n wd B L) : Homes n L := h.pair.ours.homes
/-- A step. -/
theorem QSound.step (h : QSound w wr qb S xb T n wd B L) (hT : Tab w) (hl : ∀ i, (L i).length < 1000) (d : Dd) (hd : d.ok) {qf : Dd → Nat} (K : Kinds 8 qf) :
    Calls Tryz.prog 10 #[.pointer (some ⟨qb, 0, none⟩), .pointer (some ⟨xb, 0, none⟩), .agg #[.int .i64 d.a, .int .u64 d.b, .int .i64 d.c]] wr fun e w' => e = .returned (.bool true) ∧ ∃ B' L', StepTo (qf d) n B L B' L' ∧ ∃ S2 T2, QSound w w' qb S2 xb T2 n wd B' L' ∧ Only (S ++ T) wr w' ∧ (∀ b ∈ S2, b ∈ S ∨ wr.heap.size ≤ b) ∧ (∀ b ∈ T2, b ∈ T ∨ wr.heap.size ≤ b) := by
  obtain ⟨t1, t2⟩ := h.tab hT
  refine (hStep8 wr qb S xb T n wd B L h.pair t1 t2 hl d hd (qf d) (K d).1 (K d).2).mono ?_
  rintro e w2 ⟨rfl, B', L', hs, S2, T2, h1, h3, h4, h5⟩
  refine ⟨rfl, B', L', hs, S2, T2, ⟨h1, fun x hx => ?_, fun x hx => ?_, h.only.trans h3 fun k hk => .inr (by rcases List.mem_append.1 hk with h9 | h9; exact h.newS k h9; exact h.newT k h9)⟩, h3, h4, h5⟩
  · rcases h4 x hx with h9 | h9
    · exact h.newS x h9
    · exact Nat.le_trans h.only.size h9
  · rcases h5 x hx with h9 | h9
    · exact h.newT x h9
    · exact Nat.le_trans h.only.size h9
/-- Bounds. -/
theorem cat_bound {k : Nat} (h : QSound w wr qb S xb T n wd B L) (hl : ∀ i, (L i).length ≤ k) (hk : k ≤ 1000) : (catL L n).length ≤ 16000 := by
  have h1 := catL_len_le (L := L) (n := n) (m := k) (fun i _ => hl i)
  have h2 := h.pair.ours.n1.2
  have h3 : n * k ≤ 16 * 1000 := Nat.mul_le_mul h2 hk
  omega
theorem QSound.len (h : QSound w wr qb S xb T n wd B L) : Calls Tryz.prog 11 #[.pointer (some ⟨qb, 0, none⟩)] wr fun e w' => e = .returned (.int .i64 ((mergeM L n).length : Int)) ∧ QSound w w' qb S xb T n wd B L := by
  rw [merge_len]
  exact (qLen wr qb S n wd B L h.pair.ours).mono fun _ _ q => ⟨q.1, h.only0 q.2⟩
theorem QSound.all (h : QSound w wr qb S xb T n wd B L) (hT : Tab w) (hb : (catL L n).length ≤ 100000) : Calls Tryz.prog 17 #[.pointer (some ⟨qb, 0, none⟩)] wr fun e w' => ∃ A cap, e = .returned (.slice A (mergeM L n).length cap) ∧ RowIs w' (.slice A (mergeM L n).length cap) (mergeM L n) ∧ (∀ k, (Value.slice A (mergeM L n).length cap).ownBlock = some k → wr.heap.size ≤ k) ∧ Only [] wr w' :=
  qAll wr qb S n wd B L h.pair.ours (hT.only0 h.only) hb
theorem QSound.refall (h : QSound w wr qb S xb T n wd B L) (hb : (catL L n).length ≤ 100000) : Calls Tryz.prog 12 #[.pointer (some ⟨xb, 0, none⟩)] wr fun e w' => ∃ A cap, e = .returned (.slice A (mergeM L n).length cap) ∧ RowIs w' (.slice A (mergeM L n).length cap) (mergeM L n) ∧ Only [] wr w' :=
  rqAll wr xb T n wd B L h.pair.ref h.homes hb
theorem QSound.bases (h : QSound w wr qb S xb T n wd B L) : Calls Tryz.prog 14 #[.pointer (some ⟨qb, 0, none⟩)] wr fun e w' => ∃ g, e = .returned (.slice (some ⟨g, 0, none⟩) n n) ∧ Arr w' g 29 (u64s (basesL B n)) ∧ wr.heap.size ≤ g ∧ Only [] wr w' := qBases wr qb S n wd B L h.pair.ours
theorem QSound.refbases (h : QSound w wr qb S xb T n wd B L) : Calls Tryz.prog 15 #[.pointer (some ⟨xb, 0, none⟩)] wr fun e w' => ∃ A cap, e = .returned (.slice A n cap) ∧ UAt w' A (basesL B n) ∧ Only [] wr w' := rqBases wr xb T n wd B L h.pair.ref
theorem RowIs.only0 {w w' : World} {v : Value} {l : List It} (h : RowIs w v l) (ho : Only [] w w') : RowIs w' v l := h.keep fun g hg => ho.block g (h.lt hg) (by simp)
end
/-- made, within a walk that began in w. -/
theorem made_q (w W : World) (o : Only [] w W) (a b : Int) : Calls Tryz.prog 8 #[.int .i64 a, .int .i64 b] W fun e w' => ∃ qb xb, e = .returned (.tuple #[.pointer (some ⟨qb, 0, none⟩), .pointer (some ⟨xb, 0, none⟩)]) ∧ ∃ n wd S T, QSound w w' qb S xb T n wd (fun _ => 0) (fun _ => []) ∧ (∀ x, x ∈ S ++ T → W.heap.size ≤ x) ∧ Only [] W w' := by
  refine (hMade8 a b W).mono ?_
  rintro e w' ⟨qb, xb, rfl, n, wd, S, T, h1, h2, h3, h4⟩
  refine ⟨qb, xb, rfl, n, wd, S, T, ⟨h1, fun x hx => Nat.le_trans o.size (h2 x hx), fun x hx => Nat.le_trans o.size (h3 x hx), o.trans' h4⟩, fun x hx => ?_, h4⟩
  rcases List.mem_append.1 hx with h9 | h9
  · exact h2 x h9
  · exact h3 x h9
end Go.Proofs.YtajhkdbldbifeaaGreatDoor
