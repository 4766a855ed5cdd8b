/-
  Two queues and the document's side by side; what is told, written over.
-/
import Derived.Test.YtajhkdbldbifeaaGreatDoorQueueT
namespace Go.Proofs.YtajhkdbldbifeaaGreatDoor
set_option maxRecDepth 100000
open Go.RowKit Go.ChangeMaps Go.MapKept
set_option linter.unusedVariables false
set_option linter.unusedSimpArgs false

/-- Two pairs that have nothing in common. -/
structure QTwo (w wr : World) (qb : Nat) (S : List Nat) (xb : Nat) (T : List Nat) (n wd : Nat) (B : Nat → Int) (L : Nat → List It) (vb : Nat) (S' : List Nat) (yb : Nat) (T' : List Nat) (n' wd' : Nat) (B' : Nat → Int) (L' : Nat → List It) : Prop where
  a : QSound w wr qb S xb T n wd B L
  b : QSound w wr vb S' yb T' n' wd' B' L'
  ap : ∀ x, x ∈ S ++ T → x ∉ S' ++ T'
section
variable {w wr w2 : World} {qb xb n wd vb yb n' wd' : Nat} {S T S' T' : List Nat} {B B' : Nat → Int} {L L' : Nat → List It}
theorem QTwo.only0 (h : QTwo w wr qb S xb T n wd B L vb S' yb T' n' wd' B' L') (ho : Only [] wr w2) : QTwo w w2 qb S xb T n wd B L vb S' yb T' n' wd' B' L' := ⟨h.a.only0 ho, h.b.only0 ho, h.ap⟩
theorem QTwo.swap (h : QTwo w wr qb S xb T n wd B L vb S' yb T' n' wd' B' L') : QTwo w wr vb S' yb T' n' wd' B' L' qb S xb T n wd B L := ⟨h.b, h.a, fun x hx hc => h.ap x hc hx⟩
/-- A step of the first. -/
theorem QTwo.stepA (h : QTwo w wr qb S xb T n wd B L vb S' yb T' n' wd' B' L') (hT : Tab w) (hl : ∀ i, (L i).length < 1000) (d : Dd) (hd : d.ok) {qf : Dd → Nat} (K : Kinds 8 qf) :
    Calls Tryz.prog 10 #[.pointer (some ⟨qb, 0, none⟩), .pointer (some ⟨xb, 0, none⟩), .agg #[.int .i64 d.a, .int .u64 d.b, .int .i64 d.c]] wr fun e w' => e = .returned (.bool true) ∧ ∃ B2 L2 S2 T2, (∀ i, (L2 i).length ≤ (L i).length + 1) ∧ QTwo w w' qb S2 xb T2 n wd B2 L2 vb S' yb T' n' wd' B' L' := by
  refine (h.a.step hT hl d hd K).mono ?_
  rintro e w2 ⟨rfl, B2, L2, hs, S2, T2, h1, h3, h4, h5⟩
  refine ⟨rfl, B2, L2, S2, T2, hs.len, ⟨h1, h.b.keep h3 (fun x hx hc => h.ap x hc hx) h1.only, fun x hx hc => ?_⟩⟩
  have hlt := h.b.lt x hc
  rcases List.mem_append.1 hx with h9 | h9
  · rcases h4 x h9 with h8 | h8
    · exact h.ap x (by simp [h8]) hc
    · omega
  · rcases h5 x h9 with h8 | h8
    · exact h.ap x (by simp [h8]) hc
    · omega
end
theorem spoil_newQ {w0 u1 u2 : World} {v : Value} (hv : ∀ k, v.ownBlock = some k → w0.heap.size ≤ k) (o1 : Only [] w0 u1) (o2 : Only v.ownBlock.toList u1 u2) : Only [] w0 u2 := o1.trans o2 fun k hk => .inr (hv k (Option.mem_toList.1 hk))
section
variable {w wr : World} {qb xb n wd : Nat} {S T : List Nat} {B : Nat → Int} {L : Nat → List It}
theorem QSound.spoilAll (h : QSound w wr qb S xb T n wd B L) (hT : Tab w) (hb : (catL L n).length ≤ 16000) :
    Calls Tryz.prog 17 #[.pointer (some ⟨qb, 0, none⟩)] wr (fun e u1 => ∃ v, e = .returned v ∧ Calls Tryz.prog 29 #[v] u1 (fun e u2 => e = .returned (.tuple #[]) ∧ Only [] wr u2)) := by
  refine (h.all hT (by omega)).mono ?_
  rintro e u1 ⟨A2, cap2, rfl, r2, v2, o2⟩
  refine ⟨_, rfl, (hSpoil u1 _ (mergeM L n) r2 (by rw [merge_len]; omega)).mono ?_⟩
  rintro e u2 ⟨rfl, o3⟩
  exact ⟨rfl, spoil_newQ v2 o2 o3⟩
theorem QSound.spoilShard (h : QSound w wr qb S xb T n wd B L) (hT : Tab w) (hl : (L 0).length ≤ 1000) :
    Calls Tryz.prog 18 #[.pointer (some ⟨qb, 0, none⟩), .int .i64 0] wr (fun e u1 => ∃ v, e = .returned v ∧ Calls Tryz.prog 29 #[v] u1 (fun e u2 => e = .returned (.tuple #[]) ∧ Only [] wr u2)) := by
  refine (qShardIn wr qb S n wd B L h.pair.ours (hT.only0 h.only) 0 (by have := h.pair.ours.n1; omega)).mono ?_
  rintro e u1 ⟨A2, cap2, rfl, r2, v2, o2⟩
  refine ⟨_, rfl, (hSpoil u1 _ (L 0) r2 (by omega)).mono ?_⟩
  rintro e u2 ⟨rfl, o3⟩
  exact ⟨rfl, spoil_newQ v2 o2 o3⟩
theorem QSound.spoilBases (h : QSound w wr qb S xb T n wd B L) :
    Calls Tryz.prog 14 #[.pointer (some ⟨qb, 0, none⟩)] wr (fun e u1 => ∃ v, e = .returned v ∧ Calls Tryz.prog 30 #[v] u1 (fun e u2 => e = .returned (.tuple #[]) ∧ Only [] wr u2)) := by
  refine h.bases.mono ?_
  rintro e u1 ⟨g, rfl, a2, v2, o2⟩
  refine ⟨_, rfl, (uSpoil u1 g n n (basesL B n) (basesL_len B n) (by have := h.pair.ours.n1; omega) a2).mono ?_⟩
  rintro e u2 ⟨rfl, o3⟩
  exact ⟨rfl, o2.trans o3 (by simp; exact v2)⟩
/-- All, ours and the document's, are alike. -/
theorem QSound.alls (h : QSound w wr qb S xb T n wd B L) (hT : Tab w) (hb : (catL L n).length ≤ 16000) :
    Calls Tryz.prog 17 #[.pointer (some ⟨qb, 0, none⟩)] wr (fun e u1 => ∃ v, e = .returned v ∧ Calls Tryz.prog 12 #[.pointer (some ⟨xb, 0, none⟩)] u1 (fun e u2 => ∃ v', e = .returned v' ∧ Calls Tryz.prog 16 #[v, v'] u2 (fun e u3 => e = .returned (.bool true) ∧ Only [] wr u3))) := by
  refine (h.all hT (by omega)).mono ?_
  rintro e u1 ⟨A1, cap1, rfl, r1, -, o1⟩
  refine ⟨_, rfl, ((h.only0 o1).refall (by omega)).mono ?_⟩
  rintro e u2 ⟨A2, cap2, rfl, r2, o2⟩
  refine ⟨_, rfl, (hPlain u2 _ _ (mergeM L n) (mergeM L n) (r1.only0 o2) r2 (by rw [merge_len]; omega) (by rw [merge_len]; omega)).mono ?_⟩
  rintro e u3 ⟨rfl, o3⟩
  exact ⟨by simp, (o1.trans' o2).trans' o3⟩
theorem QSound.basess (h : QSound w wr qb S xb T n wd B L) :
    Calls Tryz.prog 14 #[.pointer (some ⟨qb, 0, none⟩)] wr (fun e u1 => ∃ v, e = .returned v ∧ Calls Tryz.prog 15 #[.pointer (some ⟨xb, 0, none⟩)] u1 (fun e u2 => ∃ v', e = .returned v' ∧ Calls Tryz.prog 13 #[v, v'] u2 (fun e u3 => e = .returned (.bool true) ∧ Only [] wr u3))) := by
  have hn := h.pair.ours.n1
  refine h.bases.mono ?_
  rintro e u1 ⟨g, rfl, a1, -, o1⟩
  refine ⟨_, rfl, (h.only0 o1).refbases.mono ?_⟩
  rintro e u2 ⟨A2, cap2, rfl, r2, o2⟩
  refine ⟨_, rfl, (uPlain _ _ n n cap2 (basesL B n) u2 (basesL_len B n) hn.1 (by omega) ((a1.only0 o2).uat) r2).mono ?_⟩
  rintro e u3 ⟨rfl, o3⟩
  exact ⟨rfl, (o1.trans' o2).trans' o3⟩
end
end Go.Proofs.YtajhkdbldbifeaaGreatDoor
