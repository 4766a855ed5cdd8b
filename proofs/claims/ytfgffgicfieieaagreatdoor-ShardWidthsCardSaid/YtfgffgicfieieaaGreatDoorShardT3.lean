/-
  Two pairs of shards side by side.
-/
import Derived.Test.YtfgffgicfieieaaGreatDoorShardT2
namespace Go.Proofs.YtfgffgicfieieaaGreatDoor
set_option maxRecDepth 100000
open Go.RowKit Go.ChangeMaps Go.MapKept
set_option linter.unusedVariables false
set_option linter.unusedSimpArgs false

/-- Two pairs of shards that have nothing in common. -/
structure Two (w wr : World) (wb : Nat) (S : List Nat) (xb : Nat) (T : List Nat) (wd : Nat) (base : Int) (l : List It) (vb : Nat) (S' : List Nat) (yb : Nat) (T' : List Nat) (wd' : Nat) (base' : Int) (l' : List It) : Prop where
  a : Sound w wr wb S xb T wd base l
  b : Sound w wr vb S' yb T' wd' base' l'
  ap : ∀ x, x ∈ S ++ T → x ∉ S' ++ T'
theorem Two.only0 {w wr w2 : World} {wb xb wd vb yb wd' : Nat} {S T S' T' : List Nat} {base base' : Int} {l l' : List It} (h : Two w wr wb S xb T wd base l vb S' yb T' wd' base' l') (ho : Only [] wr w2) : Two w w2 wb S xb T wd base l vb S' yb T' wd' base' l' := ⟨h.a.only0 ho, h.b.only0 ho, h.ap⟩
theorem Sound.keep {w wr w2 : World} {wb xb wd : Nat} {S T U : List Nat} {base : Int} {l : List It} (h : Sound w wr wb S xb T wd base l) (ho : Only U wr w2) (hU : ∀ x, x ∈ S ++ T → x ∉ U) (hw : Only [] w w2) : Sound w w2 wb S xb T wd base l :=
  ⟨h.pair.only ho (fun b hb => hU b (by simp [hb])) (fun b hb => hU b (by simp [hb])), h.newS, h.newT, hw⟩
theorem Sound.ltS {w wr : World} {wb xb wd : Nat} {S T : List Nat} {base : Int} {l : List It} (h : Sound w wr wb S xb T wd base l) : ∀ x, x ∈ S ++ T → x < wr.heap.size := fun x hx => by
  rcases List.mem_append.1 hx with h1 | h1
  · exact h.pair.ours.lt x h1
  · exact h.pair.ref.lt x h1
/-- A step of the first; a step of the second. -/
theorem Two.stepA {w wr : World} {wb xb wd vb yb wd' : Nat} {S T S' T' : List Nat} {base base' : Int} {l l' : List It} (h : Two w wr wb S xb T wd base l vb S' yb T' wd' base' l') (hT : Tab w) (hl : l.length < 1000) (d : Dd) (hd : d.ok) {mf : Dd → Int} {qf : Dd → Nat} (P : Plays mf qf) :
    Calls Tryz.prog 9 #[.pointer (some ⟨wb, 0, none⟩), .pointer (some ⟨xb, 0, none⟩), .agg #[.int .i64 d.a, .int .u64 d.b, .int .i64 d.c]] wr fun e w' => e = .returned (.bool true) ∧ ∃ S2 T2, Two w w' wb S2 xb T2 wd (stepM mf qf d base l).1 (stepM mf qf d base l).2 vb S' yb T' wd' base' l' := by
  obtain ⟨t1, t2⟩ := h.a.tab hT
  refine (hStep wr wb S xb T wd base l h.a.pair t1 t2 hl d hd P).mono ?_
  rintro e w2 ⟨rfl, ha⟩
  obtain ⟨S2, T2, h1, h3, h4, h5⟩ := ha
  have hw : Only [] w w2 := h.a.only.trans h3 fun k hk => .inr (by rcases List.mem_append.1 hk with h9 | h9; exact h.a.newS k h9; exact h.a.newT k h9)
  refine ⟨rfl, S2, T2, ⟨⟨h1, fun x hx => ?_, fun x hx => ?_, hw⟩, h.b.keep h3 (fun x hx hc => h.ap x hc hx) hw, fun x hx hc => ?_⟩⟩
  · rcases h4 x hx with h9 | h9
    · exact h.a.newS x h9
    · exact Nat.le_trans h.a.only.size h9
  · rcases h5 x hx with h9 | h9
    · exact h.a.newT x h9
    · exact Nat.le_trans h.a.only.size h9
  · have hlt := h.b.ltS x hc
    rcases List.mem_append.1 hx with h9 | h9
    · rcases h4 x h9 with h8 | h8
      · exact h.ap x (by simp [h8]) hc
      · omega
    · rcases h5 x h9 with h8 | h8
      · exact h.ap x (by simp [h8]) hc
      · omega
theorem Two.swap {w wr : World} {wb xb wd vb yb wd' : Nat} {S T S' T' : List Nat} {base base' : Int} {l l' : List It} (h : Two w wr wb S xb T wd base l vb S' yb T' wd' base' l') : Two w wr vb S' yb T' wd' base' l' wb S xb T wd base l := ⟨h.b, h.a, fun x hx hc => h.ap x hc hx⟩
theorem spoil_new {w0 u1 u2 : World} {v : Value} (hv : ∀ k, v.ownBlock = some k → w0.heap.size ≤ k) (o1 : Only [] w0 u1) (o2 : Only v.ownBlock.toList u1 u2) : Only [] w0 u2 := o1.trans o2 fun k hk => .inr (hv k (Option.mem_toList.1 hk))
theorem Two.swap_again {w wr : World} {wb xb wd vb yb wd' : Nat} {S T S' T' : List Nat} {base base' : Int} {l l' : List It} (h : Two w wr wb S xb T wd base l vb S' yb T' wd' base' l') (hl : l.length ≤ 1000) (hT : Tab w) :
    Calls Tryz.prog 15 #[.pointer (some ⟨wb, 0, none⟩)] wr (fun e u1 => ∃ v, e = .returned v ∧ Calls Tryz.prog 21 #[v] u1 (fun e u2 => e = .returned (.tuple #[]) ∧ Two w u2 wb S xb T wd base l vb S' yb T' wd' base' l')) := by
  refine (h.a.all hT wr (Only.refl [] wr)).mono ?_
  rintro e u1 ⟨A2, cap2, rfl, r2, v2, o2⟩
  refine ⟨_, rfl, (hSpoil u1 _ l r2 (by omega)).mono ?_⟩
  rintro e u2 ⟨rfl, o3⟩
  exact ⟨rfl, h.only0 (spoil_new v2 o2 o3)⟩
end Go.Proofs.YtfgffgicfieieaaGreatDoor
