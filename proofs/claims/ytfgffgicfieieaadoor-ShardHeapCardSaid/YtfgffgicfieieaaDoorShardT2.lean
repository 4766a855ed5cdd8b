/-
  What a walk over deeds keeps.
-/
import Derived.Test.YtfgffgicfieieaaDoorShardS2
import Derived.Test.YtfgffgicfieieaaDoorShardE
import Derived.Test.YtfgffgicfieieaaDoorWheelO
import Derived.Test.YtfgffgicfieieaaDoorWheelF
namespace Go.Proofs.YtfgffgicfieieaaDoor
set_option maxRecDepth 100000
open Go.RowKit Go.ChangeMaps Go.MapKept
set_option linter.unusedVariables false
set_option linter.unusedSimpArgs false

/-- A shard and the document's, made within the walk that began in w. -/
structure Sound (w wr : World) (wb : Nat) (S : List Nat) (xb : Nat) (T : List Nat) (wd : Nat) (base : Int) (l : List It) : Prop where
  pair : Pair wr wb S xb T wd base l
  newS : ∀ b ∈ S, w.heap.size ≤ b
  newT : ∀ b ∈ T, w.heap.size ≤ b
  only : Only [] w wr
theorem Sound.only0 {w wr w2 : World} {wb xb wd : Nat} {S T : List Nat} {base : Int} {l : List It} (h : Sound w wr wb S xb T wd base l) (ho : Only [] wr w2) : Sound w w2 wb S xb T wd base l := ⟨h.pair.only0 ho, h.newS, h.newT, h.only.trans' ho⟩
theorem Sound.next {w wr w0 w2 : World} {wb xb wd : Nat} {S T : List Nat} {base : Int} {l : List It} {p : Int × List It} (h : Sound w wr wb S xb T wd base l) (o0 : Only [] wr w0) (ha : After w0 wb S xb T wd p w2) : ∃ S' T', Sound w w2 wb S' xb T' wd p.1 p.2 := by
  obtain ⟨S', T', h1, h3, h4, h5⟩ := ha
  have hs := Nat.le_trans h.only.size o0.size
  refine ⟨S', T', ⟨h1, fun x hx => ?_, fun x hx => ?_, ?_⟩⟩
  · rcases h4 x hx with h9 | h9
    · exact h.newS x h9
    · omega
  · rcases h5 x hx with h9 | h9
    · exact h.newT x h9
    · omega
  · refine (h.only.trans' o0).trans h3 fun k hk => .inr ?_
    rcases List.mem_append.1 hk with h9 | h9
    · exact h.newS k h9
    · exact h.newT k h9
theorem Sound.tab {w wr : World} {wb xb wd : Nat} {S T : List Nat} {base : Int} {l : List It} (h : Sound w wr wb S xb T wd base l) (hT : Tab w) : Tab wr ∧ 0 ∉ S := by
  refine ⟨hT.only0 h.only, fun hc => ?_⟩
  have h1 := h.newS _ hc
  have h2 := World.block_lt_of_cell? w _ (hT 0 (by omega))
  simp only at h2
  omega
theorem Sound.refs {w wr : World} {wb xb wd : Nat} {S T : List Nat} {base : Int} {l : List It} (h : Sound w wr wb S xb T wd base l) : ∃ A cap, wr.cell? ⟨xb, 0, none⟩ = some (.slice A l.length cap) ∧ RowIs wr (.slice A l.length cap) l ∧ wr.cell? ⟨xb, 1, none⟩ = some (.int .u64 base) ∧ wr.cell? ⟨xb, 2, none⟩ = some (.int .i64 (wd : Int)) := by
  obtain ⟨c1, c2, -, -⟩ := h.pair.ref.cells
  obtain ⟨v, -, h1, -⟩ := h.pair.ref
  obtain ⟨A, cap, ev⟩ := h1.row.form
  have h2 := h1.row
  have c0 := h1.c0
  rw [ev] at h2 c0
  exact ⟨A, cap, c0, h2, c1, c2⟩
/-- All, within a walk. -/
theorem Sound.all {w wr : World} {wb xb wd : Nat} {S T : List Nat} {base : Int} {l : List It} (h : Sound w wr wb S xb T wd base l) (hT : Tab w) (w0 : World) (o0 : Only [] wr w0) :
    Calls Tryd.prog 15 #[.pointer (some ⟨wb, 0, none⟩)] w0 fun e w' => ∃ A cap, e = .returned (.slice A l.length cap) ∧ RowIs w' (.slice A l.length cap) l ∧ (∀ k, (Value.slice A l.length cap).ownBlock = some k → w0.heap.size ≤ k) ∧ Only [] w0 w' :=
  sAll w0 wb S wd base l (h.pair.ours.only0 o0) ((h.only0 o0).tab hT).1
theorem Sound.base {w wr : World} {wb xb wd : Nat} {S T : List Nat} {base : Int} {l : List It} (h : Sound w wr wb S xb T wd base l) (w0 : World) (o0 : Only [] wr w0) : Calls Tryd.prog 31 #[.pointer (some ⟨wb, 0, none⟩)] w0 fun e w' => e = .returned (.int .u64 base) ∧ w' = w0 := sBaseOf w0 wb S wd base l (h.pair.ours.only0 o0)
theorem Sound.len {w wr : World} {wb xb wd : Nat} {S T : List Nat} {base : Int} {l : List It} (h : Sound w wr wb S xb T wd base l) (w0 : World) (o0 : Only [] wr w0) : Calls Tryd.prog 26 #[.pointer (some ⟨wb, 0, none⟩)] w0 fun e w' => e = .returned (.int .i64 (l.length : Int)) ∧ Only [] w0 w' := sLenOf w0 wb S wd base l (h.pair.ours.only0 o0)
theorem Sound.over {w wr : World} {wb xb wd : Nat} {S T : List Nat} {base : Int} {l : List It} (h : Sound w wr wb S xb T wd base l) (w0 : World) (o0 : Only [] wr w0) : Calls Tryd.prog 12 #[.pointer (some ⟨wb, 0, none⟩)] w0 fun e w' => e = .returned (.int .i64 ((fars wd base l).length : Int)) ∧ w' = w0 := sOver w0 wb S wd base l (h.pair.ours.only0 o0)
theorem Sound.refover {w wr : World} {wb xb wd : Nat} {S T : List Nat} {base : Int} {l : List It} (h : Sound w wr wb S xb T wd base l) (w0 : World) (o0 : Only [] wr w0) : Calls Tryd.prog 13 #[.pointer (some ⟨xb, 0, none⟩)] w0 fun e w' => e = .returned (.int .i64 ((fars wd base l).length : Int)) ∧ Only [] w0 w' := rOver w0 xb T wd base l (h.pair.ref.only0 o0) h.pair.ours.sits h.pair.ours.wd40
/-- made, and awake, at the head of a law. -/
theorem made_sound (width : Int) (w : World) : Calls Tryd.prog 5 #[.int .i64 width] w fun e w' => ∃ wb S xb T wd, e = .returned (.tuple #[.pointer (some ⟨wb, 0, none⟩), .pointer (some ⟨xb, 0, none⟩)]) ∧ Sound w w' wb S xb T wd 0 [] := by
  refine (hMade width w).mono ?_
  rintro e w' ⟨wb, S, xb, T, wd, rfl, h1, h2, h3, h4, h5, h6⟩
  exact ⟨wb, S, xb, T, wd, rfl, ⟨⟨h1, h2, h5⟩, h3, h4, h6⟩⟩
end Go.Proofs.YtfgffgicfieieaaDoor
