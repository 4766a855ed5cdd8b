/-
  The queue in memory, told by the lists of its shards: its struct, the pointers to its shards, the shards, the tournament of their first items.
-/
import Derived.Test.YtajhkdbldbifeaaGreatDoorQueueM
import Derived.Test.YtajhkdbldbifeaaGreatDoorShardR
import Derived.Test.YtajhkdbldbifeaaGreatDoorGmC
import Derived.Test.YtajhkdbldbifeaaGreatDoorGmT
namespace Go.Proofs.YtajhkdbldbifeaaGreatDoor
set_option maxRecDepth 100000
open Go.RowKit Go.ChangeMaps Go.MapKept
set_option linter.unusedVariables false
set_option linter.unusedSimpArgs false

/-- Pointers, n of them. -/
def ptrs (P : Nat → Nat) (n : Nat) : List Value := (List.range n).map fun i => .pointer (some ⟨P i, 0, none⟩)
theorem ptrs_at (P : Nat → Nat) {n i : Nat} (h : i < n) : (ptrs P n)[i]? = some (.pointer (some ⟨P i, 0, none⟩)) := by simp [ptrs, h]
@[simp] theorem ptrs_len (P : Nat → Nat) (n : Nat) : (ptrs P n).length = n := by simp [ptrs]
/-- The blocks of shards. -/
def catN (SS : Nat → List Nat) (n : Nat) : List Nat := (List.range n).flatMap SS
theorem mem_catN {SS : Nat → List Nat} {n b : Nat} : b ∈ catN SS n ↔ ∃ i, i < n ∧ b ∈ SS i := by simp [catN]
theorem TourOf.regard {w : World} {tb ib nb n : Nat} {hs hs' : Nat → Bool} {g g' : Nat → It} (h : TourOf w tb ib nb n hs g) (h1 : hs = hs') (h2 : ∀ i, i < n → hs i = true → g i = g' i) : TourOf w tb ib nb n hs' g' := by
  subst h1
  obtain ⟨xs, ns, a, b, c⟩ := h
  exact ⟨xs, ns, a, b, fun i hi hb => (c i hi hb).trans (h2 i hi hb)⟩
theorem TourOf.n1 {w : World} {tb ib nb n : Nat} {hs : Nat → Bool} {g : Nat → It} (h : TourOf w tb ib nb n hs g) : 1 ≤ n ∧ n ≤ 16 := by
  obtain ⟨xs, ns, a, _⟩ := h
  exact ⟨a.n1, a.n16⟩

/-- The queue's parts; hs and g: what its tournament was told. -/
structure QueueIs (w : World) (qb ab tb ib nb n : Nat) (P : Nat → Nat) (SS : Nat → List Nat) (wd : Nat) (B : Nat → Int) (L : Nat → List It) (hs : Nat → Bool) (g : Nat → It) : Prop where
  blk : Arr w qb 70 [.slice (some ⟨ab, 0, none⟩) n n, .pointer (some ⟨tb, 0, none⟩)]
  ptr : Arr w ab 71 (ptrs P n)
  tr : TourOf w tb ib nb n hs g
  sh : ∀ i, i < n → ShardOf w (P i) (SS i) wd (B i) (L i)
  dis : ∀ i j, i < n → j < n → i ≠ j → ∀ b ∈ SS i, b ∉ SS j
  out : ∀ i, i < n → ∀ b ∈ SS i, b ∉ [qb, ab, tb, ib, nb]
  ne1 : ∀ b ∈ [tb, ib, nb], b ≠ qb ∧ b ≠ ab
  homes : Homes n L
def qown (qb ab tb ib nb n : Nat) (SS : Nat → List Nat) : List Nat := [qb, ab, tb, ib, nb] ++ catN SS n
theorem mem_qown {qb ab tb ib nb n b : Nat} {SS : Nat → List Nat} : b ∈ qown qb ab tb ib nb n SS ↔ b ∈ [qb, ab, tb, ib, nb] ∨ ∃ i, i < n ∧ b ∈ SS i := by
  unfold qown; rw [List.mem_append, mem_catN]
theorem in5 {b qb ab tb ib nb : Nat} (h : b ∈ [tb, ib, nb]) : b ∈ [qb, ab, tb, ib, nb] := List.mem_cons_of_mem _ (List.mem_cons_of_mem _ h)
theorem in3 {b tb ib nb : Nat} (h : b ∈ [ib, nb]) : b ∈ [tb, ib, nb] := List.mem_cons_of_mem _ h
section
variable {w w' : World} {qb ab tb ib nb n wd : Nat} {P : Nat → Nat} {SS : Nat → List Nat} {B : Nat → Int} {L : Nat → List It} {hs : Nat → Bool} {g : Nat → It} {T : List Nat}
theorem QueueIs.n1 (h : QueueIs w qb ab tb ib nb n P SS wd B L hs g) : 1 ≤ n ∧ n ≤ 16 := h.tr.n1
theorem QueueIs.c0 (h : QueueIs w qb ab tb ib nb n P SS wd B L hs g) : w.cell? ⟨qb, 0, none⟩ = some (.slice (some ⟨ab, 0, none⟩) n n) := by rw [h.blk.cell]; rfl
theorem QueueIs.c1 (h : QueueIs w qb ab tb ib nb n P SS wd B L hs g) : w.cell? ⟨qb, 1, none⟩ = some (.pointer (some ⟨tb, 0, none⟩)) := by rw [h.blk.cell]; rfl
theorem QueueIs.at_ (h : QueueIs w qb ab tb ib nb n P SS wd B L hs g) {i : Nat} (hi : i < n) : w.cell? ⟨ab, i, none⟩ = some (.pointer (some ⟨P i, 0, none⟩)) := by rw [h.ptr.cell]; exact ptrs_at P hi
theorem QueueIs.ne2 (h : QueueIs w qb ab tb ib nb n P SS wd B L hs g) : qb ≠ ab := h.blk.ne h.ptr (by decide)
theorem QueueIs.lt (h : QueueIs w qb ab tb ib nb n P SS wd B L hs g) : ∀ b ∈ qown qb ab tb ib nb n SS, b < w.heap.size := fun b hb => by
  rcases mem_qown.1 hb with h1 | ⟨i, hi, h1⟩
  · simp only [List.mem_cons, List.not_mem_nil, or_false] at h1
    rcases h1 with rfl | rfl | h1
    · exact h.blk.lt
    · exact h.ptr.lt
    · exact h.tr.lt b (by simp; exact h1)
  · exact (h.sh i hi).lt b h1
theorem QueueIs.only (h : QueueIs w qb ab tb ib nb n P SS wd B L hs g) (ho : Only T w w') (hT : ∀ b ∈ qown qb ab tb ib nb n SS, b ∉ T) : QueueIs w' qb ab tb ib nb n P SS wd B L hs g :=
  ⟨h.blk.only ho (hT _ (mem_qown.2 (.inl (by simp)))), h.ptr.only ho (hT _ (mem_qown.2 (.inl (by simp)))), h.tr.only ho fun b hb => hT b (mem_qown.2 (.inl (in5 hb))), fun i hi => (h.sh i hi).only ho fun b hb => hT b (mem_qown.2 (.inr ⟨i, hi, hb⟩)), h.dis, h.out, h.ne1, h.homes⟩
theorem QueueIs.only0 (h : QueueIs w qb ab tb ib nb n P SS wd B L hs g) (ho : Only [] w w') : QueueIs w' qb ab tb ib nb n P SS wd B L hs g := h.only ho (by simp)
/-- One shard moved. -/
theorem QueueIs.shard (h : QueueIs w qb ab tb ib nb n P SS wd B L hs g) {i : Nat} (hi : i < n) {S' : List Nat} {b' : Int} {l' : List It} (hw : ShardOf w' (P i) S' wd b' l') (hm : Moved w (SS i) w' S') (hh : Homes n (fup L i l')) :
    QueueIs w' qb ab tb ib nb n P (fup SS i S') wd (fup B i b') (fup L i l') hs g ∧ Moved w (qown qb ab tb ib nb n SS) w' (qown qb ab tb ib nb n (fup SS i S')) := by
  have hlt := h.lt
  have hout : ∀ b ∈ [qb, ab, tb, ib, nb], b ∉ SS i := fun b hb hc => h.out i hi b hc hb
  have hS' : ∀ b ∈ S', b ∈ SS i ∨ w.heap.size ≤ b := hm.2
  refine ⟨⟨h.blk.only hm.1 (hout _ (by simp)), h.ptr.only hm.1 (hout _ (by simp)), h.tr.only hm.1 (fun b hb => hout b (in5 hb)), fun k hk => ?_, fun k j hk hj hne b hb => ?_, fun k hk b hb hc => ?_, h.ne1, hh⟩, hm.1.mono fun k hk => .inl (mem_qown.2 (.inr ⟨i, hi, hk⟩)), fun b hb => ?_⟩
  · by_cases e : k = i
    · subst e; rw [fup_same, fup_same, fup_same]; exact hw
    · rw [fup_other _ _ e, fup_other _ _ e, fup_other _ _ e]
      exact (h.sh k hk).only hm.1 fun b hb => h.dis k i hk hi e b hb
  · by_cases e : k = i
    · subst e
      rw [fup_same] at hb
      rw [fup_other _ _ (Ne.symm hne)]
      intro hc
      rcases hS' b hb with h1 | h1
      · exact h.dis k j hk hj hne b h1 hc
      · have := (h.sh j hj).lt b hc; omega
    · rw [fup_other _ _ e] at hb
      by_cases e2 : j = i
      · subst e2
        rw [fup_same]
        intro hc
        rcases hS' b hc with h1 | h1
        · exact h.dis k j hk hj hne b hb h1
        · have := (h.sh k hk).lt b hb; omega
      · rw [fup_other _ _ e2]; exact h.dis k j hk hj hne b hb
  · by_cases e : k = i
    · subst e
      rw [fup_same] at hb
      rcases hS' b hb with h1 | h1
      · exact h.out k hk b h1 hc
      · have := hlt b (mem_qown.2 (.inl hc)); omega
    · rw [fup_other _ _ e] at hb; exact h.out k hk b hb hc
  · rcases mem_qown.1 hb with h1 | ⟨k, hk, h1⟩
    · exact .inl (mem_qown.2 (.inl h1))
    · by_cases e : k = i
      · subst e
        rw [fup_same] at h1
        rcases hS' b h1 with h2 | h2
        · exact .inl (mem_qown.2 (.inr ⟨k, hk, h2⟩))
        · exact .inr h2
      · rw [fup_other _ _ e] at h1; exact .inl (mem_qown.2 (.inr ⟨k, hk, h1⟩))
/-- The tournament told anew. -/
theorem QueueIs.tour (h : QueueIs w qb ab tb ib nb n P SS wd B L hs g) {hs' : Nat → Bool} {g' : Nat → It} (ht : TourOf w' tb ib nb n hs' g') (ho : Only [ib, nb] w w') :
    QueueIs w' qb ab tb ib nb n P SS wd B L hs' g' ∧ Moved w (qown qb ab tb ib nb n SS) w' (qown qb ab tb ib nb n SS) := by
  have h1 := h.ne1 ib (by simp)
  have h2 := h.ne1 nb (by simp)
  refine ⟨⟨h.blk.only ho (by simp; exact ⟨Ne.symm h1.1, Ne.symm h2.1⟩), h.ptr.only ho (by simp; exact ⟨Ne.symm h1.2, Ne.symm h2.2⟩), ht, fun i hi => (h.sh i hi).only ho (fun b hb hc => h.out i hi b hb (in5 (in3 hc))), h.dis, h.out, h.ne1, h.homes⟩, ho.mono fun k hk => .inl (mem_qown.2 (.inl (in5 (in3 hk)))), fun b hb => .inl hb⟩
end
/-- The queue at qb, of the blocks S: n shards of that width, with the bases B and the lists L. -/
def QueueOf (w : World) (qb : Nat) (S : List Nat) (n wd : Nat) (B : Nat → Int) (L : Nat → List It) : Prop :=
  ∃ ab tb ib nb P SS, S = qown qb ab tb ib nb n SS ∧ QueueIs w qb ab tb ib nb n P SS wd B L (hasL L) (firL L)
section
variable {w w' : World} {qb n wd : Nat} {S T : List Nat} {B : Nat → Int} {L : Nat → List It}
theorem QueueOf.only (h : QueueOf w qb S n wd B L) (ho : Only T w w') (hT : ∀ b ∈ S, b ∉ T) : QueueOf w' qb S n wd B L := by
  obtain ⟨ab, tb, ib, nb, P, SS, rfl, h1⟩ := h
  exact ⟨ab, tb, ib, nb, P, SS, rfl, h1.only ho hT⟩
theorem QueueOf.only0 (h : QueueOf w qb S n wd B L) (ho : Only [] w w') : QueueOf w' qb S n wd B L := h.only ho (by simp)
theorem QueueOf.lt (h : QueueOf w qb S n wd B L) : ∀ b ∈ S, b < w.heap.size := by
  obtain ⟨ab, tb, ib, nb, P, SS, rfl, h1⟩ := h
  exact h1.lt
theorem QueueOf.n1 (h : QueueOf w qb S n wd B L) : 1 ≤ n ∧ n ≤ 16 := by
  obtain ⟨ab, tb, ib, nb, P, SS, rfl, h1⟩ := h
  exact h1.n1
theorem QueueOf.homes (h : QueueOf w qb S n wd B L) : Homes n L := by
  obtain ⟨ab, tb, ib, nb, P, SS, rfl, h1⟩ := h
  exact h1.homes
theorem QueueOf.sits (h : QueueOf w qb S n wd B L) {i : Nat} (hi : i < n) : Sits (B i) (L i) := by
  obtain ⟨ab, tb, ib, nb, P, SS, rfl, h1⟩ := h
  exact (h1.sh i hi).sits
theorem QueueOf.wd40 (h : QueueOf w qb S n wd B L) : wd ≤ 40 := by
  obtain ⟨ab, tb, ib, nb, P, SS, rfl, h1⟩ := h
  exact (h1.sh 0 (by have := h1.n1; omega)).wd40
end
end Go.Proofs.YtajhkdbldbifeaaGreatDoor
