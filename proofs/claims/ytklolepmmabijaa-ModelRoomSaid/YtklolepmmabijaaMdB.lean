/-
  A model in memory, ours and the document's; what a call tells.
-/
import Derived.Test.YtklolepmmabijaaMdM
namespace Go.Proofs.Ytklolepmmabijaa
set_option maxRecDepth 100000
open Go.RowKit
set_option linter.unusedVariables false
set_option linter.unusedSimpArgs false
set_option maxRecDepth 100000

/-! ### what stays, what is told -/
structure RepO (R : World → List Nat → Prop) : Prop where
  only : ∀ {w w' : World} {O T : List Nat}, R w O → Only T w w' → (∀ k ∈ O, k ∉ T) → R w' O
  lt : ∀ {w : World} {O : List Nat}, R w O → ∀ k ∈ O, k < w.heap.size
/-- Turned from w on; beside it a row of packets that is new, and apart. -/
def Tl (R : World → List Nat → Prop) (w : World) (O : List Nat) (v : Value) (ps : List Pk) (w' : World) : Prop :=
  ∃ O', R w' O' ∧ Went w O w' O' ∧ PRow w' v ps ∧ ∀ g, v.ownBlock = some g → w.heap.size ≤ g ∧ g ∉ O'
section
variable {R : World → List Nat → Prop} {w w1 w2 w3 w' : World} {O O' : List Nat} {v : Value} {ps : List Pk}
theorem Tl.plain (h : R w' O') (hw : Went w O w' O') : Tl R w O (.slice none 0 0) [] w' := ⟨O', h, hw, PRow.nil _, by simp [Value.ownBlock]⟩
theorem Tl.from (ho : Only [] w w1) (h : Tl R w1 O v ps w2) : Tl R w O v ps w2 := by
  obtain ⟨O', h1, h2, h3, h4⟩ := h
  exact ⟨O', h1, (Went.still ho O).trans h2, h3, fun g hg => ⟨Nat.le_trans ho.size (h4 g hg).1, (h4 g hg).2⟩⟩
variable (hR : RepO R)
include hR
theorem Tl.still (h : R w O) (ho : Only [] w w') : Tl R w O (.slice none 0 0) [] w' := Tl.plain (hR.only h ho (by simp)) (Went.still ho O)
theorem Tl.on (h : Tl R w O v ps w2) (ho : Only [] w2 w') : Tl R w O v ps w' := by
  obtain ⟨O', h1, h2, h3, h4⟩ := h
  exact ⟨O', hR.only h1 ho (by simp), h2.trans (Went.still ho O'), h3.only ho (by simp), h4⟩
/-- The block of the answer is written. -/
theorem Tl.boxed {N : Nat} (o1 : Only [] w w1) (t : Tl R w1 O v ps w2) (h1 : w.heap.size ≤ N) (h2 : N < w1.heap.size) (hO : ∀ k ∈ O, k < w.heap.size) (ho : Only [N] w2 w3) : Tl R w O v ps w3 := by
  obtain ⟨O', r, hw, hp, hn⟩ := t
  have hNO : ∀ k ∈ O', k ∉ [N] := fun k hk hk2 => by
    simp at hk2
    subst hk2
    rcases hw.2 k hk with h3 | h3
    · have := hO k h3; omega
    · omega
  refine ⟨O', hR.only r ho hNO, ?_, hp.only ho (fun g hg hk => ?_), fun g hg => ⟨Nat.le_trans o1.size (hn g hg).1, (hn g hg).2⟩⟩
  · have g1 := (Went.still o1 O).trans hw
    exact ⟨g1.1.trans ho (fun k hk => by simp at hk; subst hk; exact .inr h1), g1.2⟩
  · simp at hk
    subst hk
    have := (hn g hg).1
    omega
end

/-! ### ours -/
def MBlk (w : World) (b : Nat) (c : Cf) (s m : Nat) (n : Int) : Prop := w.heap[b]? = some (.cells #[.int .i64 c.sh, .int .i64 c.sl, .int .u64 c.un, .pointer (some ⟨s, 0, none⟩), .map (some m), .int .i64 n] 56 (0, 0))
section
variable {w w' : World} {b s m : Nat} {C : Cf} {n : Int}
theorem MBlk.lt (h : MBlk w b C s m n) : b < w.heap.size := (Array.getElem?_eq_some_iff.1 h).1
theorem MBlk.c (h : MBlk w b C s m n) : w.cell? ⟨b, 0, none⟩ = some (.int .i64 C.sh) ∧ w.cell? ⟨b, 1, none⟩ = some (.int .i64 C.sl) ∧ w.cell? ⟨b, 2, none⟩ = some (.int .u64 C.un) ∧ w.cell? ⟨b, 3, none⟩ = some (.pointer (some ⟨s, 0, none⟩)) ∧ w.cell? ⟨b, 4, none⟩ = some (.map (some m)) ∧ w.cell? ⟨b, 5, none⟩ = some (.int .i64 n) :=
  ⟨by rw [cell_of_row w b 0 _ _ _ h]; rfl, by rw [cell_of_row w b 1 _ _ _ h]; rfl, by rw [cell_of_row w b 2 _ _ _ h]; rfl, by rw [cell_of_row w b 3 _ _ _ h]; rfl, by rw [cell_of_row w b 4 _ _ _ h]; rfl, by rw [cell_of_row w b 5 _ _ _ h]; rfl⟩
theorem MBlk.fr (h : MBlk w b C s m n) (j : Nat) : w.frozen? ⟨b, j, none⟩ = false := frozen_of_row w b j _ _ h
theorem MBlk.only {S : List Nat} (h : MBlk w b C s m n) (ho : Only S w w') (hS : b ∉ S) : MBlk w' b C s m n := ho.get h hS
theorem MBlk.only0 (h : MBlk w b C s m n) (ho : Only [] w w') : MBlk w' b C s m n := h.only ho (by simp)
theorem MBlk.set5 (h : MBlk w b C s m n) (x : Int) : MBlk (w.setCell ⟨b, 5, none⟩ (.int .i64 x)) b C s m x := by
  have := heap_setCell_same w b 5 _ _ (.int .i64 x) h
  simpa [MBlk] using this
end
theorem MapAt.only {w w' : World} {m : Nat} {f : Int → Option Int} {S : List Nat} (h : MapAt w m f) (ho : Only S w w') (hS : m ∉ S) : MapAt w' m f := h.keep (ho.block m h.lt hS)
def ownM (b m : Nat) (Q : List Nat) : List Nat := b :: m :: Q
structure MdAt (w : World) (b : Nat) (c : Cf) (S : Sq) (f : Int → Option Int) (n : Int) (s m : Nat) (Q : List Nat) : Prop where
  blk : MBlk w b c s m n
  sq : SqOf w s S Q
  map : MapAt w m f
  bQ : b ∉ Q
  mQ : m ∉ Q
  bm : b ≠ m
section
variable {w w' : World} {b s m : Nat} {c : Cf} {S S' : Sq} {f f' : Int → Option Int} {n : Int} {Q T : List Nat}
theorem MdAt.lt (h : MdAt w b c S f n s m Q) : ∀ k ∈ ownM b m Q, k < w.heap.size := by
  intro k hk
  simp [ownM] at hk
  rcases hk with rfl | rfl | hk
  · exact h.blk.lt
  · exact h.map.lt
  · exact h.sq.lt k hk
theorem MdAt.only (h : MdAt w b c S f n s m Q) (ho : Only T w w') (hT : ∀ k ∈ ownM b m Q, k ∉ T) : MdAt w' b c S f n s m Q :=
  ⟨h.blk.only ho (hT b (by simp [ownM])), h.sq.only ho (fun k hk => hT k (by simp [ownM, hk])), h.map.only ho (hT m (by simp [ownM])), h.bQ, h.mQ, h.bm⟩
theorem MdAt.only0 (h : MdAt w b c S f n s m Q) (ho : Only [] w w') : MdAt w' b c S f n s m Q := h.only ho (by simp)
/-- The scheduler turned. -/
theorem MdAt.turn (h : MdAt w b c S f n s m Q) (t : STo w s Q S' w') : ∃ Q', MdAt w' b c S' f n s m Q' ∧ Went w (ownM b m Q) w' (ownM b m Q') := by
  obtain ⟨Q', h1, h2⟩ := t
  have nb : ∀ k, k < w.heap.size → k ∉ Q → k ∉ Q' := fun k hk hQ hk2 => by
    rcases h2.2 k hk2 with h3 | h3
    · exact hQ h3
    · omega
  refine ⟨Q', ⟨h.blk.only h2.1 h.bQ, h1, h.map.only h2.1 h.mQ, nb b h.blk.lt h.bQ, nb m h.map.lt h.mQ, h.bm⟩, h2.1.mono (fun k hk => .inl (by simp [ownM, hk])), fun k hk => ?_⟩
  simp [ownM] at hk ⊢
  rcases hk with rfl | rfl | hk
  · exact .inl (.inl rfl)
  · exact .inl (.inr (.inl rfl))
  · rcases h2.2 k hk with h3 | h3
    · exact .inl (.inr (.inr h3))
    · exact .inr h3
/-- The counts turned. -/
theorem MdAt.mapped (h : MdAt w b c S f n s m Q) (hm : MapAt w' m f') (hg : w.grownBy w' (some m)) : MdAt w' b c S f' n s m Q ∧ Went w (ownM b m Q) w' (ownM b m Q) := by
  have ho : Only [m] w w' := (Only.refl [m] w).grown hg (fun k hk => .inl (by simpa [eq_comm] using hk))
  refine ⟨⟨h.blk.only ho (by simpa using h.bm), h.sq.only ho (fun k hk hk2 => ?_), hm, h.bQ, h.mQ, h.bm⟩, ho.mono (fun k hk => .inl (by simp at hk; simp [ownM, hk])), fun k hk => .inl hk⟩
  simp at hk2
  subst hk2
  exact h.mQ hk
/-- How many were served turned. -/
theorem MdAt.counted (h : MdAt w b c S f n s m Q) (x : Int) : MdAt (w.setCell ⟨b, 5, none⟩ (.int .i64 x)) b c S f x s m Q ∧ Went w (ownM b m Q) (w.setCell ⟨b, 5, none⟩ (.int .i64 x)) (ownM b m Q) := by
  have ho : Only [b] w (w.setCell ⟨b, 5, none⟩ (.int .i64 x)) := (Only.refl [b] w).setCell (by simp) _
  refine ⟨⟨h.blk.set5 x, h.sq.only ho (fun k hk hk2 => ?_), h.map.only ho (by simpa using fun e => h.bm e.symm), h.bQ, h.mQ, h.bm⟩, ho.mono (fun k hk => .inl (by simp at hk; simp [ownM, hk])), fun k hk => .inl hk⟩
  simp at hk2
  subst hk2
  exact h.bQ hk
end
def MdIs (w : World) (b : Nat) (M : Md) (s m : Nat) (Q : List Nat) : Prop := MdAt w b M.c M.S (lensK M.S.l) M.n s m Q
def MdOf (b : Nat) (M : Md) (w : World) (O : List Nat) : Prop := ∃ s m Q, MdIs w b M s m Q ∧ O = ownM b m Q
theorem rep_md (b : Nat) (M : Md) : RepO (MdOf b M) :=
  ⟨fun ⟨s, m, Q, h, e⟩ ho hT => by subst e; exact ⟨s, m, Q, h.only ho hT, rfl⟩, fun ⟨s, m, Q, h, e⟩ => by subst e; exact h.lt⟩

/-! ### the document's -/
def NBlk (w : World) (b : Nat) (c : Cf) (s : Nat) (n : Int) : Prop := w.heap[b]? = some (.cells #[.int .i64 c.sh, .int .i64 c.sl, .int .i64 c.wk, .int .i64 c.wd, .int .u64 c.un, .pointer (some ⟨s, 0, none⟩), .int .i64 n] 87 (0, 0))
section
variable {w w' : World} {b s : Nat} {C : Cf} {n : Int}
theorem NBlk.lt (h : NBlk w b C s n) : b < w.heap.size := (Array.getElem?_eq_some_iff.1 h).1
theorem NBlk.c (h : NBlk w b C s n) : w.cell? ⟨b, 0, none⟩ = some (.int .i64 C.sh) ∧ w.cell? ⟨b, 1, none⟩ = some (.int .i64 C.sl) ∧ w.cell? ⟨b, 2, none⟩ = some (.int .i64 C.wk) ∧ w.cell? ⟨b, 3, none⟩ = some (.int .i64 C.wd) ∧ w.cell? ⟨b, 4, none⟩ = some (.int .u64 C.un) ∧ w.cell? ⟨b, 5, none⟩ = some (.pointer (some ⟨s, 0, none⟩)) ∧ w.cell? ⟨b, 6, none⟩ = some (.int .i64 n) :=
  ⟨by rw [cell_of_row w b 0 _ _ _ h]; rfl, by rw [cell_of_row w b 1 _ _ _ h]; rfl, by rw [cell_of_row w b 2 _ _ _ h]; rfl, by rw [cell_of_row w b 3 _ _ _ h]; rfl, by rw [cell_of_row w b 4 _ _ _ h]; rfl, by rw [cell_of_row w b 5 _ _ _ h]; rfl, by rw [cell_of_row w b 6 _ _ _ h]; rfl⟩
theorem NBlk.fr (h : NBlk w b C s n) (j : Nat) : w.frozen? ⟨b, j, none⟩ = false := frozen_of_row w b j _ _ h
theorem NBlk.only {S : List Nat} (h : NBlk w b C s n) (ho : Only S w w') (hS : b ∉ S) : NBlk w' b C s n := ho.get h hS
theorem NBlk.set6 (h : NBlk w b C s n) (x : Int) : NBlk (w.setCell ⟨b, 6, none⟩ (.int .i64 x)) b C s x := by
  have := heap_setCell_same w b 6 _ _ (.int .i64 x) h
  simpa [NBlk] using this
end
structure NdAt (w : World) (b : Nat) (c : Cf) (S : Sq) (n : Int) (s : Nat) (Q : List Nat) : Prop where
  blk : NBlk w b c s n
  sq : RqOf w s S Q
  bQ : b ∉ Q
section
variable {w w' : World} {b s : Nat} {c : Cf} {S S' : Sq} {n : Int} {Q T : List Nat}
theorem NdAt.lt (h : NdAt w b c S n s Q) : ∀ k ∈ b :: Q, k < w.heap.size := by
  intro k hk
  simp at hk
  rcases hk with rfl | hk
  · exact h.blk.lt
  · exact h.sq.lt k hk
theorem NdAt.only (h : NdAt w b c S n s Q) (ho : Only T w w') (hT : ∀ k ∈ b :: Q, k ∉ T) : NdAt w' b c S n s Q :=
  ⟨h.blk.only ho (hT b (by simp)), h.sq.only ho (fun k hk => hT k (by simp [hk])), h.bQ⟩
theorem NdAt.only0 (h : NdAt w b c S n s Q) (ho : Only [] w w') : NdAt w' b c S n s Q := h.only ho (by simp)
theorem NdAt.turn (h : NdAt w b c S n s Q) (t : QTo w s Q S' w') : ∃ Q', NdAt w' b c S' n s Q' ∧ Went w (b :: Q) w' (b :: Q') := by
  obtain ⟨Q', h1, h2⟩ := t
  refine ⟨Q', ⟨h.blk.only h2.1 h.bQ, h1, fun hk2 => ?_⟩, h2.1.mono (fun k hk => .inl (by simp [hk])), fun k hk => ?_⟩
  · rcases h2.2 b hk2 with h3 | h3
    · exact h.bQ h3
    · have := h.blk.lt; omega
  · simp at hk ⊢
    rcases hk with rfl | hk
    · exact .inl (.inl rfl)
    · rcases h2.2 k hk with h3 | h3
      · exact .inl (.inr h3)
      · exact .inr h3
theorem NdAt.counted (h : NdAt w b c S n s Q) (x : Int) : NdAt (w.setCell ⟨b, 6, none⟩ (.int .i64 x)) b c S x s Q ∧ Went w (b :: Q) (w.setCell ⟨b, 6, none⟩ (.int .i64 x)) (b :: Q) := by
  have ho : Only [b] w (w.setCell ⟨b, 6, none⟩ (.int .i64 x)) := (Only.refl [b] w).setCell (by simp) _
  refine ⟨⟨h.blk.set6 x, h.sq.only ho (fun k hk hk2 => ?_), h.bQ⟩, ho.mono (fun k hk => .inl (by simp at hk; simp [hk])), fun k hk => .inl hk⟩
  simp at hk2
  subst hk2
  exact h.bQ hk
end
def NdIs (w : World) (b : Nat) (M : Md) (s : Nat) (Q : List Nat) : Prop := NdAt w b M.c M.S M.n s Q
def NdOf (b : Nat) (M : Md) (w : World) (O : List Nat) : Prop := ∃ s Q, NdIs w b M s Q ∧ O = b :: Q
theorem rep_nd (b : Nat) (M : Md) : RepO (NdOf b M) :=
  ⟨fun ⟨s, Q, h, e⟩ ho hT => by subst e; exact ⟨s, Q, h.only ho hT, rfl⟩, fun ⟨s, Q, h, e⟩ => by subst e; exact h.lt⟩

/-! ### a block that holds a call, or an answer -/
def CBox (w : World) (b : Nat) (c : Cl) : Prop := w.heap[b]? = some (.cells #[.int .i64 c.op, .int .i64 c.f, .int .i64 c.a, .int .i64 c.b] 44 (0, 0))
theorem CBox.c {w : World} {b : Nat} {c : Cl} (h : CBox w b c) : w.cell? ⟨b, 0, none⟩ = some (.int .i64 c.op) ∧ w.cell? ⟨b, 1, none⟩ = some (.int .i64 c.f) ∧ w.cell? ⟨b, 2, none⟩ = some (.int .i64 c.a) ∧ w.cell? ⟨b, 3, none⟩ = some (.int .i64 c.b) :=
  ⟨by rw [cell_of_row w b 0 _ _ _ h]; rfl, by rw [cell_of_row w b 1 _ _ _ h]; rfl, by rw [cell_of_row w b 2 _ _ _ h]; rfl, by rw [cell_of_row w b 3 _ _ _ h]; rfl⟩
theorem CBox.only {w w' : World} {b : Nat} {c : Cl} {S : List Nat} (h : CBox w b c) (ho : Only S w w') (hS : b ∉ S) : CBox w' b c := ho.get h hS
theorem CBox.only0 {w w' : World} {b : Nat} {c : Cl} (h : CBox w b c) (ho : Only [] w w') : CBox w' b c := h.only ho (by simp)
theorem CBox.new (w : World) (c : Cl) : CBox (w.alloc (.cells #[.int .i64 c.op, .int .i64 c.f, .int .i64 c.a, .int .i64 c.b] 44)) w.heap.size c := heap_alloc_new w _
theorem CBox.lt {w : World} {b : Nat} {c : Cl} (h : CBox w b c) : b < w.heap.size := (Array.getElem?_eq_some_iff.1 h).1
def RBox (w : World) (b : Nat) (e : Int) (v : Value) (n x : Int) : Prop := w.heap[b]? = some (.cells #[.int .i64 e, v, .int .i64 n, .int .u64 x] 47 (0, 0))
section
variable {w w' : World} {b : Nat} {e n x : Int} {v : Value}
theorem RBox.c (h : RBox w b e v n x) : w.cell? ⟨b, 0, none⟩ = some (.int .i64 e) ∧ w.cell? ⟨b, 1, none⟩ = some v ∧ w.cell? ⟨b, 2, none⟩ = some (.int .i64 n) ∧ w.cell? ⟨b, 3, none⟩ = some (.int .u64 x) :=
  ⟨by rw [cell_of_row w b 0 _ _ _ h]; rfl, by rw [cell_of_row w b 1 _ _ _ h]; rfl, by rw [cell_of_row w b 2 _ _ _ h]; rfl, by rw [cell_of_row w b 3 _ _ _ h]; rfl⟩
theorem RBox.fr (h : RBox w b e v n x) (j : Nat) : w.frozen? ⟨b, j, none⟩ = false := frozen_of_row w b j _ _ h
theorem RBox.only {S : List Nat} (h : RBox w b e v n x) (ho : Only S w w') (hS : b ∉ S) : RBox w' b e v n x := ho.get h hS
theorem RBox.only0 (h : RBox w b e v n x) (ho : Only [] w w') : RBox w' b e v n x := h.only ho (by simp)
theorem RBox.lt (h : RBox w b e v n x) : b < w.heap.size := (Array.getElem?_eq_some_iff.1 h).1
theorem RBox.new (w : World) (e : Int) (v : Value) (n x : Int) : RBox (w.alloc (.cells #[.int .i64 e, v, .int .i64 n, .int .u64 x] 47)) w.heap.size e v n x := heap_alloc_new w _
theorem RBox.set0 (h : RBox w b e v n x) (e' : Int) : RBox (w.setCell ⟨b, 0, none⟩ (.int .i64 e')) b e' v n x := by
  have := heap_setCell_same w b 0 _ _ (.int .i64 e') h
  simpa [RBox] using this
theorem RBox.set1 (h : RBox w b e v n x) (v' : Value) : RBox (w.setCell ⟨b, 1, none⟩ v') b e v' n x := by
  have := heap_setCell_same w b 1 _ _ v' h
  simpa [RBox] using this
end
theorem only_ret (w : World) (N : Nat) (a b c d : Value) : Only [N] w ((((w.setCell ⟨N, 0, none⟩ a).setCell ⟨N, 1, none⟩ b).setCell ⟨N, 2, none⟩ c).setCell ⟨N, 3, none⟩ d) :=
  ((((Only.refl [N] w).setCell (by simp) _).setCell (by simp) _).setCell (by simp) _).setCell (by simp) _
end Go.Proofs.Ytklolepmmabijaa
