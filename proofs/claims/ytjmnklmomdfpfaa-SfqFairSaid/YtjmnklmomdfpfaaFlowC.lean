/-
  The document's flow: its words, contracts of NewFlow, Arrive, Serve, Copy.
-/
import Derived.Test.YtjmnklmomdfpfaaFlowF
namespace Go.Proofs.Ytjmnklmomdfpfaa
set_option maxRecDepth 100000
open Go.RowKit
set_option linter.unusedVariables false
set_option linter.unusedSimpArgs false
set_option maxRecDepth 100000

def RBlk (w : World) (b : Nat) (id r n s e : Int) (v : Value) : Prop := w.heap[b]? = some (.cells #[.int .i64 id, .int .i64 n, .int .u64 r, v, .int .u64 s, .int .u64 e] 84 (0, 0))
section
variable {w w' : World} {b : Nat} {id r n s e : Int} {v : Value}
theorem RBlk.lt (h : RBlk w b id r n s e v) : b < w.heap.size := (Array.getElem?_eq_some_iff.1 h).1
theorem RBlk.c (h : RBlk w b id r n s e v) : w.cell? ⟨b, 0, none⟩ = some (.int .i64 id) ∧ w.cell? ⟨b, 1, none⟩ = some (.int .i64 n) ∧ w.cell? ⟨b, 2, none⟩ = some (.int .u64 r) ∧ w.cell? ⟨b, 3, none⟩ = some v ∧ w.cell? ⟨b, 4, none⟩ = some (.int .u64 s) ∧ w.cell? ⟨b, 5, none⟩ = some (.int .u64 e) :=
  ⟨by rw [cell_of_row w b 0 _ _ _ h]; rfl, by rw [cell_of_row w b 1 _ _ _ h]; rfl, by rw [cell_of_row w b 2 _ _ _ h]; rfl, by rw [cell_of_row w b 3 _ _ _ h]; rfl, by rw [cell_of_row w b 4 _ _ _ h]; rfl, by rw [cell_of_row w b 5 _ _ _ h]; rfl⟩
theorem RBlk.fr (h : RBlk w b id r n s e v) (j : Nat) : w.frozen? ⟨b, j, none⟩ = false := frozen_of_row w b j _ _ h
theorem RBlk.only {S : List Nat} (h : RBlk w b id r n s e v) (ho : Only S w w') (hS : b ∉ S) : RBlk w' b id r n s e v := ho.get h hS
theorem RBlk.only0 (h : RBlk w b id r n s e v) (ho : Only [] w w') : RBlk w' b id r n s e v := h.only ho (by simp)
theorem RBlk.set3 (h : RBlk w b id r n s e v) (u : Value) : RBlk (w.setCell ⟨b, 3, none⟩ u) b id r n s e u := by
  have := heap_setCell_same w b 3 _ _ u h
  simpa [RBlk] using this
theorem RBlk.set4 (h : RBlk w b id r n s e v) (u : Int) : RBlk (w.setCell ⟨b, 4, none⟩ (.int .u64 u)) b id r n u e v := by
  have := heap_setCell_same w b 4 _ _ (.int .u64 u) h
  simpa [RBlk] using this
theorem RBlk.set5 (h : RBlk w b id r n s e v) (u : Int) : RBlk (w.setCell ⟨b, 5, none⟩ (.int .u64 u)) b id r n s u v := by
  have := heap_setCell_same w b 5 _ _ (.int .u64 u) h
  simpa [RBlk] using this
theorem RBlk.ne (h : RBlk w b id r n s e v) {u : Value} {xs : List Pk} (hu : PRow w u xs) : ∀ g, u.ownBlock = some g → g ≠ b := by
  intro g hg
  rintro rfl
  rcases hu.2 with ⟨rfl, _⟩ | ⟨g', cap, cur, rfl, h0, hb, _⟩
  · cases hg
  · have : g' = g := by simpa [Value.ownBlock] using hg
    subst this
    unfold RBlk at h
    rw [hb] at h
    injection h with h
    injection h with _ h
    exact absurd h (by decide)
end
/-- Block b is the document's flow that is F as numbers; O: the blocks that it owns. -/
def RefOf (w : World) (b : Nat) (id : Int) (F : Fl) (O : List Nat) : Prop :=
  F.ok ∧ ∃ s v, RBlk w b id F.r F.n s F.e v ∧ (F.l ≠ [] → s = F.s) ∧ U64 s ∧ PRow w v F.l ∧ O = b :: v.ownBlock.toList
def RTo (w : World) (b : Nat) (id : Int) (O : List Nat) (F : Fl) (w' : World) : Prop := ∃ O', RefOf w' b id F O' ∧ Went w O w' O'
section
variable {w w' : World} {b : Nat} {id : Int} {F : Fl} {O : List Nat}
theorem RefOf.only {S : List Nat} (h : RefOf w b id F O) (ho : Only S w w') (hS : ∀ k ∈ O, k ∉ S) : RefOf w' b id F O := by
  obtain ⟨hk, s, v, h1, h2, h3, h4, rfl⟩ := h
  exact ⟨hk, s, v, h1.only ho (hS b (by simp)), h2, h3, h4.only ho (fun g hg => hS g (by simp [hg])), rfl⟩
theorem RefOf.only0 (h : RefOf w b id F O) (ho : Only [] w w') : RefOf w' b id F O := h.only ho (by simp)
theorem RefOf.lt (h : RefOf w b id F O) : ∀ k ∈ O, k < w.heap.size := by
  obtain ⟨hk, s, v, h1, h2, h3, h4, rfl⟩ := h
  intro k hk
  rcases List.mem_cons.1 hk with rfl | hk
  · exact h1.lt
  · exact h4.lt (Option.mem_toList.1 hk)
theorem RefOf.mem (h : RefOf w b id F O) : b ∈ O := by
  obtain ⟨hk, s, v, h1, h2, h3, h4, rfl⟩ := h
  simp
theorem RTo.still (h : RefOf w b id F O) (ho : Only [] w w') : RTo w b id O F w' := ⟨O, h.only0 ho, Went.still ho O⟩
/-- The struct turned, the packets in new memory. -/
theorem RTo.mk {s : Int} {v v' : Value} (hk : F.ok) (h1 : RBlk w' b id F.r F.n s F.e v') (h2 : PRow w' v' F.l) (hs : F.l ≠ [] → s = F.s) (hu : U64 s) (ho : Only [b] w w') (hv : ∀ g, v'.ownBlock = some g → w.heap.size ≤ g) : RTo w b id (b :: v.ownBlock.toList) F w' := by
  refine ⟨_, ⟨hk, s, v', h1, hs, hu, h2, rfl⟩, ho.mono (by simp), fun k hk => ?_⟩
  rcases List.mem_cons.1 hk with rfl | hk
  · exact .inl (by simp)
  · exact .inr (hv k (Option.mem_toList.1 hk))
end

set_option maxHeartbeats 1000000 in
theorem rlNew (w : World) (id r most : Int) (hr : U64 r) :
    Calls Try.prog 57 #[.int .i64 id, .int .u64 r, .int .i64 most] w fun e w' => e = .returned (.pointer (some ⟨w.heap.size, 0, none⟩)) ∧ RefOf w' w.heap.size id (Fl.new r (room most)) [w.heap.size] ∧ Only [] w w' := by
  have hm := room_is most
  have hok := Fl.new_ok hr most
  generalize hn : room most = n at *
  have m1 : (if (8 : Int) < max most 1 then 8 else max most 1) = (n : Int) := by rw [← hm]; split <;> omega
  have m2 : (if (8 : Int) < (if most < 1 then 1 else most) then 8 else (if most < 1 then 1 else most)) = (n : Int) := by rw [← hm]; split <;> split <;> omega
  clear hn
  go_enter Try.func57, Try.ntmps57
  go_wp2_with fail
  all_goals
    go_ret
    exact ⟨rfl, ⟨hok, 0, .slice none 0 0, heap_alloc_new w _, fun h => absurd rfl h, U64.zero, PRow.nil _, rfl⟩, (Only.refl [] w).alloc _⟩

theorem fresh_nil {w w2 : World} {A : Option Addr} {n cap : Nat} (hl : (Value.slice A n cap).ownBlock = (Value.slice none 0 0).ownBlock ∨ (Value.slice A n cap).ownBlock = some w.heap.size) {B : Nat} (hB : B ≤ w.heap.size) : ∀ g, (Value.slice A n cap).ownBlock = some g → B ≤ g := by
  intro g hg
  rcases hl with e | e
  · rw [e] at hg; simp [Value.ownBlock] at hg
  · rw [e] at hg; simp at hg; omega

set_option maxHeartbeats 1000000 in
theorem rlCopy (w : World) (b : Nat) (id : Int) (F : Fl) (O : List Nat) (h : RefOf w b id F O) :
    Calls Try.prog 55 #[.pointer (some ⟨b, 0, none⟩)] w fun e w' => e = .returned (.pointer (some ⟨w.heap.size, 0, none⟩)) ∧ ∃ O', RefOf w' w.heap.size id F O' ∧ Only [] w w' ∧ ∀ k ∈ O', w.heap.size ≤ k := by
  obtain ⟨hk, s, v, h1, h2, h3, h4, rfl⟩ := h
  have hlen := hk.len
  have hn8 := hk.n8
  obtain ⟨c0, c1, c2, c3, c4, c5⟩ := h1.c
  have o1 : Only [] w (w.alloc (.cells #[.int .i64 id, .int .i64 F.n, .int .u64 F.r, v, .int .u64 s, .int .u64 F.e] 84)) := (Only.refl [] w).alloc _
  have hb1 : RBlk (w.alloc (.cells #[.int .i64 id, .int .i64 F.n, .int .u64 F.r, v, .int .u64 s, .int .u64 F.e] 84)) w.heap.size id F.r F.n s F.e v := heap_alloc_new w _
  have d3 := (h1.only0 o1).c.2.2.2.1
  have hb := h1.lt
  have hsz : (w.alloc (.cells #[.int .i64 id, .int .i64 F.n, .int .u64 F.r, v, .int .u64 s, .int .u64 F.e] 84)).heap.size = w.heap.size + 1 := by simp
  obtain ⟨A, cap, rfl⟩ := h4.form
  have H := Lib.hid (And.intro hk (And.intro h2 (And.intro h3 (And.intro o1 (And.intro hb1 (h4.only o1 (by simp)))))))
  clear h1 h2 h3 h4 hk o1 hb1
  go_enter Try.func55, Try.ntmps55
  go_wp2_with (first
    | (at_builtin
       refine wpList_append_pk Try.underlying48 rfl (.const (.slice none 0 0)) (.tmp 10) rfl (.slice none 0 0) [] rfl (PRow.nil _) _ _ _ F.l rfl rfl (PSrc.of_row H.out.2.2.2.2.2) F.l.length (by simp) (by omega) ?_
       intro A1 cap1 w1 r1 g1 l1
       have q1 : Only [] w w1 := H.out.2.2.2.1.grown g1 (by simp [Value.ownBlock])
       have v1 := fresh_nil (w2 := w1) (B := w.heap.size) l1 (by omega)
       have hb2 : RBlk w1 w.heap.size id F.r F.n s F.e _ := H.out.2.2.2.2.1.only0 ((Only.refl [] _).grown g1 (by simp [Value.ownBlock]))
       obtain ⟨_, _, _, e3, _, _⟩ := hb2.c
       have fr3 := hb2.fr 3
       have R1 := Lib.hid (And.intro r1 (And.intro q1 (And.intro v1 hb2)))
       clear r1 g1 l1 q1 v1 hb2))
  go_ret
  obtain ⟨hr2, o2, hv2, hb2⟩ := R1.out
  refine ⟨rfl, _, ⟨H.out.1, s, _, hb2.set3 _, H.out.2.1, H.out.2.2.1, hr2.only ((Only.refl [w.heap.size] w1).setCell (by simp) _) (fun g hg => by simpa using hb2.ne hr2 g hg), rfl⟩, o2.setCell (.inr (Nat.le_refl _)) _, fun k hk => ?_⟩
  rcases List.mem_cons.1 hk with rfl | hk
  · exact Nat.le_refl _
  · exact hv2 k (Option.mem_toList.1 hk)
end Go.Proofs.Ytjmnklmomdfpfaa
