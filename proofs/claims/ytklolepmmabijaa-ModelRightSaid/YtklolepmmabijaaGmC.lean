/-
  The document's flow: its words, contracts of NewFlow, Arrive, Serve, Copy.
  The document's flow: contracts of Arrive and Serve.
  The document's flow: contract of Serve; Arrive and Serve told as numbers.
  The statements' words: packets held against each other, acts, made, looks.
  Same and Plain at packets.
-/
import Derived.Test.YtklolepmmabijaaGmF
import Derived.Laws.StructEq
namespace Go.Proofs.Ytklolepmmabijaa
set_option maxRecDepth 100000
open Go.RowKit
set_option linter.unusedVariables false
set_option linter.unusedSimpArgs false
set_option maxRecDepth 100000

def RBlk (w : World) (b : Nat) (id r n s e : Int) (v : Value) : Prop := w.heap[b]? = some (.cells #[.int .i64 id, .int .i64 n, .int .u64 r, v, .int .u64 s, .int .u64 e] 104 (0, 0))
section
variable {w w' : World} {b : Nat} {id r n s e : Int} {v : Value}
theorem RBlk.lt (h : RBlk w b id r n s e v) : b < w.heap.size := (Array.getElem?_eq_some_iff.1 h).1
theorem RBlk.c (h : RBlk w b id r n s e v) : w.cell? ⟨b, 0, none⟩ = some (.int .i64 id) ∧ w.cell? ⟨b, 1, none⟩ = some (.int .i64 n) ∧ w.cell? ⟨b, 2, none⟩ = some (.int .u64 r) ∧ w.cell? ⟨b, 3, none⟩ = some v ∧ w.cell? ⟨b, 4, none⟩ = some (.int .u64 s) ∧ w.cell? ⟨b, 5, none⟩ = some (.int .u64 e) :=
  ⟨by rw [cell_of_row w b 0 _ _ _ h]; rfl, by rw [cell_of_row w b 1 _ _ _ h]; rfl, by rw [cell_of_row w b 2 _ _ _ h]; rfl, by rw [cell_of_row w b 3 _ _ _ h]; rfl, by rw [cell_of_row w b 4 _ _ _ h]; rfl, by rw [cell_of_row w b 5 _ _ _ h]; rfl⟩
theorem RBlk.fr (h : RBlk w b id r n s e v) (j : Nat) : w.frozen? ⟨b, j, none⟩ = false := frozen_of_row w b j _ _ h
theorem RBlk.only {S : List Nat} (h : RBlk w b id r n s e v) (ho : Only S w w') (hS : b ∉ S) : RBlk w' b id r n s e v := ho.get h hS
theorem RBlk.only0 (h : RBlk w b id r n s e v) (ho : Only [] w w') : RBlk w' b id r n s e v := h.only ho (by simp)
theorem RBlk.set3 (h : RBlk w b id r n s e v) (u : Value) : RBlk (w.setCell ⟨b, 3, none⟩ u) b id r n s e u := by
  have := heap_setCell_same w b 3 _ _ u h
  simpa [RBlk] using this
theorem RBlk.set4 (h : RBlk w b id r n s e v) (u : Int) : RBlk (w.setCell ⟨b, 4, none⟩ (.int .u64 u)) b id r n u e v := by
  have := heap_setCell_same w b 4 _ _ (.int .u64 u) h
  simpa [RBlk] using this
theorem RBlk.set5 (h : RBlk w b id r n s e v) (u : Int) : RBlk (w.setCell ⟨b, 5, none⟩ (.int .u64 u)) b id r n s u v := by
  have := heap_setCell_same w b 5 _ _ (.int .u64 u) h
  simpa [RBlk] using this
theorem RBlk.ne (h : RBlk w b id r n s e v) {u : Value} {xs : List Pk} (hu : PRow w u xs) : ∀ g, u.ownBlock = some g → g ≠ b := by
  intro g hg
  rintro rfl
  rcases hu.2 with ⟨rfl, _⟩ | ⟨g', cap, cur, rfl, h0, hb, _⟩
  · cases hg
  · have : g' = g := by simpa [Value.ownBlock] using hg
    subst this
    unfold RBlk at h
    rw [hb] at h
    injection h with h
    injection h with _ h
    exact absurd h (by decide)
end
/-- Block b is the document's flow that is F as numbers; O: the blocks that it owns. -/
def RefOf (w : World) (b : Nat) (id : Int) (F : Fl) (O : List Nat) : Prop :=
  F.ok ∧ ∃ s v, RBlk w b id F.r F.n s F.e v ∧ (F.l ≠ [] → s = F.s) ∧ U64 s ∧ PRow w v F.l ∧ O = b :: v.ownBlock.toList
def RTo (w : World) (b : Nat) (id : Int) (O : List Nat) (F : Fl) (w' : World) : Prop := ∃ O', RefOf w' b id F O' ∧ Went w O w' O'
section
variable {w w' : World} {b : Nat} {id : Int} {F : Fl} {O : List Nat}
theorem RefOf.only {S : List Nat} (h : RefOf w b id F O) (ho : Only S w w') (hS : ∀ k ∈ O, k ∉ S) : RefOf w' b id F O := by
  obtain ⟨hk, s, v, h1, h2, h3, h4, rfl⟩ := h
  exact ⟨hk, s, v, h1.only ho (hS b (by simp)), h2, h3, h4.only ho (fun g hg => hS g (by simp [hg])), rfl⟩
theorem RefOf.only0 (h : RefOf w b id F O) (ho : Only [] w w') : RefOf w' b id F O := h.only ho (by simp)
theorem RefOf.lt (h : RefOf w b id F O) : ∀ k ∈ O, k < w.heap.size := by
  obtain ⟨hk, s, v, h1, h2, h3, h4, rfl⟩ := h
  intro k hk
  rcases List.mem_cons.1 hk with rfl | hk
  · exact h1.lt
  · exact h4.lt (Option.mem_toList.1 hk)
theorem RefOf.mem (h : RefOf w b id F O) : b ∈ O := by
  obtain ⟨hk, s, v, h1, h2, h3, h4, rfl⟩ := h
  simp
theorem RTo.still (h : RefOf w b id F O) (ho : Only [] w w') : RTo w b id O F w' := ⟨O, h.only0 ho, Went.still ho O⟩
/-- The struct turned, the packets in new memory. -/
theorem RTo.mk {s : Int} {v v' : Value} (hk : F.ok) (h1 : RBlk w' b id F.r F.n s F.e v') (h2 : PRow w' v' F.l) (hs : F.l ≠ [] → s = F.s) (hu : U64 s) (ho : Only [b] w w') (hv : ∀ g, v'.ownBlock = some g → w.heap.size ≤ g) : RTo w b id (b :: v.ownBlock.toList) F w' := by
  refine ⟨_, ⟨hk, s, v', h1, hs, hu, h2, rfl⟩, ho.mono (by simp), fun k hk => ?_⟩
  rcases List.mem_cons.1 hk with rfl | hk
  · exact .inl (by simp)
  · exact .inr (hv k (Option.mem_toList.1 hk))
end

set_option maxHeartbeats 1000000 in
theorem rlNew (w : World) (id r most : Int) (hr : U64 r) :
    Calls Try.prog 78 #[.int .i64 id, .int .u64 r, .int .i64 most] w fun e w' => e = .returned (.pointer (some ⟨w.heap.size, 0, none⟩)) ∧ RefOf w' w.heap.size id (Fl.new r (room most)) [w.heap.size] ∧ Only [] w w' := by
  have hm := room_is most
  have hok := Fl.new_ok hr most
  generalize hn : room most = n at *
  have m1 : (if (8 : Int) < max most 1 then 8 else max most 1) = (n : Int) := by rw [← hm]; split <;> omega
  have m2 : (if (8 : Int) < (if most < 1 then 1 else most) then 8 else (if most < 1 then 1 else most)) = (n : Int) := by rw [← hm]; split <;> split <;> omega
  clear hn
  go_enter Try.func78, Try.ntmps78
  go_wp2_with fail
  all_goals
    go_ret
    exact ⟨rfl, ⟨hok, 0, .slice none 0 0, heap_alloc_new w _, fun h => absurd rfl h, U64.zero, PRow.nil _, rfl⟩, (Only.refl [] w).alloc _⟩

theorem fresh_nil {w w2 : World} {A : Option Addr} {n cap : Nat} (hl : (Value.slice A n cap).ownBlock = (Value.slice none 0 0).ownBlock ∨ (Value.slice A n cap).ownBlock = some w.heap.size) {B : Nat} (hB : B ≤ w.heap.size) : ∀ g, (Value.slice A n cap).ownBlock = some g → B ≤ g := by
  intro g hg
  rcases hl with e | e
  · rw [e] at hg; simp [Value.ownBlock] at hg
  · rw [e] at hg; simp at hg; omega

end Go.Proofs.Ytklolepmmabijaa

namespace Go.Proofs.Ytklolepmmabijaa
set_option maxRecDepth 100000
open Go.RowKit
set_option linter.unusedVariables false
set_option linter.unusedSimpArgs false
set_option maxRecDepth 100000

set_option maxHeartbeats 1000000 in
theorem rArriveFull (w : World) (b : Nat) (id r s e : Int) (A : Option Addr) (m cap : Nat) (h : RBlk w b id r (m : Int) s e (.slice A m cap)) (vt : Int) (x : Pk) :
    Calls Try.prog 55 #[.pointer (some ⟨b, 0, none⟩), .int .u64 vt, .agg #[.int .i64 x.f, .int .i64 x.l, .int .i64 x.m]] w fun e' w' => e' = .returned (.bool false) ∧ Only [] w w' := by
  have o0 : Only [] w (w.alloc (.cells #[.int .i64 x.f, .int .i64 x.l, .int .i64 x.m] 58)) := (Only.refl [] w).alloc _
  go_enter Try.func55, Try.ntmps55
  go_wp2_with fail
  generalize w.alloc (.cells #[.int .i64 x.f, .int .i64 x.l, .int .i64 x.m] 58) = W at *
  obtain ⟨_, c1, _, c3, _, _⟩ := (h.only0 o0).c
  clear h
  go_quiet (fail)
  go_wp2_with fail
  go_ret
  exact ⟨rfl, o0.drewN _⟩

theorem Only.rel {w V U : World} (o : Only [] w V) (o2 : Only [] V U) : Only [] w U := o.trans' o2

set_option maxHeartbeats 4000000 in
theorem rArrive (w : World) (b : Nat) (id r n s e : Int) (v : Value) (xs : List Pk) (h : RBlk w b id r n s e v) (hx : PRow w v xs) (hxl : xs.length ≤ 1000) (hn : (xs.length : Int) < n) (vt : Int) (x : Pk) (s' : Int) (hs' : s' = if xs = [] then max vt e else s) :
    Calls Try.prog 55 #[.pointer (some ⟨b, 0, none⟩), .int .u64 vt, .agg #[.int .i64 x.f, .int .i64 x.l, .int .i64 x.m]] w fun e' w' => e' = .returned (.bool true) ∧ ∃ v', RBlk w' b id r n s' e v' ∧ PRow w' v' (xs ++ [x]) ∧ Only [b] w w' ∧ ∀ g, v'.ownBlock = some g → w.heap.size ≤ g := by
  have o0 : Only [] w (w.alloc (.cells #[.int .i64 x.f, .int .i64 x.l, .int .i64 x.m] 58)) := (Only.refl [] w).alloc _
  have bx := PBox.new w x
  have hb := h.lt
  obtain ⟨A, cap, rfl⟩ := hx.form
  have hn1 : ¬ (n ≤ (xs.length : Int)) := by omega
  have hn2 : decide (n ≤ (xs.length : Int)) = false := decide_eq_false hn1
  go_enter Try.func55, Try.ntmps55
  go_wp2_with fail
  generalize w.alloc (.cells #[.int .i64 x.f, .int .i64 x.l, .int .i64 x.m] 58) = W at *
  obtain ⟨_, c1, _, c3, _, _⟩ := (h.only0 o0).c
  have H := Lib.hid (And.intro h hx)
  clear h hx
  go_quiet (fail)
  have o1 : Only [] w (W.drewN nq) := o0.drewN nq
  have bx1 : PBox (W.drewN nq) w.heap.size x := bx
  generalize W.drewN nq = W1 at *
  clear c1 c3 bx o0
  have hW := H.out.1.only0 o1
  have hxW := H.out.2.only o1 (by simp)
  obtain ⟨_, _, _, c3, c4, c5⟩ := hW.c
  have fr4 := hW.fr 4
  have hne1 : ¬ (w.heap.size = b) := by omega
  have hne2 : ¬ (b = w.heap.size) := by omega
  -- what follows, from a world whose struct has the start s'
  have rest : ∀ V : World, RBlk V b id r n s' e (.slice A xs.length cap) → PRow V (.slice A xs.length cap) xs → PBox V w.heap.size x → Only [b] w V → w.heap.size < V.heap.size →
      V.cell? ⟨b, 3, none⟩ = some (.slice A xs.length cap) ∧ V.cell? ⟨w.heap.size, 0, none⟩ = some (.int .i64 x.f) ∧ V.cell? ⟨w.heap.size, 1, none⟩ = some (.int .i64 x.l) ∧ V.cell? ⟨w.heap.size, 2, none⟩ = some (.int .i64 x.m) ∧ (V.alloc (.cells #[.int .i64 x.f, .int .i64 x.l, .int .i64 x.m] 58)).cell? ⟨b, 3, none⟩ = some (.slice A xs.length cap) := fun V h1 h2 h3 _ _ => ⟨h1.c.2.2.2.1, h3.c.1, h3.c.2.1, h3.c.2.2, (h1.only0 ((Only.refl [] V).alloc _)).c.2.2.2.1⟩
  have hlt1 : w.heap.size < W1.heap.size := bx1.lt
  rcases xs with _ | ⟨y, ys⟩
  · rw [if_pos rfl] at hs'
    have m1 : max vt e = s' := hs'.symm
    have m2 : (if vt < e then e else vt) = s' := by rw [hs']; split <;> omega
    have m3 : (if e < vt then vt else e) = s' := by rw [hs']; split <;> omega
    have oS : Only [b] W1 (W1.setCell ⟨b, 4, none⟩ (.int .u64 s')) := (Only.refl [b] W1).setCell (by simp) _
    have hV : Hid (RBlk (W1.setCell ⟨b, 4, none⟩ (.int .u64 s')) b id r n s' e (.slice A ([] : List Pk).length cap) ∧ PRow (W1.setCell ⟨b, 4, none⟩ (.int .u64 s')) (.slice A ([] : List Pk).length cap) [] ∧ PBox (W1.setCell ⟨b, 4, none⟩ (.int .u64 s')) w.heap.size x ∧ Only [b] w (W1.setCell ⟨b, 4, none⟩ (.int .u64 s')) ∧ w.heap.size < (W1.setCell ⟨b, 4, none⟩ (.int .u64 s')).heap.size) :=
      ⟨hW.set4 s', hxW.only oS (fun g hg => by simpa using hW.ne hxW g hg), bx1.only oS (by simpa using hne1), (o1.mono (by simp)).trans' oS, by simpa [World.setCell] using hlt1⟩
    clear hs' hW hxW o1 bx1 oS hlt1
    go_wp2_with fail
    generalize W1.setCell ⟨b, 4, none⟩ (.int .u64 s') = V at *
    obtain ⟨d3, x0, x1, x2, d3a⟩ := rest V hV.out.1 hV.out.2.1 hV.out.2.2.1 hV.out.2.2.2.1 hV.out.2.2.2.2
    clear c3 c4 c5 fr4 m1 m2 m3 rest
    go_region_law
      (first
       | (refine step_append_pk Try.underlying45 rfl (.const (.slice none 0 0)) (.tmp 36) rfl (.slice none 0 0) [] (by simp [Act.eval, Act.put]) (PRow.nil _) A 0 cap ([] : List Pk) (by simp [Act.eval, Act.put]) rfl (by first | exact PSrc.of_row (hV.out.2.1.only (Only.refl [] V).drew (by simp)) | exact PSrc.of_row (hV.out.2.1.only (((Only.refl [] V).alloc _).drew) (by simp))) 0 (by simp) (by simp at hxl ⊢ <;> omega) ?_
          intro A1 cap1 w1 r1 g1 l1
          have q1 : Only [] V w1 := Only.grown (by first | exact (Only.refl [] V).drew | exact ((Only.refl [] V).alloc _).drew) g1 (by simp [Value.ownBlock])
          have v1 := fresh_nil (w2 := w1) (B := V.heap.size) l1 (by simp)
          have bx1 := hV.out.2.2.1.only q1 (by simp)
          obtain ⟨k0, k1, k2⟩ := bx1.c
          (try (have bs : PBox w1 V.heap.size x := PBox.only (w := (V.alloc (.cells #[.int .i64 x.f, .int .i64 x.l, .int .i64 x.m] 58)).drew) (S := []) (PBox.new V x) ((Only.refl [] _).grown g1 (by simp [Value.ownBlock])) (by simp)))
          have R1 := Lib.hid (And.intro r1 (And.intro q1 v1))
          clear r1 g1 l1 q1 v1 bx1)
       | (refine step_append_pk Try.underlying45 rfl (.tmp 37) (.tmp 39) rfl (.slice A1 0 cap1) ([] ++ ([] : List Pk)) (by simp [Act.eval, Act.put]) (by exact R1.out.1) (some ⟨V.heap.size, 0, none⟩) 1 1 [x] (by simp [Act.eval, Act.put]) rfl (by exact PSrc.box bs) (0 + 1) (by simp) (by simp at hxl ⊢ <;> omega) ?_
          intro A2 cap2 w2 r2 g2 l2
          have q2 : Only [] V w2 := R1.out.2.1.grown g2 (fun k hk => .inr (R1.out.2.2 k hk))
          have v2 : ∀ g, (Value.slice A2 (0 + 1) cap2).ownBlock = some g → V.heap.size ≤ g := fun g hg => by
            rcases l2 with e | e
            · rw [e] at hg; exact R1.out.2.2 g hg
            · rw [e] at hg; have := R1.out.2.1.size; simp at hg; omega
          have hb2 := hV.out.1.only0 q2
          have e3 := hb2.c.2.2.2.1
          have f3 := hb2.fr 3
          have R2 := Lib.hid (And.intro r2 (And.intro q2 (And.intro v2 hb2)))
          clear r2 g2 l2 q2 v2 hb2)
       | (refine step_append_pk Try.underlying45 rfl (.tmp 37) (.tmp 39) rfl (.slice A1 0 cap1) ([] ++ ([] : List Pk)) (by simp [Act.eval, Act.put]) (by exact R1.out.1.only ((Only.refl [] w1).alloc _) (by simp)) (some ⟨w1.heap.size, 0, none⟩) 1 1 [x] (by simp [Act.eval, Act.put]) rfl (by exact PSrc.box (PBox.new w1 x)) (0 + 1) (by simp) (by simp at hxl ⊢ <;> omega) ?_
          intro A2 cap2 w2 r2 g2 l2
          have q2 : Only [] V w2 := (R1.out.2.1.alloc _).grown g2 (fun k hk => .inr (R1.out.2.2 k hk))
          have v2 : ∀ g, (Value.slice A2 (0 + 1) cap2).ownBlock = some g → V.heap.size ≤ g := fun g hg => by
            rcases l2 with e | e
            · rw [e] at hg; exact R1.out.2.2 g hg
            · rw [e] at hg; have := R1.out.2.1.size; simp at hg; omega
          have hb2 := hV.out.1.only0 q2
          have e3 := hb2.c.2.2.2.1
          have f3 := hb2.fr 3
          have R2 := Lib.hid (And.intro r2 (And.intro q2 (And.intro v2 hb2)))
          clear r2 g2 l2 q2 v2 hb2))
    all_goals
      go_wp2_with fail
      go_ret
      obtain ⟨r2, q2, v2, hb2⟩ := R2.out
      refine ⟨rfl, _, hb2.set3 _, r2.only ((Only.refl [b] w2).setCell (by simp) _) (fun g hg => by simpa using hb2.ne r2 g hg), ((hV.out.2.2.2.1.trans q2 (by simp)).setCell (by simp) _), fun g hg => ?_⟩
      have := v2 g hg
      have := hV.out.2.2.2.2
      omega
  · rw [if_neg (by simp)] at hs'
    subst hs'
    obtain ⟨p1, p2, p3, p4⟩ := pos_len ys.length
    have hV : Hid (RBlk W1 b id r n s' e (.slice A (y :: ys).length cap) ∧ PRow W1 (.slice A (y :: ys).length cap) (y :: ys) ∧ PBox W1 w.heap.size x ∧ Only [b] w W1 ∧ w.heap.size < W1.heap.size) := ⟨hW, hxW, bx1, o1.mono (by simp), hlt1⟩
    clear hW hxW o1 bx1 hlt1
    go_wp2_with fail
    generalize W1 = V at *
    obtain ⟨d3, x0, x1, x2, d3a⟩ := rest V hV.out.1 hV.out.2.1 hV.out.2.2.1 hV.out.2.2.2.1 hV.out.2.2.2.2
    clear c3 c4 c5 fr4 rest
    go_region_law
      (first
       | (refine step_append_pk Try.underlying45 rfl (.const (.slice none 0 0)) (.tmp 36) rfl (.slice none 0 0) [] (by simp [Act.eval, Act.put]) (PRow.nil _) A (ys.length + 1) cap (y :: ys) (by simp [Act.eval, Act.put]) rfl (by first | exact PSrc.of_row (hV.out.2.1.only (Only.refl [] V).drew (by simp)) | exact PSrc.of_row (hV.out.2.1.only (((Only.refl [] V).alloc _).drew) (by simp))) (ys.length + 1) (by simp) (by simp at hxl ⊢ <;> omega) ?_
          intro A1 cap1 w1 r1 g1 l1
          have q1 : Only [] V w1 := Only.grown (by first | exact (Only.refl [] V).drew | exact ((Only.refl [] V).alloc _).drew) g1 (by simp [Value.ownBlock])
          have v1 := fresh_nil (w2 := w1) (B := V.heap.size) l1 (by simp)
          have bx1 := hV.out.2.2.1.only q1 (by simp)
          obtain ⟨k0, k1, k2⟩ := bx1.c
          (try (have bs : PBox w1 V.heap.size x := PBox.only (w := (V.alloc (.cells #[.int .i64 x.f, .int .i64 x.l, .int .i64 x.m] 58)).drew) (S := []) (PBox.new V x) ((Only.refl [] _).grown g1 (by simp [Value.ownBlock])) (by simp)))
          have R1 := Lib.hid (And.intro r1 (And.intro q1 v1))
          clear r1 g1 l1 q1 v1 bx1)
       | (refine step_append_pk Try.underlying45 rfl (.tmp 37) (.tmp 39) rfl (.slice A1 (ys.length + 1) cap1) ([] ++ (y :: ys)) (by simp [Act.eval, Act.put]) (by exact R1.out.1) (some ⟨V.heap.size, 0, none⟩) 1 1 [x] (by simp [Act.eval, Act.put]) rfl (by exact PSrc.box bs) ((ys.length + 1) + 1) (by simp) (by simp at hxl ⊢ <;> omega) ?_
          intro A2 cap2 w2 r2 g2 l2
          have q2 : Only [] V w2 := R1.out.2.1.grown g2 (fun k hk => .inr (R1.out.2.2 k hk))
          have v2 : ∀ g, (Value.slice A2 ((ys.length + 1) + 1) cap2).ownBlock = some g → V.heap.size ≤ g := fun g hg => by
            rcases l2 with e | e
            · rw [e] at hg; exact R1.out.2.2 g hg
            · rw [e] at hg; have := R1.out.2.1.size; simp at hg; omega
          have hb2 := hV.out.1.only0 q2
          have e3 := hb2.c.2.2.2.1
          have f3 := hb2.fr 3
          have R2 := Lib.hid (And.intro r2 (And.intro q2 (And.intro v2 hb2)))
          clear r2 g2 l2 q2 v2 hb2)
       | (refine step_append_pk Try.underlying45 rfl (.tmp 37) (.tmp 39) rfl (.slice A1 (ys.length + 1) cap1) ([] ++ (y :: ys)) (by simp [Act.eval, Act.put]) (by exact R1.out.1.only ((Only.refl [] w1).alloc _) (by simp)) (some ⟨w1.heap.size, 0, none⟩) 1 1 [x] (by simp [Act.eval, Act.put]) rfl (by exact PSrc.box (PBox.new w1 x)) ((ys.length + 1) + 1) (by simp) (by simp at hxl ⊢ <;> omega) ?_
          intro A2 cap2 w2 r2 g2 l2
          have q2 : Only [] V w2 := (R1.out.2.1.alloc _).grown g2 (fun k hk => .inr (R1.out.2.2 k hk))
          have v2 : ∀ g, (Value.slice A2 ((ys.length + 1) + 1) cap2).ownBlock = some g → V.heap.size ≤ g := fun g hg => by
            rcases l2 with e | e
            · rw [e] at hg; exact R1.out.2.2 g hg
            · rw [e] at hg; have := R1.out.2.1.size; simp at hg; omega
          have hb2 := hV.out.1.only0 q2
          have e3 := hb2.c.2.2.2.1
          have f3 := hb2.fr 3
          have R2 := Lib.hid (And.intro r2 (And.intro q2 (And.intro v2 hb2)))
          clear r2 g2 l2 q2 v2 hb2))
    all_goals
      go_wp2_with fail
      go_ret
      obtain ⟨r2, q2, v2, hb2⟩ := R2.out
      refine ⟨rfl, _, hb2.set3 _, r2.only ((Only.refl [b] w2).setCell (by simp) _) (fun g hg => by simpa using hb2.ne r2 g hg), ((hV.out.2.2.2.1.trans q2 (by simp)).setCell (by simp) _), fun g hg => ?_⟩
      have := v2 g hg
      have := hV.out.2.2.2.2
      omega
end Go.Proofs.Ytklolepmmabijaa

namespace Go.Proofs.Ytklolepmmabijaa
set_option maxRecDepth 100000
open Go.RowKit
set_option linter.unusedVariables false
set_option linter.unusedSimpArgs false
set_option maxRecDepth 100000

theorem PRow.head {w : World} {g n cap : Nat} {x : Pk} {xs : List Pk} (h : PRow w (.slice (some ⟨g, 0, none⟩) n cap) (x :: xs)) : w.cell? ⟨g, 0, none⟩ = some (.int .i64 x.f) ∧ w.cell? ⟨g, 1, none⟩ = some (.int .i64 x.l) ∧ w.cell? ⟨g, 2, none⟩ = some (.int .i64 x.m) := by
  obtain ⟨g', c, e, _, _, _, _, hc⟩ := h.at_ (by simp)
  injection e with e1 e2 e3
  injection e1 with e1
  injection e1 with e1
  subst e1
  simpa [pOf] using hc 0 (by simp)
set_option maxHeartbeats 1000000 in
theorem rServe0 (w : World) (b : Nat) (id r n s e : Int) (A : Option Addr) (cap : Nat) (h : RBlk w b id r n s e (.slice A 0 cap)) :
    Calls Try.prog 79 #[.pointer (some ⟨b, 0, none⟩)] w fun e' w' => e' = .returned (.tuple #[.agg #[.int .i64 0, .int .i64 0, .int .i64 0], .int .u64 0, .bool false]) ∧ Only [] w w' := by
  have o0 : Only [] w (w.alloc (.cells #[.int .i64 0, .int .i64 0, .int .i64 0] 58)) := (Only.refl [] w).alloc _
  obtain ⟨_, _, _, c3, _, _⟩ := (h.only0 o0).c
  clear h
  go_enter Try.func79, Try.ntmps79
  go_wp2_with fail
  refine bodyPost_ret (v := .tuple #[.agg #[.int .i64 0, .int .i64 0, .int .i64 0], .int .u64 0, .bool false]) ?_ rfl ?_
  · rw [results_cell_tmp2 rfl]; go_simp
  · exact ⟨rfl, (Only.refl [] w).alloc _⟩

set_option maxHeartbeats 4000000 in
theorem rServe1 (w : World) (b : Nat) (id r n s e : Int) (v : Value) (x : Pk) (xs : List Pk) (h : RBlk w b id r n s e v) (hx : PRow w v (x :: xs)) (hxl : xs.length ≤ 1000) (hr : U64 r) (hs : U64 s) (hok : x.ok) (fin : Int) (hfin : addM s (costM x.l r) = fin) :
    Calls Try.prog 79 #[.pointer (some ⟨b, 0, none⟩)] w fun e' w' => e' = .returned (.tuple #[.agg #[.int .i64 x.f, .int .i64 x.l, .int .i64 x.m], .int .u64 fin, .bool true]) ∧ ∃ v', RBlk w' b id r n fin fin v' ∧ PRow w' v' xs ∧ Only [b] w w' ∧ ∀ g, v'.ownBlock = some g → w.heap.size ≤ g := by
  have o0 : Only [] w (w.alloc (.cells #[.int .i64 0, .int .i64 0, .int .i64 0] 58)) := (Only.refl [] w).alloc _
  have o1 : Only [] w ((w.alloc (.cells #[.int .i64 0, .int .i64 0, .int .i64 0] 58)).alloc (.cells #[.int .i64 x.f, .int .i64 x.l, .int .i64 x.m] 58)) := o0.alloc _
  have hb := h.lt
  have hne1 : ¬ (w.heap.size = b) := by omega
  have hne2 : ¬ (w.heap.size + 1 = b) := by omega
  have bz := (PBox.new w ⟨0, 0, 0⟩).only (w' := (w.alloc (.cells #[.int .i64 0, .int .i64 0, .int .i64 0] 58)).alloc (.cells #[.int .i64 x.f, .int .i64 x.l, .int .i64 x.m] 58)) ((Only.refl [] _).alloc _) (by simp)
  have bx : PBox ((w.alloc (.cells #[.int .i64 0, .int .i64 0, .int .i64 0] 58)).alloc (.cells #[.int .i64 x.f, .int .i64 x.l, .int .i64 x.m] 58)) (w.heap.size + 1) x := by
    have := PBox.new (w.alloc (.cells #[.int .i64 0, .int .i64 0, .int .i64 0] 58)) x
    simpa using this
  obtain ⟨_, _, _, c3, _, _⟩ := h.c
  obtain ⟨_, _, _, c3a, _, _⟩ := (h.only0 o0).c
  obtain ⟨_, _, _, c3b, _, _⟩ := (h.only0 o1).c
  obtain ⟨g, cap, rfl, hn, hcap, hg, _, _⟩ := hx.at_ (by simp)
  obtain ⟨x0, x1, x2⟩ := (hx.only o0 (by simp)).head
  have hlen : (x :: xs).length = xs.length + 1 := by simp
  rw [hlen] at hx hn c3 c3a c3b
  have hh := (hx.only o1 (by simp)).head
  obtain ⟨ad, hA, hsrc⟩ : ∃ ad : Addr, (if cap = 1 then (⟨g, 0, none⟩ : Addr) else ⟨g, 3, none⟩) = ad ∧ Hid (PSrc ((w.alloc (.cells #[.int .i64 0, .int .i64 0, .int .i64 0] 58)).alloc (.cells #[.int .i64 x.f, .int .i64 x.l, .int .i64 x.m] 58)) (some ad) xs) := by
    refine ⟨_, rfl, fun hne => ?_⟩
    have hlt : 0 < xs.length := List.length_pos_iff.2 hne
    rw [if_neg (by omega)]
    exact PSrc.drop (hx.only o1 (by simp)) 1 (by simpa using hne)
  have H := Lib.hid (And.intro o1 (And.intro h (And.intro bz bx)))
  obtain ⟨p1, p2, p3, p4⟩ := pos_len xs.length
  have p5 : (0 : Int) < (xs.length : Int) + 1 := by omega
  have p6 : (1 : Int) ≤ (xs.length : Int) + 1 := by omega
  have hcap2 : cap ≤ 9223372036854775807 := by unfold maxLen at hcap; omega
  clear h hx o0 o1 bz bx hh hlen
  generalize hn' : xs.length = k at *
  rcases Decidable.em (cap = 1) with rfl | hca
  · rw [if_pos rfl] at hA
    subst hA
    go_enter Try.func79, Try.ntmps79
    go_wp2_with (first
      | (at_builtin
         refine wpList_append_pk Try.underlying45 rfl (.const (.slice none 0 0)) (.tmp 24) rfl (.slice none 0 0) [] rfl (PRow.nil _) _ _ _ xs rfl (by first | exact hn' | omega) hsrc.out k (by first | omega | (simp only [List.length_nil]; omega)) (by omega) ?_
         intro A1 cap1 w2 r1 g1 l1
         have q1 : Only [] w w2 := H.out.1.grown g1 (by simp [Value.ownBlock])
         have v1 := fresh_nil (w2 := w2) (B := w.heap.size + 2) l1 (by simp)
         have hb2 := H.out.2.1.only0 q1
         have bz2 := H.out.2.2.1.only (w' := w2) ((Only.refl [] _).grown g1 (by simp [Value.ownBlock])) (by simp)
         have bx2 := H.out.2.2.2.only (w' := w2) ((Only.refl [] _).grown g1 (by simp [Value.ownBlock])) (by simp)
         obtain ⟨_, _, _, e3, _, _⟩ := hb2.c
         have fr3 := hb2.fr 3
         have R1 := Lib.hid (And.intro r1 (And.intro q1 (And.intro v1 (And.intro hb2 (And.intro bz2 bx2)))))
         clear r1 g1 l1 q1 v1 hb2 bz2 bx2))
    obtain ⟨r1, q1, v1, hb2, bz2, bx2⟩ := R1.out
    have oS : Only [b] w2 (w2.setCell ⟨b, 3, none⟩ (.slice A1 k cap1)) := (Only.refl [b] w2).setCell (by simp) _
    have hV : Hid (RBlk (w2.setCell ⟨b, 3, none⟩ (.slice A1 k cap1)) b id r n s e (.slice A1 k cap1) ∧ PRow (w2.setCell ⟨b, 3, none⟩ (.slice A1 k cap1)) (.slice A1 k cap1) xs ∧ PBox (w2.setCell ⟨b, 3, none⟩ (.slice A1 k cap1)) w.heap.size ⟨0, 0, 0⟩ ∧ PBox (w2.setCell ⟨b, 3, none⟩ (.slice A1 k cap1)) (w.heap.size + 1) x ∧ Only [b] w (w2.setCell ⟨b, 3, none⟩ (.slice A1 k cap1))) :=
      ⟨hb2.set3 _, r1.only oS (fun g hg => by simpa using hb2.ne r1 g hg), bz2.only oS (by simpa using hne1), bx2.only oS (by simpa using hne2), (q1.mono (by simp)).trans' oS⟩
    clear oS r1 q1 hb2 bz2 bx2
    generalize w2.setCell ⟨b, 3, none⟩ (.slice A1 k cap1) = V at *
    obtain ⟨_, _, d2, _, d4, d5⟩ := hV.out.1.c
    have f5 := hV.out.1.fr 5
    have y1 := hV.out.2.2.2.1.c.2.1
    have hcst := rcost_any x.l r V.drew (i64_to hok.2.1).1 (i64_to hok.2.1).2 hr.1 hr.2
    have hadd := radd_any s (costM x.l r) V.drew hs.1 (cost_word x.l r hr).1 hs.2 (cost_word x.l r hr).2
    rw [hfin] at hadd
    have hq4 := ((hV.out.1.set5 fin).only0 (Only.refl [] _).drew)
    have oT : Only [b] V (V.setCell ⟨b, 5, none⟩ (.int .u64 fin)).drew := ((Only.refl [b] V).setCell (by simp) _).drew
    have hU : Hid (RBlk (V.setCell ⟨b, 5, none⟩ (.int .u64 fin)).drew b id r n s fin (.slice A1 k cap1) ∧ PRow (V.setCell ⟨b, 5, none⟩ (.int .u64 fin)).drew (.slice A1 k cap1) xs ∧ PBox (V.setCell ⟨b, 5, none⟩ (.int .u64 fin)).drew w.heap.size ⟨0, 0, 0⟩ ∧ PBox (V.setCell ⟨b, 5, none⟩ (.int .u64 fin)).drew (w.heap.size + 1) x ∧ Only [b] w (V.setCell ⟨b, 5, none⟩ (.int .u64 fin)).drew) :=
      ⟨hq4, hV.out.2.1.only oT (fun g hg => by simpa using hV.out.1.ne hV.out.2.1 g hg), hV.out.2.2.1.only oT (by simpa using hne1), hV.out.2.2.2.1.only oT (by simpa using hne2), hV.out.2.2.2.2.trans' oT⟩
    have HS4 := Lib.hid (And.intro hq4.c.2.2.1 (And.intro hq4.c.2.2.2.2.1 hU.out.2.2.2.1.c.2.1))
    clear hq4 oT hV
    go_region_held3 (fun w' => w'.cell? ⟨b, 2, none⟩ = some (.int .u64 r) ∧ w'.cell? ⟨b, 4, none⟩ = some (.int .u64 s) ∧ w'.cell? ⟨w.heap.size + 1, 1, none⟩ = some (.int .i64 x.l))
      (first | (exact HS4.out) | go_keep)
      (first | (go_at_call 95; refine hcst.mono ?_; rintro e' w' ⟨rfl, rfl⟩) | (go_at_call 94; refine hadd.mono ?_; rintro e' w' ⟨rfl, rfl⟩))
    generalize (V.setCell ⟨b, 5, none⟩ (.int .u64 fin)).drew = U at *
    obtain ⟨_, _, _, _, g4, g5⟩ := hU.out.1.c
    have fr4 := hU.out.1.fr 4
    obtain ⟨z0, z1, z2⟩ := hU.out.2.2.1.c
    obtain ⟨t0, t1, t2⟩ := hU.out.2.2.2.1.c
    have i0 := hU.out.2.2.1.fr 0
    have i1 := hU.out.2.2.1.fr 1
    have i2 := hU.out.2.2.1.fr 2
    clear hcst hadd HS4 d2 d4 d5 f5 y1
    go_wp2_with fail
    go_region
    go_wp2_with fail
    refine bodyPost_ret (v := .tuple #[.agg #[.int .i64 x.f, .int .i64 x.l, .int .i64 x.m], .int .u64 fin, .bool true]) ?_ rfl ?_
    · rw [results_cell_tmp2 rfl]; go_simp
    · obtain ⟨u1, u2, u3, u4, u5⟩ := hU.out
      have hb9 : b ∉ [w.heap.size] := by simp; omega
      have oE : Only [w.heap.size] (U.setCell ⟨b, 4, none⟩ (.int .u64 fin)) ((((U.setCell ⟨b, 4, none⟩ (.int .u64 fin)).setCell ⟨w.heap.size, 0, none⟩ (.int .i64 x.f)).setCell ⟨w.heap.size, 1, none⟩ (.int .i64 x.l)).setCell ⟨w.heap.size, 2, none⟩ (.int .i64 x.m)).drew := ((((Only.refl _ _).setCell (by simp) _).setCell (by simp) _).setCell (by simp) _).drew
      have oB : Only [b] U (U.setCell ⟨b, 4, none⟩ (.int .u64 fin)) := (Only.refl [b] U).setCell (by simp) _
      refine ⟨rfl, _, (u1.set4 fin).only oE hb9, (u2.only oB (fun g hg => by simpa using u1.ne u2 g hg)).only oE (fun g hg => by have := v1 g hg; simp; omega), (u5.trans' oB).trans oE (by simp), fun g hg => by have := v1 g hg; omega⟩
  · rw [if_neg hca] at hA
    subst hA
    go_enter Try.func79, Try.ntmps79
    go_wp2_with (first
      | (at_builtin
         refine wpList_append_pk Try.underlying45 rfl (.const (.slice none 0 0)) (.tmp 24) rfl (.slice none 0 0) [] rfl (PRow.nil _) _ _ _ xs rfl (by first | exact hn' | omega) hsrc.out k (by first | omega | (simp only [List.length_nil]; omega)) (by omega) ?_
         intro A1 cap1 w2 r1 g1 l1
         have q1 : Only [] w w2 := H.out.1.grown g1 (by simp [Value.ownBlock])
         have v1 := fresh_nil (w2 := w2) (B := w.heap.size + 2) l1 (by simp)
         have hb2 := H.out.2.1.only0 q1
         have bz2 := H.out.2.2.1.only (w' := w2) ((Only.refl [] _).grown g1 (by simp [Value.ownBlock])) (by simp)
         have bx2 := H.out.2.2.2.only (w' := w2) ((Only.refl [] _).grown g1 (by simp [Value.ownBlock])) (by simp)
         obtain ⟨_, _, _, e3, _, _⟩ := hb2.c
         have fr3 := hb2.fr 3
         have R1 := Lib.hid (And.intro r1 (And.intro q1 (And.intro v1 (And.intro hb2 (And.intro bz2 bx2)))))
         clear r1 g1 l1 q1 v1 hb2 bz2 bx2))
    obtain ⟨r1, q1, v1, hb2, bz2, bx2⟩ := R1.out
    have oS : Only [b] w2 (w2.setCell ⟨b, 3, none⟩ (.slice A1 k cap1)) := (Only.refl [b] w2).setCell (by simp) _
    have hV : Hid (RBlk (w2.setCell ⟨b, 3, none⟩ (.slice A1 k cap1)) b id r n s e (.slice A1 k cap1) ∧ PRow (w2.setCell ⟨b, 3, none⟩ (.slice A1 k cap1)) (.slice A1 k cap1) xs ∧ PBox (w2.setCell ⟨b, 3, none⟩ (.slice A1 k cap1)) w.heap.size ⟨0, 0, 0⟩ ∧ PBox (w2.setCell ⟨b, 3, none⟩ (.slice A1 k cap1)) (w.heap.size + 1) x ∧ Only [b] w (w2.setCell ⟨b, 3, none⟩ (.slice A1 k cap1))) :=
      ⟨hb2.set3 _, r1.only oS (fun g hg => by simpa using hb2.ne r1 g hg), bz2.only oS (by simpa using hne1), bx2.only oS (by simpa using hne2), (q1.mono (by simp)).trans' oS⟩
    clear oS r1 q1 hb2 bz2 bx2
    generalize w2.setCell ⟨b, 3, none⟩ (.slice A1 k cap1) = V at *
    obtain ⟨_, _, d2, _, d4, d5⟩ := hV.out.1.c
    have f5 := hV.out.1.fr 5
    have y1 := hV.out.2.2.2.1.c.2.1
    have hcst := rcost_any x.l r V.drew (i64_to hok.2.1).1 (i64_to hok.2.1).2 hr.1 hr.2
    have hadd := radd_any s (costM x.l r) V.drew hs.1 (cost_word x.l r hr).1 hs.2 (cost_word x.l r hr).2
    rw [hfin] at hadd
    have hq4 := ((hV.out.1.set5 fin).only0 (Only.refl [] _).drew)
    have oT : Only [b] V (V.setCell ⟨b, 5, none⟩ (.int .u64 fin)).drew := ((Only.refl [b] V).setCell (by simp) _).drew
    have hU : Hid (RBlk (V.setCell ⟨b, 5, none⟩ (.int .u64 fin)).drew b id r n s fin (.slice A1 k cap1) ∧ PRow (V.setCell ⟨b, 5, none⟩ (.int .u64 fin)).drew (.slice A1 k cap1) xs ∧ PBox (V.setCell ⟨b, 5, none⟩ (.int .u64 fin)).drew w.heap.size ⟨0, 0, 0⟩ ∧ PBox (V.setCell ⟨b, 5, none⟩ (.int .u64 fin)).drew (w.heap.size + 1) x ∧ Only [b] w (V.setCell ⟨b, 5, none⟩ (.int .u64 fin)).drew) :=
      ⟨hq4, hV.out.2.1.only oT (fun g hg => by simpa using hV.out.1.ne hV.out.2.1 g hg), hV.out.2.2.1.only oT (by simpa using hne1), hV.out.2.2.2.1.only oT (by simpa using hne2), hV.out.2.2.2.2.trans' oT⟩
    have HS4 := Lib.hid (And.intro hq4.c.2.2.1 (And.intro hq4.c.2.2.2.2.1 hU.out.2.2.2.1.c.2.1))
    clear hq4 oT hV
    go_region_held3 (fun w' => w'.cell? ⟨b, 2, none⟩ = some (.int .u64 r) ∧ w'.cell? ⟨b, 4, none⟩ = some (.int .u64 s) ∧ w'.cell? ⟨w.heap.size + 1, 1, none⟩ = some (.int .i64 x.l))
      (first | (exact HS4.out) | go_keep)
      (first | (go_at_call 95; refine hcst.mono ?_; rintro e' w' ⟨rfl, rfl⟩) | (go_at_call 94; refine hadd.mono ?_; rintro e' w' ⟨rfl, rfl⟩))
    generalize (V.setCell ⟨b, 5, none⟩ (.int .u64 fin)).drew = U at *
    obtain ⟨_, _, _, _, g4, g5⟩ := hU.out.1.c
    have fr4 := hU.out.1.fr 4
    obtain ⟨z0, z1, z2⟩ := hU.out.2.2.1.c
    obtain ⟨t0, t1, t2⟩ := hU.out.2.2.2.1.c
    have i0 := hU.out.2.2.1.fr 0
    have i1 := hU.out.2.2.1.fr 1
    have i2 := hU.out.2.2.1.fr 2
    clear hcst hadd HS4 d2 d4 d5 f5 y1
    go_wp2_with fail
    go_region
    go_wp2_with fail
    refine bodyPost_ret (v := .tuple #[.agg #[.int .i64 x.f, .int .i64 x.l, .int .i64 x.m], .int .u64 fin, .bool true]) ?_ rfl ?_
    · rw [results_cell_tmp2 rfl]; go_simp
    · obtain ⟨u1, u2, u3, u4, u5⟩ := hU.out
      have hb9 : b ∉ [w.heap.size] := by simp; omega
      have oE : Only [w.heap.size] (U.setCell ⟨b, 4, none⟩ (.int .u64 fin)) ((((U.setCell ⟨b, 4, none⟩ (.int .u64 fin)).setCell ⟨w.heap.size, 0, none⟩ (.int .i64 x.f)).setCell ⟨w.heap.size, 1, none⟩ (.int .i64 x.l)).setCell ⟨w.heap.size, 2, none⟩ (.int .i64 x.m)).drew := ((((Only.refl _ _).setCell (by simp) _).setCell (by simp) _).setCell (by simp) _).drew
      have oB : Only [b] U (U.setCell ⟨b, 4, none⟩ (.int .u64 fin)) := (Only.refl [b] U).setCell (by simp) _
      refine ⟨rfl, _, (u1.set4 fin).only oE hb9, (u2.only oB (fun g hg => by simpa using u1.ne u2 g hg)).only oE (fun g hg => by have := v1 g hg; simp; omega), (u5.trans' oB).trans oE (by simp), fun g hg => by have := v1 g hg; omega⟩

section
variable (w : World) (b : Nat) (id : Int) (F : Fl) (O : List Nat) (h : RefOf w b id F O)
include h
theorem rlServe : Calls Try.prog 79 #[.pointer (some ⟨b, 0, none⟩)] w fun e w' => e = .returned (.tuple #[.agg #[.int .i64 F.hd.f, .int .i64 F.hd.l, .int .i64 F.hd.m], .int .u64 F.out, .bool F.any]) ∧ RTo w b id O F.srv w' := by
  obtain ⟨hk, s, v, h1, h2, h3, h4, rfl⟩ := h
  rcases hl : F.l with _ | ⟨x, t⟩
  · have e1 : F.hd = Pk.none := by unfold Fl.hd; rw [hl]; rfl
    have e2 : F.out = 0 := by unfold Fl.out; rw [if_pos hl]
    have e3 : F.any = false := by unfold Fl.any; rw [hl]; rfl
    have e4 : F.srv = F := by unfold Fl.srv; rw [if_pos hl]
    rw [e1, e2, e3, e4]
    have hF : RefOf w b id F (b :: v.ownBlock.toList) := ⟨hk, s, v, h1, h2, h3, h4, rfl⟩
    obtain ⟨A, cap, rfl⟩ := h4.form
    rw [hl] at h1
    refine (rServe0 w b _ _ _ _ _ A cap h1).mono ?_
    rintro e w' ⟨rfl, ho⟩
    exact ⟨rfl, RTo.still hF ho⟩
  · have hne : F.l ≠ [] := by rw [hl]; simp
    have e1 : F.hd = x := by unfold Fl.hd; rw [hl]; rfl
    have e2 : F.out = F.fin := by unfold Fl.out; rw [if_neg hne]
    have e3 : F.any = true := by unfold Fl.any; rw [hl]; rfl
    have e4 : F.srv = ⟨F.r, F.n, F.fin, F.fin, t⟩ := by unfold Fl.srv; rw [if_neg hne, hl]; rfl
    have hok := hk.srv
    have es := h2 hne
    subst es
    have hlen := hk.len
    have hn8 := hk.n8
    rw [hl] at h4 hlen
    simp only [List.length_cons] at hlen
    refine (rServe1 w b _ _ _ _ _ v x t h1 h4 (by omega) hk.r h3 (hk.l x (by rw [hl]; simp)) F.fin (by unfold Fl.fin; rw [e1])).mono ?_
    rintro e w' ⟨rfl, v', hb', hr', ho', hv'⟩
    refine ⟨by rw [e1, e2, e3], ?_⟩
    rw [e4] at hok ⊢
    exact RTo.mk (F := ⟨F.r, F.n, F.fin, F.fin, t⟩) hok hb' hr' (fun _ => rfl) hok.s ho' hv'
theorem rlArrive (vt : Int) (hvt : U64 vt) (x : Pk) (hx : x.ok) : Calls Try.prog 55 #[.pointer (some ⟨b, 0, none⟩), .int .u64 vt, .agg #[.int .i64 x.f, .int .i64 x.l, .int .i64 x.m]] w fun e w' => e = .returned (.bool F.takes) ∧ RTo w b id O (F.arr vt x) w' := by
  have hF := h
  obtain ⟨hk, s, v, h1, h2, h3, h4, rfl⟩ := h
  have hok := hk.arr hvt hx
  have hlen := hk.len
  have hn8 := hk.n8
  by_cases hl : F.l.length = F.n
  · have e1 : F.takes = false := by unfold Fl.takes; simp [hl]
    have e2 : F.arr vt x = F := by unfold Fl.arr; rw [if_pos hl]
    rw [e1, e2]
    obtain ⟨A, cap, rfl⟩ := h4.form
    rw [← hl] at h1
    refine (rArriveFull w b _ _ _ _ A _ cap h1 vt x).mono ?_
    rintro e w' ⟨rfl, ho⟩
    exact ⟨rfl, RTo.still hF ho⟩
  · have e1 : F.takes = true := by unfold Fl.takes; simp [hl]
    have e2 : F.arr vt x = ⟨F.r, F.n, if F.l = [] then max vt F.e else F.s, F.e, F.l ++ [x]⟩ := by unfold Fl.arr; rw [if_neg hl]
    rw [e1]
    rw [e2] at hok ⊢
    have es : (if F.l = [] then max vt F.e else F.s) = if F.l = [] then max vt F.e else s := by
      split
      · rfl
      · rename_i hne; exact (h2 hne).symm
    refine (rArrive w b _ _ _ _ _ v F.l h1 h4 (by omega) (by omega) vt x _ es).mono ?_
    rintro e w' ⟨rfl, v', hb', hr', ho', hv'⟩
    exact ⟨rfl, RTo.mk (F := ⟨F.r, F.n, if F.l = [] then max vt F.e else F.s, F.e, F.l ++ [x]⟩) hok hb' hr' (fun _ => rfl) hok.s ho' hv'⟩
end
end Go.Proofs.Ytklolepmmabijaa

namespace Go.Proofs.Ytklolepmmabijaa
set_option maxRecDepth 100000
open Go.RowKit
set_option linter.unusedVariables false
set_option linter.unusedSimpArgs false
set_option maxRecDepth 100000

theorem pk_guard : Try.prog.eqGuardType Try.prog.depth 58 = false := by kernel_rfl
theorem pk_held : Try.prog.stoodInHeld 58 = false := by kernel_rfl
theorem pk_struct : Try.prog.underlying 58 = some (.struct (Try.prog.fieldsOf 58)) := by kernel_rfl
theorem pk_eql (x y : Pk) (w : World) : (binOp .eql 58 (.agg #[.int .i64 x.f, .int .i64 x.l, .int .i64 x.m]) (.agg #[.int .i64 y.f, .int .i64 y.l, .int .i64 y.m])).run Try.prog w = .ok (.bool (decide (x = y))) w := by
  have u1 := Try.underlying3
  have a1 := Try.isAgg3
  have z1 := Try.sizeOf3
  rw [run_eql_struct, show (10000 : Nat) = 9999 + 1 from rfl, run_equalIn_agg w 9999 58 _ _ pk_struct pk_held]
  simp only [Program.fieldsOf, Try.underlying58]
  go_simp
  obtain ⟨k, i, j⟩ := x
  obtain ⟨k', i', j'⟩ := y
  by_cases h1 : k = k' <;> by_cases h2 : i = i' <;> by_cases h3 : j = j' <;> simp [h1, h2, h3]

theorem fModN (v : Int) (n : Nat) (h : 0 < n) (hn : n ≤ 1000000) : ∃ m : Nat, m < n ∧ ∀ w, Calls Try.prog 5 #[.int .i64 v, .int .i64 (n : Int)] w fun e w' => e = .returned (.int .i64 (m : Int)) ∧ w' = w := by
  obtain ⟨x, h0, hx, ex⟩ := rem_is v (n : Int) (by omega)
  obtain ⟨m, rfl⟩ : ∃ m : Nat, x = (m : Int) := ⟨x.toNat, by omega⟩
  refine ⟨m, by omega, fun w => ?_⟩
  have hm : m < n := by omega
  have hw : wrap64 (m : Int) = (m : Int) := by unfold wrap64; omega
  have hne' : ¬ ((n : Int) = 0) := by omega
  go_enter Try.func5, Try.ntmps5
  go_wp2
  go_ret
  exact ⟨by simp [ex, hw], rfl⟩

/-- An act: its kind, its virtual time, its packet. -/
structure Ak where
  k : Int
  v : Int
  p : Pk
deriving Inhabited
def Ak.ok (a : Ak) : Prop := i64ok a.k ∧ U64 a.v ∧ a.p.ok
theorem i64_of {a : Int} (h : -9223372036854775808 ≤ a ∧ a ≤ 9223372036854775807) : i64ok a := by
  simp [i64ok, Lit.wf, IntKind.min, IntKind.max, IntKind.signed, IntKind.bits]
  omega
/-- A flow beside the document's, both the same as numbers. -/
structure Duo (w : World) (b c : Nat) (F : Fl) (O P : List Nat) : Prop where
  fl : FlowOf w b F O
  rf : RefOf w c 0 F P
  ap : ∀ k ∈ O, k ∉ P
section
variable {w w' : World} {b c : Nat} {F F' : Fl} {O P O' P' : List Nat}
theorem Duo.only {S : List Nat} (h : Duo w b c F O P) (ho : Only S w w') (hS : ∀ k ∈ O ++ P, k ∉ S) : Duo w' b c F O P :=
  ⟨h.fl.only ho (fun k hk => hS k (by simp [hk])), h.rf.only ho (fun k hk => hS k (by simp [hk])), h.ap⟩
theorem Duo.only0 (h : Duo w b c F O P) (ho : Only [] w w') : Duo w' b c F O P := h.only ho (by simp)
theorem Duo.lt (h : Duo w b c F O P) : ∀ k ∈ O ++ P, k < w.heap.size := by
  intro k hk
  rcases List.mem_append.1 hk with hk | hk
  · exact h.fl.lt k hk
  · exact h.rf.lt k hk
/-- The one turned, the other as it was. -/
theorem RefOf.beside {id : Int} (h : RefOf w c id F P) (hw : Went w O w' O') (ha : ∀ k ∈ O, k ∉ P) : RefOf w' c id F P ∧ ∀ k ∈ O', k ∉ P := by
  refine ⟨h.only hw.1 (fun k hk hO => ha k hO hk), fun k hk hP => ?_⟩
  rcases hw.2 k hk with h1 | h1
  · exact ha k h1 hP
  · have := h.lt k hP; omega
theorem FlowOf.beside (h : FlowOf w b F O) (hw : Went w P w' P') (ha : ∀ k ∈ O, k ∉ P) : FlowOf w' b F O ∧ ∀ k ∈ O, k ∉ P' := by
  refine ⟨h.only hw.1 ha, fun k hk hP => ?_⟩
  rcases hw.2 k hP with h1 | h1
  · exact ha k hk h1
  · have := h.lt k hk; omega
theorem Went.two {a b' c' : World} {O P O' P' : List Nat} (h : Went a O b' O') (h2 : Went b' P c' P') : Went a (O ++ P) c' (O' ++ P') := by
  refine ⟨(h.1.mono (T := O ++ P) (fun k hk => .inl (by simp [hk]))).trans h2.1 (fun k hk => .inl (by simp [hk])), fun k hk => ?_⟩
  rcases List.mem_append.1 hk with hk | hk
  · exact (h.2 k hk).imp (fun h => by simp [h]) id
  · rcases h2.2 k hk with h3 | h3
    · exact .inl (by simp [h3])
    · exact .inr (Nat.le_trans h.1.size h3)
end
end Go.Proofs.Ytklolepmmabijaa

namespace Go.Proofs.Ytklolepmmabijaa
set_option maxRecDepth 100000
open Go.RowKit
set_option linter.unusedVariables false
set_option linter.unusedSimpArgs false
set_option maxRecDepth 100000

theorem pOf_get {xs : List Pk} {k : Nat} (h : k < xs.length) : pOf xs k = xs[k] := by simp [pOf, h]
theorem pOf_ext {xs ys : List Pk} (hl : xs.length = ys.length) (h : ∀ k, k < xs.length → pOf xs k = pOf ys k) : xs = ys := by
  apply List.ext_getElem hl
  intro k h1 h2
  have := h k h1
  rw [pOf_get h1, pOf_get h2] at this
  exact this

end Go.Proofs.Ytklolepmmabijaa
