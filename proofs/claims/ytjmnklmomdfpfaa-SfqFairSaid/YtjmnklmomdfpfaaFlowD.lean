/-
  The document's flow: contracts of Arrive and Serve.
-/
import Derived.Test.YtjmnklmomdfpfaaFlowC
namespace Go.Proofs.Ytjmnklmomdfpfaa
set_option maxRecDepth 100000
open Go.RowKit
set_option linter.unusedVariables false
set_option linter.unusedSimpArgs false
set_option maxRecDepth 100000

set_option maxHeartbeats 1000000 in
theorem rArriveFull (w : World) (b : Nat) (id r s e : Int) (A : Option Addr) (m cap : Nat) (h : RBlk w b id r (m : Int) s e (.slice A m cap)) (vt : Int) (x : Pk) :
    Calls Try.prog 58 #[.pointer (some ⟨b, 0, none⟩), .int .u64 vt, .agg #[.int .i64 x.f, .int .i64 x.l, .int .i64 x.m]] w fun e' w' => e' = .returned (.bool false) ∧ Only [] w w' := by
  have o0 : Only [] w (w.alloc (.cells #[.int .i64 x.f, .int .i64 x.l, .int .i64 x.m] 34)) := (Only.refl [] w).alloc _
  go_enter Try.func58, Try.ntmps58
  go_wp2_with fail
  generalize w.alloc (.cells #[.int .i64 x.f, .int .i64 x.l, .int .i64 x.m] 34) = W at *
  obtain ⟨_, c1, _, c3, _, _⟩ := (h.only0 o0).c
  clear h
  go_quiet (fail)
  go_wp2_with fail
  go_ret
  exact ⟨rfl, o0.drewN _⟩

theorem Only.rel {w V U : World} (o : Only [] w V) (o2 : Only [] V U) : Only [] w U := o.trans' o2

set_option maxHeartbeats 4000000 in
theorem rArrive (w : World) (b : Nat) (id r n s e : Int) (v : Value) (xs : List Pk) (h : RBlk w b id r n s e v) (hx : PRow w v xs) (hxl : xs.length ≤ 1000) (hn : (xs.length : Int) < n) (vt : Int) (x : Pk) (s' : Int) (hs' : s' = if xs = [] then max vt e else s) :
    Calls Try.prog 58 #[.pointer (some ⟨b, 0, none⟩), .int .u64 vt, .agg #[.int .i64 x.f, .int .i64 x.l, .int .i64 x.m]] w fun e' w' => e' = .returned (.bool true) ∧ ∃ v', RBlk w' b id r n s' e v' ∧ PRow w' v' (xs ++ [x]) ∧ Only [b] w w' ∧ ∀ g, v'.ownBlock = some g → w.heap.size ≤ g := by
  have o0 : Only [] w (w.alloc (.cells #[.int .i64 x.f, .int .i64 x.l, .int .i64 x.m] 34)) := (Only.refl [] w).alloc _
  have bx := PBox.new w x
  have hb := h.lt
  obtain ⟨A, cap, rfl⟩ := hx.form
  have hn1 : ¬ (n ≤ (xs.length : Int)) := by omega
  have hn2 : decide (n ≤ (xs.length : Int)) = false := decide_eq_false hn1
  go_enter Try.func58, Try.ntmps58
  go_wp2_with fail
  generalize w.alloc (.cells #[.int .i64 x.f, .int .i64 x.l, .int .i64 x.m] 34) = W at *
  obtain ⟨_, c1, _, c3, _, _⟩ := (h.only0 o0).c
  have H := Lib.hid (And.intro h hx)
  clear h hx
  go_quiet (fail)
  have o1 : Only [] w (W.drewN nq) := o0.drewN nq
  have bx1 : PBox (W.drewN nq) w.heap.size x := bx
  generalize W.drewN nq = W1 at *
  clear c1 c3 bx o0
  have hW := H.out.1.only0 o1
  have hxW := H.out.2.only o1 (by simp)
  obtain ⟨_, _, _, c3, c4, c5⟩ := hW.c
  have fr4 := hW.fr 4
  have hne1 : ¬ (w.heap.size = b) := by omega
  have hne2 : ¬ (b = w.heap.size) := by omega
  -- what follows, from a world whose struct has the start s'
  have rest : ∀ V : World, RBlk V b id r n s' e (.slice A xs.length cap) → PRow V (.slice A xs.length cap) xs → PBox V w.heap.size x → Only [b] w V → w.heap.size < V.heap.size →
      V.cell? ⟨b, 3, none⟩ = some (.slice A xs.length cap) ∧ V.cell? ⟨w.heap.size, 0, none⟩ = some (.int .i64 x.f) ∧ V.cell? ⟨w.heap.size, 1, none⟩ = some (.int .i64 x.l) ∧ V.cell? ⟨w.heap.size, 2, none⟩ = some (.int .i64 x.m) ∧ (V.alloc (.cells #[.int .i64 x.f, .int .i64 x.l, .int .i64 x.m] 34)).cell? ⟨b, 3, none⟩ = some (.slice A xs.length cap) := fun V h1 h2 h3 _ _ => ⟨h1.c.2.2.2.1, h3.c.1, h3.c.2.1, h3.c.2.2, (h1.only0 ((Only.refl [] V).alloc _)).c.2.2.2.1⟩
  have hlt1 : w.heap.size < W1.heap.size := bx1.lt
  rcases xs with _ | ⟨y, ys⟩
  · rw [if_pos rfl] at hs'
    have m1 : max vt e = s' := hs'.symm
    have m2 : (if vt < e then e else vt) = s' := by rw [hs']; split <;> omega
    have m3 : (if e < vt then vt else e) = s' := by rw [hs']; split <;> omega
    have oS : Only [b] W1 (W1.setCell ⟨b, 4, none⟩ (.int .u64 s')) := (Only.refl [b] W1).setCell (by simp) _
    have hV : Hid (RBlk (W1.setCell ⟨b, 4, none⟩ (.int .u64 s')) b id r n s' e (.slice A ([] : List Pk).length cap) ∧ PRow (W1.setCell ⟨b, 4, none⟩ (.int .u64 s')) (.slice A ([] : List Pk).length cap) [] ∧ PBox (W1.setCell ⟨b, 4, none⟩ (.int .u64 s')) w.heap.size x ∧ Only [b] w (W1.setCell ⟨b, 4, none⟩ (.int .u64 s')) ∧ w.heap.size < (W1.setCell ⟨b, 4, none⟩ (.int .u64 s')).heap.size) :=
      ⟨hW.set4 s', hxW.only oS (fun g hg => by simpa using hW.ne hxW g hg), bx1.only oS (by simpa using hne1), (o1.mono (by simp)).trans' oS, by simpa [World.setCell] using hlt1⟩
    clear hs' hW hxW o1 bx1 oS hlt1
    go_wp2_with fail
    generalize W1.setCell ⟨b, 4, none⟩ (.int .u64 s') = V at *
    obtain ⟨d3, x0, x1, x2, d3a⟩ := rest V hV.out.1 hV.out.2.1 hV.out.2.2.1 hV.out.2.2.2.1 hV.out.2.2.2.2
    clear c3 c4 c5 fr4 m1 m2 m3 rest
    go_region_law
      (first
       | (refine step_append_pk Try.underlying48 rfl (.const (.slice none 0 0)) (.tmp 36) rfl (.slice none 0 0) [] (by simp [Act.eval, Act.put]) (PRow.nil _) A 0 cap ([] : List Pk) (by simp [Act.eval, Act.put]) rfl (by first | exact PSrc.of_row (hV.out.2.1.only (Only.refl [] V).drew (by simp)) | exact PSrc.of_row (hV.out.2.1.only (((Only.refl [] V).alloc _).drew) (by simp))) 0 (by simp) (by simp at hxl ⊢ <;> omega) ?_
          intro A1 cap1 w1 r1 g1 l1
          have q1 : Only [] V w1 := Only.grown (by first | exact (Only.refl [] V).drew | exact ((Only.refl [] V).alloc _).drew) g1 (by simp [Value.ownBlock])
          have v1 := fresh_nil (w2 := w1) (B := V.heap.size) l1 (by simp)
          have bx1 := hV.out.2.2.1.only q1 (by simp)
          obtain ⟨k0, k1, k2⟩ := bx1.c
          (try (have bs : PBox w1 V.heap.size x := PBox.only (w := (V.alloc (.cells #[.int .i64 x.f, .int .i64 x.l, .int .i64 x.m] 34)).drew) (S := []) (PBox.new V x) ((Only.refl [] _).grown g1 (by simp [Value.ownBlock])) (by simp)))
          have R1 := Lib.hid (And.intro r1 (And.intro q1 v1))
          clear r1 g1 l1 q1 v1 bx1)
       | (refine step_append_pk Try.underlying48 rfl (.tmp 37) (.tmp 39) rfl (.slice A1 0 cap1) ([] ++ ([] : List Pk)) (by simp [Act.eval, Act.put]) (by exact R1.out.1) (some ⟨V.heap.size, 0, none⟩) 1 1 [x] (by simp [Act.eval, Act.put]) rfl (by exact PSrc.box bs) (0 + 1) (by simp) (by simp at hxl ⊢ <;> omega) ?_
          intro A2 cap2 w2 r2 g2 l2
          have q2 : Only [] V w2 := R1.out.2.1.grown g2 (fun k hk => .inr (R1.out.2.2 k hk))
          have v2 : ∀ g, (Value.slice A2 (0 + 1) cap2).ownBlock = some g → V.heap.size ≤ g := fun g hg => by
            rcases l2 with e | e
            · rw [e] at hg; exact R1.out.2.2 g hg
            · rw [e] at hg; have := R1.out.2.1.size; simp at hg; omega
          have hb2 := hV.out.1.only0 q2
          have e3 := hb2.c.2.2.2.1
          have f3 := hb2.fr 3
          have R2 := Lib.hid (And.intro r2 (And.intro q2 (And.intro v2 hb2)))
          clear r2 g2 l2 q2 v2 hb2)
       | (refine step_append_pk Try.underlying48 rfl (.tmp 37) (.tmp 39) rfl (.slice A1 0 cap1) ([] ++ ([] : List Pk)) (by simp [Act.eval, Act.put]) (by exact R1.out.1.only ((Only.refl [] w1).alloc _) (by simp)) (some ⟨w1.heap.size, 0, none⟩) 1 1 [x] (by simp [Act.eval, Act.put]) rfl (by exact PSrc.box (PBox.new w1 x)) (0 + 1) (by simp) (by simp at hxl ⊢ <;> omega) ?_
          intro A2 cap2 w2 r2 g2 l2
          have q2 : Only [] V w2 := (R1.out.2.1.alloc _).grown g2 (fun k hk => .inr (R1.out.2.2 k hk))
          have v2 : ∀ g, (Value.slice A2 (0 + 1) cap2).ownBlock = some g → V.heap.size ≤ g := fun g hg => by
            rcases l2 with e | e
            · rw [e] at hg; exact R1.out.2.2 g hg
            · rw [e] at hg; have := R1.out.2.1.size; simp at hg; omega
          have hb2 := hV.out.1.only0 q2
          have e3 := hb2.c.2.2.2.1
          have f3 := hb2.fr 3
          have R2 := Lib.hid (And.intro r2 (And.intro q2 (And.intro v2 hb2)))
          clear r2 g2 l2 q2 v2 hb2))
    all_goals
      go_wp2_with fail
      go_ret
      obtain ⟨r2, q2, v2, hb2⟩ := R2.out
      refine ⟨rfl, _, hb2.set3 _, r2.only ((Only.refl [b] w2).setCell (by simp) _) (fun g hg => by simpa using hb2.ne r2 g hg), ((hV.out.2.2.2.1.trans q2 (by simp)).setCell (by simp) _), fun g hg => ?_⟩
      have := v2 g hg
      have := hV.out.2.2.2.2
      omega
  · rw [if_neg (by simp)] at hs'
    subst hs'
    obtain ⟨p1, p2, p3, p4⟩ := pos_len ys.length
    have hV : Hid (RBlk W1 b id r n s' e (.slice A (y :: ys).length cap) ∧ PRow W1 (.slice A (y :: ys).length cap) (y :: ys) ∧ PBox W1 w.heap.size x ∧ Only [b] w W1 ∧ w.heap.size < W1.heap.size) := ⟨hW, hxW, bx1, o1.mono (by simp), hlt1⟩
    clear hW hxW o1 bx1 hlt1
    go_wp2_with fail
    generalize W1 = V at *
    obtain ⟨d3, x0, x1, x2, d3a⟩ := rest V hV.out.1 hV.out.2.1 hV.out.2.2.1 hV.out.2.2.2.1 hV.out.2.2.2.2
    clear c3 c4 c5 fr4 rest
    go_region_law
      (first
       | (refine step_append_pk Try.underlying48 rfl (.const (.slice none 0 0)) (.tmp 36) rfl (.slice none 0 0) [] (by simp [Act.eval, Act.put]) (PRow.nil _) A (ys.length + 1) cap (y :: ys) (by simp [Act.eval, Act.put]) rfl (by first | exact PSrc.of_row (hV.out.2.1.only (Only.refl [] V).drew (by simp)) | exact PSrc.of_row (hV.out.2.1.only (((Only.refl [] V).alloc _).drew) (by simp))) (ys.length + 1) (by simp) (by simp at hxl ⊢ <;> omega) ?_
          intro A1 cap1 w1 r1 g1 l1
          have q1 : Only [] V w1 := Only.grown (by first | exact (Only.refl [] V).drew | exact ((Only.refl [] V).alloc _).drew) g1 (by simp [Value.ownBlock])
          have v1 := fresh_nil (w2 := w1) (B := V.heap.size) l1 (by simp)
          have bx1 := hV.out.2.2.1.only q1 (by simp)
          obtain ⟨k0, k1, k2⟩ := bx1.c
          (try (have bs : PBox w1 V.heap.size x := PBox.only (w := (V.alloc (.cells #[.int .i64 x.f, .int .i64 x.l, .int .i64 x.m] 34)).drew) (S := []) (PBox.new V x) ((Only.refl [] _).grown g1 (by simp [Value.ownBlock])) (by simp)))
          have R1 := Lib.hid (And.intro r1 (And.intro q1 v1))
          clear r1 g1 l1 q1 v1 bx1)
       | (refine step_append_pk Try.underlying48 rfl (.tmp 37) (.tmp 39) rfl (.slice A1 (ys.length + 1) cap1) ([] ++ (y :: ys)) (by simp [Act.eval, Act.put]) (by exact R1.out.1) (some ⟨V.heap.size, 0, none⟩) 1 1 [x] (by simp [Act.eval, Act.put]) rfl (by exact PSrc.box bs) ((ys.length + 1) + 1) (by simp) (by simp at hxl ⊢ <;> omega) ?_
          intro A2 cap2 w2 r2 g2 l2
          have q2 : Only [] V w2 := R1.out.2.1.grown g2 (fun k hk => .inr (R1.out.2.2 k hk))
          have v2 : ∀ g, (Value.slice A2 ((ys.length + 1) + 1) cap2).ownBlock = some g → V.heap.size ≤ g := fun g hg => by
            rcases l2 with e | e
            · rw [e] at hg; exact R1.out.2.2 g hg
            · rw [e] at hg; have := R1.out.2.1.size; simp at hg; omega
          have hb2 := hV.out.1.only0 q2
          have e3 := hb2.c.2.2.2.1
          have f3 := hb2.fr 3
          have R2 := Lib.hid (And.intro r2 (And.intro q2 (And.intro v2 hb2)))
          clear r2 g2 l2 q2 v2 hb2)
       | (refine step_append_pk Try.underlying48 rfl (.tmp 37) (.tmp 39) rfl (.slice A1 (ys.length + 1) cap1) ([] ++ (y :: ys)) (by simp [Act.eval, Act.put]) (by exact R1.out.1.only ((Only.refl [] w1).alloc _) (by simp)) (some ⟨w1.heap.size, 0, none⟩) 1 1 [x] (by simp [Act.eval, Act.put]) rfl (by exact PSrc.box (PBox.new w1 x)) ((ys.length + 1) + 1) (by simp) (by simp at hxl ⊢ <;> omega) ?_
          intro A2 cap2 w2 r2 g2 l2
          have q2 : Only [] V w2 := (R1.out.2.1.alloc _).grown g2 (fun k hk => .inr (R1.out.2.2 k hk))
          have v2 : ∀ g, (Value.slice A2 ((ys.length + 1) + 1) cap2).ownBlock = some g → V.heap.size ≤ g := fun g hg => by
            rcases l2 with e | e
            · rw [e] at hg; exact R1.out.2.2 g hg
            · rw [e] at hg; have := R1.out.2.1.size; simp at hg; omega
          have hb2 := hV.out.1.only0 q2
          have e3 := hb2.c.2.2.2.1
          have f3 := hb2.fr 3
          have R2 := Lib.hid (And.intro r2 (And.intro q2 (And.intro v2 hb2)))
          clear r2 g2 l2 q2 v2 hb2))
    all_goals
      go_wp2_with fail
      go_ret
      obtain ⟨r2, q2, v2, hb2⟩ := R2.out
      refine ⟨rfl, _, hb2.set3 _, r2.only ((Only.refl [b] w2).setCell (by simp) _) (fun g hg => by simpa using hb2.ne r2 g hg), ((hV.out.2.2.2.1.trans q2 (by simp)).setCell (by simp) _), fun g hg => ?_⟩
      have := v2 g hg
      have := hV.out.2.2.2.2
      omega
end Go.Proofs.Ytjmnklmomdfpfaa
