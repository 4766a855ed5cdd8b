/-
  What SfqFair's walk keeps: a scheduler alone beside four arrays of the walk's own; two flows that are never without packets, as numbers.
-/
import Derived.Test.YtjmnklmomdfpfaaSfqA
import Derived.Test.YtjmnklmomdfpfaaSfqK
namespace Go.Proofs.Ytjmnklmomdfpfaa
set_option maxRecDepth 100000
open Go.RowKit
set_option linter.unusedVariables false
set_option linter.unusedSimpArgs false
set_option maxRecDepth 100000

def ARow (w : World) (b : Nat) (x y : Int) : Prop := w.heap[b]? = some (.cells #[.int .i64 0, .int .i64 x, .int .i64 y] 55 (0, 0))
def URow (w : World) (b : Nat) (x y : Int) : Prop := w.heap[b]? = some (.cells #[.int .u64 0, .int .u64 x, .int .u64 y] 56 (0, 0))
section
variable {w w' : World} {b : Nat} {x y : Int}
theorem ARow.c (h : ARow w b x y) : w.cell? ⟨b, 1, none⟩ = some (.int .i64 x) ∧ w.cell? ⟨b, 2, none⟩ = some (.int .i64 y) ∧ w.frozen? ⟨b, 1, none⟩ = false ∧ w.frozen? ⟨b, 2, none⟩ = false :=
  ⟨by rw [cell_of_row w b 1 _ _ _ h]; rfl, by rw [cell_of_row w b 2 _ _ _ h]; rfl, frozen_of_row w b 1 _ _ h, frozen_of_row w b 2 _ _ h⟩
theorem URow.c (h : URow w b x y) : w.cell? ⟨b, 1, none⟩ = some (.int .u64 x) ∧ w.cell? ⟨b, 2, none⟩ = some (.int .u64 y) ∧ w.frozen? ⟨b, 1, none⟩ = false ∧ w.frozen? ⟨b, 2, none⟩ = false :=
  ⟨by rw [cell_of_row w b 1 _ _ _ h]; rfl, by rw [cell_of_row w b 2 _ _ _ h]; rfl, frozen_of_row w b 1 _ _ h, frozen_of_row w b 2 _ _ h⟩
theorem ARow.lt (h : ARow w b x y) : b < w.heap.size := (Array.getElem?_eq_some_iff.1 h).1
theorem URow.lt (h : URow w b x y) : b < w.heap.size := (Array.getElem?_eq_some_iff.1 h).1
theorem ARow.only {S : List Nat} (h : ARow w b x y) (ho : Only S w w') (hS : b ∉ S) : ARow w' b x y := ho.get h hS
theorem URow.only {S : List Nat} (h : URow w b x y) (ho : Only S w w') (hS : b ∉ S) : URow w' b x y := ho.get h hS
theorem ARow.set1 (h : ARow w b x y) (z : Int) : ARow (w.setCell ⟨b, 1, none⟩ (.int .i64 z)) b z y := by
  have := heap_setCell_same w b 1 _ _ (.int .i64 z) h
  simpa [ARow] using this
theorem ARow.set2 (h : ARow w b x y) (z : Int) : ARow (w.setCell ⟨b, 2, none⟩ (.int .i64 z)) b x z := by
  have := heap_setCell_same w b 2 _ _ (.int .i64 z) h
  simpa [ARow] using this
theorem URow.set1 (h : URow w b x y) (z : Int) : URow (w.setCell ⟨b, 1, none⟩ (.int .u64 z)) b z y := by
  have := heap_setCell_same w b 1 _ _ (.int .u64 z) h
  simpa [URow] using this
theorem URow.set2 (h : URow w b x y) (z : Int) : URow (w.setCell ⟨b, 2, none⟩ (.int .u64 z)) b x z := by
  have := heap_setCell_same w b 2 _ _ (.int .u64 z) h
  simpa [URow] using this
end
/-- A scheduler beside four arrays: next, cost, dear, rate. -/
structure Fa (w0 wr : World) (b : Nat) (S : Sq) (O : List Nat) (nb : Nat) (N1 N2 C1 C2 D1 D2 r q : Int) : Prop where
  one : Q1 w0 wr b S O
  n : ARow wr nb N1 N2
  c : URow wr (nb + 1) C1 C2
  d : URow wr (nb + 1 + 1) D1 D2
  rt : URow wr (nb + 1 + 1 + 1) r q
  new : w0.heap.size ≤ nb
  out : ∀ k, nb ≤ k → k ≤ nb + 3 → k ∉ O
section
variable {w0 wr w' : World} {b nb : Nat} {S S' : Sq} {O : List Nat} {N1 N2 C1 C2 D1 D2 r q : Int}
theorem Fa.only0 (h : Fa w0 wr b S O nb N1 N2 C1 C2 D1 D2 r q) (ho : Only [] wr w') : Fa w0 w' b S O nb N1 N2 C1 C2 D1 D2 r q :=
  ⟨h.one.only0 ho, h.n.only ho (by simp), h.c.only ho (by simp), h.d.only ho (by simp), h.rt.only ho (by simp), h.new, h.out⟩
theorem Fa.turn (h : Fa w0 wr b S O nb N1 N2 C1 C2 D1 D2 r q) (t : STo wr b O S' w') : ∃ O', Fa w0 w' b S' O' nb N1 N2 C1 C2 D1 D2 r q := by
  obtain ⟨O', h1, hw⟩ := t
  have hlt := h.rt.lt
  refine ⟨O', ⟨h1, fun k hk => (hw.2 k hk).elim (h.one.new k) (fun h3 => Nat.le_trans h.one.only.size h3), h.one.only.trans hw.1 (fun k hk => .inr (h.one.new k hk))⟩, h.n.only hw.1 (h.out _ (by omega) (by omega)), h.c.only hw.1 (h.out _ (by omega) (by omega)), h.d.only hw.1 (h.out _ (by omega) (by omega)), h.rt.only hw.1 (h.out _ (by omega) (by omega)), h.new, fun k h2 h3 hk => ?_⟩
  rcases hw.2 k hk with h4 | h4
  · exact h.out k h2 h3 h4
  · omega
theorem Fa.arr (h : Fa w0 wr b S O nb N1 N2 C1 C2 D1 D2 r q) (x : Pk) (hx : x.ok) : Calls Try.prog 22 #[.pointer (some ⟨b, 0, none⟩), .agg #[.int .i64 x.f, .int .i64 x.l, .int .i64 x.m]] wr fun e w' => e = .returned (.int .i64 (S.arrE x)) ∧ ∃ O', Fa w0 w' b (S.arr x) O' nb N1 N2 C1 C2 D1 D2 r q :=
  (sArrive wr b S O h.one.of_ x hx).mono fun e w' t => ⟨t.1, h.turn t.2⟩
theorem Fa.srv (h : Fa w0 wr b S O nb N1 N2 C1 C2 D1 D2 r q) : Calls Try.prog 19 #[.pointer (some ⟨b, 0, none⟩)] wr fun e w' => e = .returned (.tuple #[.agg #[.int .i64 S.hd.f, .int .i64 S.hd.l, .int .i64 S.hd.m], .bool S.any]) ∧ ∃ O', Fa w0 w' b S.srv O' nb N1 N2 C1 C2 D1 D2 r q :=
  (sServe wr b S O h.one.of_).mono fun e w' t => ⟨t.1, h.turn t.2⟩
theorem Fa.one1 (h : Fa w0 wr b S O nb N1 N2 C1 C2 D1 D2 r q) {k : Nat} (h1 : nb ≤ k) (h2 : k ≤ nb + 3) (ho : Only [k] wr w') : Q1 w0 w' b S O :=
  ⟨h.one.of_.only ho (fun j hj e => h.out k h1 h2 (by simp at e; exact e ▸ hj)), h.one.new, h.one.only.trans ho (fun j hj => .inr (by simp at hj; have := h.new; omega))⟩
theorem Fa.setn1 (h : Fa w0 wr b S O nb N1 N2 C1 C2 D1 D2 r q) (z : Int) : Fa w0 (wr.setCell ⟨nb, 1, none⟩ (.int .i64 z)) b S O nb z N2 C1 C2 D1 D2 r q := by
  have ho : Only [nb] wr (wr.setCell ⟨nb, 1, none⟩ (.int .i64 z)) := (Only.refl [nb] wr).setCell (by simp) _
  exact ⟨h.one1 (by omega) (by omega) ho, h.n.set1 z, h.c.only ho (by rw [List.mem_singleton]; omega), h.d.only ho (by rw [List.mem_singleton]; omega), h.rt.only ho (by rw [List.mem_singleton]; omega), h.new, h.out⟩
theorem Fa.setn2 (h : Fa w0 wr b S O nb N1 N2 C1 C2 D1 D2 r q) (z : Int) : Fa w0 (wr.setCell ⟨nb, 2, none⟩ (.int .i64 z)) b S O nb N1 z C1 C2 D1 D2 r q := by
  have ho : Only [nb] wr (wr.setCell ⟨nb, 2, none⟩ (.int .i64 z)) := (Only.refl [nb] wr).setCell (by simp) _
  exact ⟨h.one1 (by omega) (by omega) ho, h.n.set2 z, h.c.only ho (by rw [List.mem_singleton]; omega), h.d.only ho (by rw [List.mem_singleton]; omega), h.rt.only ho (by rw [List.mem_singleton]; omega), h.new, h.out⟩
theorem Fa.setc1 (h : Fa w0 wr b S O nb N1 N2 C1 C2 D1 D2 r q) (z : Int) : Fa w0 (wr.setCell ⟨nb + 1, 1, none⟩ (.int .u64 z)) b S O nb N1 N2 z C2 D1 D2 r q := by
  have ho : Only [nb + 1] wr (wr.setCell ⟨nb + 1, 1, none⟩ (.int .u64 z)) := (Only.refl [nb + 1] wr).setCell (by simp) _
  exact ⟨h.one1 (by omega) (by omega) ho, h.n.only ho (by rw [List.mem_singleton]; omega), h.c.set1 z, h.d.only ho (by rw [List.mem_singleton]; omega), h.rt.only ho (by rw [List.mem_singleton]; omega), h.new, h.out⟩
theorem Fa.setc2 (h : Fa w0 wr b S O nb N1 N2 C1 C2 D1 D2 r q) (z : Int) : Fa w0 (wr.setCell ⟨nb + 1, 2, none⟩ (.int .u64 z)) b S O nb N1 N2 C1 z D1 D2 r q := by
  have ho : Only [nb + 1] wr (wr.setCell ⟨nb + 1, 2, none⟩ (.int .u64 z)) := (Only.refl [nb + 1] wr).setCell (by simp) _
  exact ⟨h.one1 (by omega) (by omega) ho, h.n.only ho (by rw [List.mem_singleton]; omega), h.c.set2 z, h.d.only ho (by rw [List.mem_singleton]; omega), h.rt.only ho (by rw [List.mem_singleton]; omega), h.new, h.out⟩
theorem Fa.setd1 (h : Fa w0 wr b S O nb N1 N2 C1 C2 D1 D2 r q) (z : Int) : Fa w0 (wr.setCell ⟨nb + 1 + 1, 1, none⟩ (.int .u64 z)) b S O nb N1 N2 C1 C2 z D2 r q := by
  have ho : Only [nb + 1 + 1] wr (wr.setCell ⟨nb + 1 + 1, 1, none⟩ (.int .u64 z)) := (Only.refl [nb + 1 + 1] wr).setCell (by simp) _
  exact ⟨h.one1 (by omega) (by omega) ho, h.n.only ho (by rw [List.mem_singleton]; omega), h.c.only ho (by rw [List.mem_singleton]; omega), h.d.set1 z, h.rt.only ho (by rw [List.mem_singleton]; omega), h.new, h.out⟩
theorem Fa.setd2 (h : Fa w0 wr b S O nb N1 N2 C1 C2 D1 D2 r q) (z : Int) : Fa w0 (wr.setCell ⟨nb + 1 + 1, 2, none⟩ (.int .u64 z)) b S O nb N1 N2 C1 C2 D1 z r q := by
  have ho : Only [nb + 1 + 1] wr (wr.setCell ⟨nb + 1 + 1, 2, none⟩ (.int .u64 z)) := (Only.refl [nb + 1 + 1] wr).setCell (by simp) _
  exact ⟨h.one1 (by omega) (by omega) ho, h.n.only ho (by rw [List.mem_singleton]; omega), h.c.only ho (by rw [List.mem_singleton]; omega), h.d.set2 z, h.rt.only ho (by rw [List.mem_singleton]; omega), h.new, h.out⟩
theorem alloc_size (w : World) (o : Obj) : (w.alloc o).heap.size = w.heap.size + 1 := by simp only [World.alloc, Array.size_push]
theorem Fa.start (h : Q1 w0 wr b S O) : Fa w0 ((((wr.alloc (.cells #[.int .i64 0, .int .i64 0, .int .i64 0] 55)).alloc (.cells #[.int .u64 0, .int .u64 0, .int .u64 0] 56)).alloc (.cells #[.int .u64 0, .int .u64 0, .int .u64 0] 56)).alloc (.cells #[.int .u64 0, .int .u64 r, .int .u64 q] 56)) b S O wr.heap.size 0 0 0 0 0 0 r q := by
  have n0 : ARow (wr.alloc (.cells #[.int .i64 0, .int .i64 0, .int .i64 0] 55)) wr.heap.size 0 0 := heap_alloc_new wr _
  have o1 : Only [] wr (wr.alloc (.cells #[.int .i64 0, .int .i64 0, .int .i64 0] 55)) := (Only.refl [] wr).alloc _
  have s1 : (wr.alloc (.cells #[.int .i64 0, .int .i64 0, .int .i64 0] 55)).heap.size = wr.heap.size + 1 := alloc_size _ _
  generalize wr.alloc (.cells #[.int .i64 0, .int .i64 0, .int .i64 0] 55) = w1 at *
  have c0 : URow (w1.alloc (.cells #[.int .u64 0, .int .u64 0, .int .u64 0] 56)) w1.heap.size 0 0 := heap_alloc_new w1 _
  have o2 : Only [] w1 (w1.alloc (.cells #[.int .u64 0, .int .u64 0, .int .u64 0] 56)) := (Only.refl [] w1).alloc _
  have s2 : (w1.alloc (.cells #[.int .u64 0, .int .u64 0, .int .u64 0] 56)).heap.size = w1.heap.size + 1 := alloc_size _ _
  generalize w1.alloc (.cells #[.int .u64 0, .int .u64 0, .int .u64 0] 56) = w2 at *
  have d0 : URow (w2.alloc (.cells #[.int .u64 0, .int .u64 0, .int .u64 0] 56)) w2.heap.size 0 0 := heap_alloc_new w2 _
  have o3 : Only [] w2 (w2.alloc (.cells #[.int .u64 0, .int .u64 0, .int .u64 0] 56)) := (Only.refl [] w2).alloc _
  have s3 : (w2.alloc (.cells #[.int .u64 0, .int .u64 0, .int .u64 0] 56)).heap.size = w2.heap.size + 1 := alloc_size _ _
  generalize w2.alloc (.cells #[.int .u64 0, .int .u64 0, .int .u64 0] 56) = w3 at *
  have r0 : URow (w3.alloc (.cells #[.int .u64 0, .int .u64 r, .int .u64 q] 56)) w3.heap.size r q := heap_alloc_new w3 _
  have o4 : Only [] w3 (w3.alloc (.cells #[.int .u64 0, .int .u64 r, .int .u64 q] 56)) := (Only.refl [] w3).alloc _
  generalize w3.alloc (.cells #[.int .u64 0, .int .u64 r, .int .u64 q] 56) = w4 at *
  have e1 : w1.heap.size = wr.heap.size + 1 := s1
  have e2 : w2.heap.size = wr.heap.size + 1 + 1 := by rw [s2, e1]
  have e3 : w3.heap.size = wr.heap.size + 1 + 1 + 1 := by rw [s3, e2]
  rw [e1] at c0
  rw [e2] at d0
  rw [e3] at r0
  refine ⟨h.only0 (((o1.trans' o2).trans' o3).trans' o4), n0.only ((o2.trans' o3).trans' o4) (by simp), c0.only (o3.trans' o4) (by simp), d0.only o4 (by simp), r0, h.only.size, fun k h1 _ hk => ?_⟩
  have := h.of_.lt k hk
  omega
end

/-! ### two flows that are never without packets -/
theorem costM_is {sz r : Int} (h1 : 1 ≤ sz) (h2 : sz ≤ 3000) (h3 : 1 ≤ r) (h4 : r ≤ 100000) : costM sz r = sz * r ∧ 0 ≤ sz * r ∧ sz * r ≤ 300000000 := by
  have h5 : sz * r ≤ 3000 * 100000 := mul_le (by omega) h2 (by omega) h4
  have h6 : 0 ≤ sz * r := Int.mul_nonneg (by omega) (by omega)
  refine ⟨?_, h6, by omega⟩
  have hz : sizeM sz = sz := by unfold sizeM; rw [if_neg (by omega)]
  unfold costM mulM
  rw [hz, if_pos (by omega)]
structure Gf (F : Fl) (id r C D v M : Int) : Prop where
  hr : F.r = r
  hn : F.n = 2
  rb : 1 ≤ r ∧ r ≤ 100000
  len : F.l.length ≤ 2
  pk : ∀ x ∈ F.l, x.f = id ∧ 1 ≤ x.l ∧ x.l ≤ 3000 ∧ x.l * r ≤ D
  c : 0 ≤ C ∧ C ≤ M
  d : 0 ≤ D ∧ D ≤ 300000000
  s : F.l ≠ [] → F.s = C
  e : F.l = [] → C = 0 ∧ F.e = 0 ∧ v = 0
theorem Gf.mono {F : Fl} {id r C D v M M' : Int} (h : Gf F id r C D v M) (hM : M ≤ M') : Gf F id r C D v M' := ⟨h.hr, h.hn, h.rb, h.len, h.pk, ⟨h.c.1, by have := h.c.2; omega⟩, h.d, h.s, h.e⟩
theorem Gf.arr {F : Fl} {id r C D v M : Int} (h : Gf F id r C D v M) {n : Int} (h1 : 1 ≤ n) (h2 : n ≤ 3000) : (F.takes = true ∧ (F.arr v ⟨id, n, 0⟩).l.length = F.l.length + 1 ∧ Gf (F.arr v ⟨id, n, 0⟩) id r C (max D (n * r)) v M) ∨ (F.takes = false ∧ F.l.length = 2 ∧ F.arr v ⟨id, n, 0⟩ = F) := by
  by_cases ht : F.l.length = F.n
  · refine .inr ⟨by unfold Fl.takes; simp [ht], by rw [ht, h.hn], by unfold Fl.arr; rw [if_pos ht]⟩
  · have hF : F.arr v ⟨id, n, 0⟩ = ⟨F.r, F.n, if F.l = [] then max v F.e else F.s, F.e, F.l ++ [⟨id, n, 0⟩]⟩ := by unfold Fl.arr; rw [if_neg ht]
    obtain ⟨_, c2, c3⟩ := costM_is h1 h2 h.rb.1 h.rb.2
    refine .inl ⟨by unfold Fl.takes; simp [ht], by rw [hF]; simp, ?_⟩
    rw [hF]
    have hn := h.hn
    have hl := h.len
    refine ⟨h.hr, h.hn, h.rb, ?_, ?_, h.c, ⟨by have := h.d.1; omega, by have := h.d.2; omega⟩, fun _ => ?_, fun he => by simp at he⟩
    · simp
      omega
    · intro x hx
      rcases List.mem_append.1 hx with hx | hx
      · obtain ⟨y1, y2, y3, y4⟩ := h.pk x hx
        exact ⟨y1, y2, y3, by omega⟩
      · simp at hx
        subst hx
        exact ⟨rfl, h1, h2, by show n * r ≤ _; omega⟩
    · show (if F.l = [] then max v F.e else F.s) = C
      split
      · rename_i he
        obtain ⟨y1, y2, y3⟩ := h.e he
        rw [y1, y2, y3]; rfl
      · rename_i he
        exact h.s he
/-- The one that is served. -/
theorem Gf.srv {F : Fl} {id r C D v M : Int} (h : Gf F id r C D v M) (h2 : F.l.length = 2) (hM : M ≤ 18000000000) (v' : Int) : ∃ K : Int, costM F.hd.l r = K ∧ 0 ≤ K ∧ K ≤ D ∧ K ≤ 300000000 ∧ F.hd.f = id ∧ Gf F.srv id r (C + K) D v' (M + 300000000) := by
  obtain ⟨a, t, hl⟩ : ∃ a t, F.l = a :: t := by
    rcases hl : F.l with _ | ⟨a, t⟩
    · rw [hl] at h2; cases h2
    · exact ⟨a, t, rfl⟩
  have ht : t.length = 1 := by rw [hl] at h2; simpa using h2
  have hne : F.l ≠ [] := by rw [hl]; simp
  obtain ⟨y1, y2, y3, y4⟩ := h.pk a (by rw [hl]; simp)
  obtain ⟨c1, c2, c3⟩ := costM_is y2 y3 h.rb.1 h.rb.2
  have hhd : F.hd = a := by unfold Fl.hd; rw [hl]; rfl
  have hfin : F.fin = C + a.l * r := by
    unfold Fl.fin
    rw [hhd, h.hr, c1, h.s hne]
    unfold addM
    rw [if_pos (by have := h.c; omega)]
  have hs : F.srv = ⟨F.r, F.n, C + a.l * r, C + a.l * r, t⟩ := by unfold Fl.srv; rw [if_neg hne, hfin, hl]; rfl
  refine ⟨a.l * r, by rw [hhd]; exact c1, c2, y4, c3, by rw [hhd]; exact y1, ?_⟩
  rw [hs]
  refine ⟨h.hr, h.hn, h.rb, by show t.length ≤ 2; omega, fun x hx => h.pk x (by rw [hl]; exact List.mem_cons_of_mem _ hx), ⟨by have := h.c; omega, by have := h.c; omega⟩, h.d, fun _ => rfl, fun he => ?_⟩
  have : t = [] := he
  rw [this] at ht; cases ht
structure Sf (S : Sq) (F1 F2 F3 : Fl) (r q C1 C2 D1 D2 M : Int) : Prop where
  l : S.l = [(1, F1), (2, F2), (3, F3)]
  g1 : Gf F1 1 r C1 D1 S.v M
  g2 : Gf F2 2 q C2 D2 S.v M
  f3 : ∀ x ∈ F3.l, x.f = 3
  d1 : C1 ≤ C2 + D1 + D2
  d2 : C2 ≤ C1 + D1 + D2
section
variable {S : Sq} {F1 F2 F3 : Fl} {r q C1 C2 D1 D2 M : Int}
theorem Sf.mono (h : Sf S F1 F2 F3 r q C1 C2 D1 D2 M) {M' : Int} (hM : M ≤ M') : Sf S F1 F2 F3 r q C1 C2 D1 D2 M' := ⟨h.l, h.g1.mono hM, h.g2.mono hM, h.f3, h.d1, h.d2⟩
theorem Sf.arr1 (h : Sf S F1 F2 F3 r q C1 C2 D1 D2 M) {n : Int} (h1 : 1 ≤ n) (h2 : n ≤ 3000) : (S.arrE ⟨1, n, 0⟩ = 0 ∧ ∃ F, F.l.length = F1.l.length + 1 ∧ Sf (S.arr ⟨1, n, 0⟩) F F2 F3 r q C1 C2 (max D1 (n * r)) D2 M) ∨ (S.arrE ⟨1, n, 0⟩ ≠ 0 ∧ F1.l.length = 2 ∧ Sf (S.arr ⟨1, n, 0⟩) F1 F2 F3 r q C1 C2 D1 D2 M) := by
  have hE : S.arrE ⟨1, n, 0⟩ = if F1.takes then 0 else 9 := by unfold Sq.arrE; rw [h.l]; simp [hasK, getK]
  have hl : (S.arr ⟨1, n, 0⟩).l = [(1, F1.arr S.v ⟨1, n, 0⟩), (2, F2), (3, F3)] := by unfold Sq.arr; rw [h.l]; simp [updK]
  have a1 := h.d1
  have a2 := h.d2
  rcases h.g1.arr h1 h2 with ⟨ht, hn, hG⟩ | ⟨ht, hn, hG⟩
  · exact .inl ⟨by rw [hE, ht]; rfl, _, hn, hl, hG, h.g2, h.f3, by omega, by omega⟩
  · refine .inr ⟨by rw [hE, ht]; simp, hn, ?_, h.g1, h.g2, h.f3, a1, a2⟩
    rw [hl, hG]
theorem Sf.arr2 (h : Sf S F1 F2 F3 r q C1 C2 D1 D2 M) {n : Int} (h1 : 1 ≤ n) (h2 : n ≤ 3000) : (S.arrE ⟨2, n, 0⟩ = 0 ∧ ∃ F, F.l.length = F2.l.length + 1 ∧ Sf (S.arr ⟨2, n, 0⟩) F1 F F3 r q C1 C2 D1 (max D2 (n * q)) M) ∨ (S.arrE ⟨2, n, 0⟩ ≠ 0 ∧ F2.l.length = 2 ∧ Sf (S.arr ⟨2, n, 0⟩) F1 F2 F3 r q C1 C2 D1 D2 M) := by
  have hE : S.arrE ⟨2, n, 0⟩ = if F2.takes then 0 else 9 := by unfold Sq.arrE; rw [h.l]; simp [hasK, getK]
  have hl : (S.arr ⟨2, n, 0⟩).l = [(1, F1), (2, F2.arr S.v ⟨2, n, 0⟩), (3, F3)] := by unfold Sq.arr; rw [h.l]; simp [updK]
  have a1 := h.d1
  have a2 := h.d2
  rcases h.g2.arr h1 h2 with ⟨ht, hn, hG⟩ | ⟨ht, hn, hG⟩
  · exact .inl ⟨by rw [hE, ht]; rfl, _, hn, hl, h.g1, hG, h.f3, by omega, by omega⟩
  · refine .inr ⟨by rw [hE, ht]; simp, hn, ?_, h.g1, h.g2, h.f3, a1, a2⟩
    rw [hl, hG]
theorem Sf.arr3 (h : Sf S F1 F2 F3 r q C1 C2 D1 D2 M) (n : Int) : ∃ F, Sf (S.arr ⟨3, n, 0⟩) F1 F2 F r q C1 C2 D1 D2 M := by
  have hl : (S.arr ⟨3, n, 0⟩).l = [(1, F1), (2, F2), (3, F3.arr S.v ⟨3, n, 0⟩)] := by unfold Sq.arr; rw [h.l]; simp [updK]
  refine ⟨_, hl, h.g1, h.g2, fun x hx => ?_, h.d1, h.d2⟩
  unfold Fl.arr at hx
  split at hx
  · exact h.f3 x hx
  · rcases List.mem_append.1 hx with hx | hx
    · exact h.f3 x hx
    · simp at hx; rw [hx]
/-- What a Serve does to the two. -/
def Went2 (S : Sq) (r q C1 C2 E1 E2 : Int) : Prop := (S.hd.f = 1 ∧ E1 = C1 + costM S.hd.l r ∧ E2 = C2) ∨ (S.hd.f = 2 ∧ E1 = C1 ∧ E2 = C2 + costM S.hd.l q) ∨ (S.hd.f = 3 ∧ E1 = C1 ∧ E2 = C2)
theorem Sf.srv (h : Sf S F1 F2 F3 r q C1 C2 D1 D2 M) (hok : S.ok) (l1 : F1.l.length = 2) (l2 : F2.l.length = 2) (hM : M ≤ 18000000000) : S.any = true ∧ ∃ (E1 E2 : Int) (G1 G2 G3 : Fl), Went2 S r q C1 C2 E1 E2 ∧ Sf S.srv G1 G2 G3 r q E1 E2 D1 D2 (M + 300000000) := by
  have n1 : F1.l ≠ [] := by intro e; rw [e] at l1; cases l1
  have n2 : F2.l ≠ [] := by intro e; rw [e] at l2; cases l2
  have m1 : itemK (1, F1) ∈ startsK S.l := (startsK_perm S.l).symm.subset (itemsK_mem.2 ⟨(1, F1), by rw [h.l]; simp, (any_iff _).2 n1, rfl⟩)
  have m2 : itemK (2, F2) ∈ startsK S.l := (startsK_perm S.l).symm.subset (itemsK_mem.2 ⟨(2, F2), by rw [h.l]; simp, (any_iff _).2 n2, rfl⟩)
  have a1 := h.d1
  have a2 := h.d2
  have b1 := h.g1.d
  have b2 := h.g2.d
  rcases hs : startsK S.l with _ | ⟨y, t⟩
  · rw [hs] at m1; cases m1
  · have hle : ∀ z ∈ startsK S.l, y.k ≤ z.k := fun z hz => by
      have hr := startsK_rises hok.srt
      rw [hs] at hz hr
      rcases List.mem_cons.1 hz with e | hz
      · rw [e]; exact Int.le_refl _
      · have := (List.pairwise_cons.1 hr).1 _ hz
        rw [It.lt_iff] at this
        omega
    obtain ⟨i, F, hi, ha, hk, hF, _⟩ := hok.starts (x := y) (by rw [hs]; simp)
    have hhd : S.hd = F.hd := by
      unfold Sq.hd
      rw [hs]
      show (getK S.l y.i).hd = _
      rw [getK_is hok.srt hi]
    have hv : S.srv = ⟨y.k, max S.m F.fin, updK S.l y.i Fl.srv⟩ := by
      unfold Sq.srv
      rw [hs]
      show (⟨y.k, max S.m (getK S.l y.i).fin, updK S.l y.i Fl.srv⟩ : Sq) = _
      rw [getK_is hok.srt hi]
    have hm := List.mem_of_getElem? hi
    rw [h.l] at hm
    have k1 := hle _ m1
    have k2 := hle _ m2
    simp only [itemK] at k1 k2
    rw [h.g1.s n1] at k1
    rw [h.g2.s n2] at k2
    have gm1 : Gf F1 1 r C1 D1 y.k (M + 300000000) := ⟨h.g1.hr, h.g1.hn, h.g1.rb, h.g1.len, h.g1.pk, ⟨h.g1.c.1, by have := h.g1.c.2; omega⟩, h.g1.d, h.g1.s, fun e => absurd e n1⟩
    have gm2 : Gf F2 2 q C2 D2 y.k (M + 300000000) := ⟨h.g2.hr, h.g2.hn, h.g2.rb, h.g2.len, h.g2.pk, ⟨h.g2.c.1, by have := h.g2.c.2; omega⟩, h.g2.d, h.g2.s, fun e => absurd e n2⟩
    refine ⟨by unfold Sq.any; rw [hs]; rfl, ?_⟩
    simp only [List.mem_cons, Prod.mk.injEq, List.not_mem_nil, or_false] at hm
    rcases hm with ⟨e1, rfl⟩ | ⟨e1, rfl⟩ | ⟨e1, rfl⟩
    · obtain ⟨K, c1, c2, c3, c4, c5, c6⟩ := h.g1.srv l1 hM y.k
      have hks : y.k = C1 := by rw [hk, h.g1.s n1]
      refine ⟨C1 + K, C2, F.srv, F2, F3, .inl ⟨by rw [hhd]; exact c5, by rw [hhd, c1], rfl⟩, ?_⟩
      rw [hv, e1]
      exact ⟨by show updK S.l 1 Fl.srv = _; rw [h.l]; simp [updK], c6, gm2, h.f3, by omega, by omega⟩
    · obtain ⟨K, c1, c2, c3, c4, c5, c6⟩ := h.g2.srv l2 hM y.k
      have hks : y.k = C2 := by rw [hk, h.g2.s n2]
      refine ⟨C1, C2 + K, F1, F.srv, F3, .inr (.inl ⟨by rw [hhd]; exact c5, rfl, by rw [hhd, c1]⟩), ?_⟩
      rw [hv, e1]
      exact ⟨by show updK S.l 2 Fl.srv = _; rw [h.l]; simp [updK], gm1, c6, h.f3, by omega, by omega⟩
    · have hne : F.l ≠ [] := (any_iff _).1 ha
      obtain ⟨a, t', hl⟩ : ∃ a t', F.l = a :: t' := by
        rcases hl : F.l with _ | ⟨a, t'⟩
        · exact absurd hl hne
        · exact ⟨a, t', rfl⟩
      have h3 : F.hd.f = 3 := h.f3 _ (by unfold Fl.hd; rw [hl]; simp)
      refine ⟨C1, C2, F1, F2, F.srv, .inr (.inr ⟨by rw [hhd]; exact h3, rfl, rfl⟩), ?_⟩
      rw [hv, e1]
      refine ⟨by show updK S.l 3 Fl.srv = _; rw [h.l]; simp [updK], gm1, gm2, fun x hx => h.f3 x ?_, a1, a2⟩
      unfold Fl.srv at hx
      rw [if_neg hne] at hx
      exact List.mem_of_mem_tail hx
end
theorem Sf.start {r q r3 : Int} (h1 : 1 ≤ r ∧ r ≤ 100000) (h2 : 1 ≤ q ∧ q ≤ 100000) : Sf (((Sq.new.add 1 r (room 2)).add 2 q (room 2)).add 3 r3 (room 8)) (Fl.new r 2) (Fl.new q 2) (Fl.new r3 8) r q 0 0 0 0 0 := by
  have e2 : room 2 = 2 := by decide
  have e8 : room 8 = 8 := by decide
  rw [e2, e8]
  have g : ∀ (id r : Int), 1 ≤ r ∧ r ≤ 100000 → Gf (Fl.new r 2) id r 0 0 0 0 := fun id r h => ⟨rfl, rfl, h, by simp [Fl.new], by simp [Fl.new], by omega, by omega, fun e => absurd rfl e, fun _ => ⟨rfl, rfl, rfl⟩⟩
  have hv : (((Sq.new.add 1 r 2).add 2 q 2).add 3 r3 8).v = 0 := by simp [Sq.add, Sq.new, hasK, insK, posK]
  refine ⟨by simp [Sq.add, Sq.new, hasK, insK, posK], by rw [hv]; exact g _ _ h1, by rw [hv]; exact g _ _ h2, by simp [Fl.new], by omega, by omega⟩
end Go.Proofs.Ytjmnklmomdfpfaa
