/-
  A batch under way, ours and the document's.
-/
import Derived.Test.YtklolepmmabijaaMdU
namespace Go.Proofs.Ytklolepmmabijaa
set_option maxRecDepth 100000
open Go.RowKit
set_option linter.unusedVariables false
set_option linter.unusedSimpArgs false
set_option maxRecDepth 100000

/-- A batch under way: the answer's block nr, what is gathered (na), another block that is kept (N), the model, the row of packets. -/
structure Bt (R : World → List Nat → Prop) (X : World → Prop) (w W0 : World) (N nr na : Nat) (O : List Nat) (e : Int) (v : Value) (ps : List Pk) (O' : List Nat) (wr : World) : Prop where
  rep : RepO R
  xk : ∀ {U V : World} {T : List Nat}, X U → Only T U V → N ∉ T → X V
  o0 : Only [] w W0
  lN : w.heap.size ≤ N ∧ N < W0.heap.size
  lr : w.heap.size ≤ nr ∧ nr < W0.heap.size
  la : w.heap.size ≤ na ∧ na < W0.heap.size
  dN : N ≠ na
  dr : nr ≠ na
  hO : ∀ k ∈ O, k < w.heap.size
  x : X wr
  ret : RBox wr nr 0 (.slice none 0 0) 0 0
  all : RBox wr na e v 0 0
  md : R wr O'
  wt : Only O w wr
  sep : ∀ k ∈ O', k ∈ O ∨ W0.heap.size ≤ k
  sz : W0.heap.size ≤ wr.heap.size
  row : PRow wr v ps
  new : ∀ g, v.ownBlock = some g → W0.heap.size ≤ g ∧ g ∉ O'
section
variable {R R2 : World → List Nat → Prop} {X : World → Prop} {w W0 wr W U : World} {N nr na : Nat} {O O' : List Nat} {e e' : Int} {v v' v1 : Value} {ps qs ps1 : List Pk}
theorem Bt.out (h : Bt R X w W0 N nr na O e v ps O' wr) {k : Nat} (h1 : w.heap.size ≤ k) (h2 : k < W0.heap.size) : k ∉ O' := fun hk => by
  rcases h.sep k hk with h3 | h3
  · have := h.hO k h3; omega
  · omega
theorem Bt.on (h : Bt R X w W0 N nr na O e v ps O' wr) (ho : Only [] wr U) : Bt R X w W0 N nr na O e v ps O' U :=
  ⟨h.rep, h.xk, h.o0, h.lN, h.lr, h.la, h.dN, h.dr, h.hO, h.xk h.x ho (by simp), h.ret.only0 ho, h.all.only0 ho, h.rep.only h.md ho (by simp), h.wt.trans ho (by simp), h.sep, Nat.le_trans h.sz ho.size, h.row.only ho (by simp), h.new⟩
/-- One was taken. -/
theorem Bt.took (h : Bt R X w W0 N nr na O e v ps O' wr) (hR : RepO R2) (t : Tl R2 wr O' v1 ps1 U) : ∃ O2, Bt R2 X w W0 N nr na O e v ps O2 U ∧ PRow U v1 ps1 ∧ ∀ g, v1.ownBlock = some g → wr.heap.size ≤ g := by
  obtain ⟨O2, r, hw, hp, hn⟩ := t
  have out : ∀ g, v.ownBlock = some g → g ∉ O' := fun g hg => (h.new g hg).2
  refine ⟨O2, ⟨hR, h.xk, h.o0, h.lN, h.lr, h.la, h.dN, h.dr, h.hO, h.xk h.x hw.1 (h.out h.lN.1 h.lN.2), h.ret.only hw.1 (h.out h.lr.1 h.lr.2), h.all.only hw.1 (h.out h.la.1 h.la.2), r, h.wt.trans hw.1 (fun k hk => ?_), fun k hk => ?_, Nat.le_trans h.sz hw.1.size, h.row.only hw.1 out, fun g hg => ⟨(h.new g hg).1, fun hk => ?_⟩⟩, hp, fun g hg => (hn g hg).1⟩
  · rcases h.sep k hk with h3 | h3
    · exact .inl h3
    · exact .inr (Nat.le_trans h.o0.size h3)
  · rcases hw.2 k hk with h3 | h3
    · exact h.sep k h3
    · exact .inr (Nat.le_trans h.sz h3)
  · rcases hw.2 g hk with h3 | h3
    · exact out g hg h3
    · have := h.row.lt hg; omega
theorem Bt.setE (h : Bt R X w W0 N nr na O e v ps O' wr) (e' : Int) : Bt R X w W0 N nr na O e' v ps O' (wr.setCell ⟨na, 0, none⟩ (.int .i64 e')) := by
  have ho : Only [na] wr (wr.setCell ⟨na, 0, none⟩ (.int .i64 e')) := (Only.refl [na] wr).setCell (by simp) _
  have hO' : ∀ k ∈ O', k ∉ [na] := fun k hk hk2 => by simp at hk2; subst hk2; exact h.out h.la.1 h.la.2 hk
  refine ⟨h.rep, h.xk, h.o0, h.lN, h.lr, h.la, h.dN, h.dr, h.hO, h.xk h.x ho (by simpa using h.dN), h.ret.only ho (by simpa using h.dr), h.all.set0 e', h.rep.only h.md ho hO', h.wt.trans ho (fun k hk => by simp at hk; subst hk; exact .inr h.la.1), h.sep, Nat.le_trans h.sz ho.size, h.row.only ho (fun g hg hk => ?_), h.new⟩
  simp at hk; subst hk; have := (h.new g hg).1; have := h.la.2; omega
/-- What is gathered is laid behind. -/
theorem Bt.app (h : Bt R X w W0 N nr na O e v ps O' wr) (hg : wr.grownBy U v.ownBlock) (hr : PRow U v' qs) (hl : v'.ownBlock = v.ownBlock ∨ v'.ownBlock = some wr.heap.size) : RBox U na e v 0 0 ∧ Bt R X w W0 N nr na O e v' qs O' (U.setCell ⟨na, 1, none⟩ v') := by
  have ho : Only v.ownBlock.toList wr U := (Only.refl _ wr).grown hg (fun k hk => .inl (Option.mem_toList.2 hk))
  have ge : ∀ k ∈ v.ownBlock.toList, W0.heap.size ≤ k ∧ k ∉ O' := fun k hk => h.new k (Option.mem_toList.1 hk)
  have o2 : Only [na] U (U.setCell ⟨na, 1, none⟩ v') := (Only.refl [na] U).setCell (by simp) _
  have nk : ∀ k, w.heap.size ≤ k → k < W0.heap.size → k ∉ v.ownBlock.toList := fun k _ h2 hk => by have := (ge k hk).1; omega
  have all1 : RBox U na e v 0 0 := h.all.only ho (nk na h.la.1 h.la.2)
  have hO' : ∀ k ∈ O', k ∉ [na] := fun k hk hk2 => by simp at hk2; subst hk2; exact h.out h.la.1 h.la.2 hk
  have new' : ∀ g, v'.ownBlock = some g → W0.heap.size ≤ g ∧ g ∉ O' := fun g hg' => by
    rcases hl with e1 | e1
    · exact h.new g (by rw [← e1]; exact hg')
    · rw [e1] at hg'
      injection hg' with hg'
      subst hg'
      exact ⟨h.sz, fun hk => Nat.lt_irrefl _ (h.rep.lt h.md _ hk)⟩
  refine ⟨all1, h.rep, h.xk, h.o0, h.lN, h.lr, h.la, h.dN, h.dr, h.hO, h.xk (h.xk h.x ho (nk N h.lN.1 h.lN.2)) o2 (by simpa using h.dN), (h.ret.only ho (nk nr h.lr.1 h.lr.2)).only o2 (by simpa using h.dr), all1.set1 v', h.rep.only (h.rep.only h.md ho (fun k hk hk2 => (ge k hk2).2 hk)) o2 hO', (h.wt.trans ho (fun k hk => .inr (Nat.le_trans h.o0.size (ge k hk).1))).trans o2 (fun k hk => by simp at hk; subst hk; exact .inr h.la.1), h.sep, Nat.le_trans h.sz (Nat.le_trans ho.size o2.size), hr.only o2 (fun g hg' hk => ?_), new'⟩
  simp at hk; subst hk; have := (new' g hg').1; have := h.la.2; omega
theorem Bt.fin (h : Bt R X w W0 N nr na O e v ps O' wr) (a b' c' d : Value) : Tl R w O v ps ((((wr.setCell ⟨nr, 0, none⟩ a).setCell ⟨nr, 1, none⟩ b').setCell ⟨nr, 2, none⟩ c').setCell ⟨nr, 3, none⟩ d) := by
  have ho := only_ret wr nr a b' c' d
  refine ⟨O', h.rep.only h.md ho (fun k hk hk2 => by simp at hk2; subst hk2; exact h.out h.lr.1 h.lr.2 hk), ⟨h.wt.trans ho (fun k hk => by simp at hk; subst hk; exact .inr h.lr.1), fun k hk => (h.sep k hk).imp id (fun h3 => Nat.le_trans h.o0.size h3)⟩, h.row.only ho (fun g hg hk => ?_), fun g hg => ⟨Nat.le_trans h.o0.size (h.new g hg).1, (h.new g hg).2⟩⟩
  simp at hk; subst hk; have := (h.new g hg).1; have := h.lr.2; omega
end
section
variable (w : World) (b : Nat) (M : Md) (O : List Nat) (h : MdOf b M w O)
include h
theorem bt_start (c : Cl) : Bt (MdOf b M) (fun W => CBox W w.heap.size c) w (((w.alloc (.cells #[.int .i64 c.op, .int .i64 c.f, .int .i64 c.a, .int .i64 c.b] 44)).alloc (.cells #[.int .i64 0, .slice none 0 0, .int .i64 0, .int .u64 0] 47)).alloc (.cells #[.int .i64 0, .slice none 0 0, .int .i64 0, .int .u64 0] 47)) w.heap.size (w.heap.size + 1) (w.heap.size + 2) O 0 (.slice none 0 0) [] O (((w.alloc (.cells #[.int .i64 c.op, .int .i64 c.f, .int .i64 c.a, .int .i64 c.b] 44)).alloc (.cells #[.int .i64 0, .slice none 0 0, .int .i64 0, .int .u64 0] 47)).alloc (.cells #[.int .i64 0, .slice none 0 0, .int .i64 0, .int .u64 0] 47)) := by
  have b1 := CBox.new w c
  have o1 : Only [] w (w.alloc (.cells #[.int .i64 c.op, .int .i64 c.f, .int .i64 c.a, .int .i64 c.b] 44)) := (Only.refl [] w).alloc _
  have s1 : (w.alloc (.cells #[.int .i64 c.op, .int .i64 c.f, .int .i64 c.a, .int .i64 c.b] 44)).heap.size = w.heap.size + 1 := by simp
  generalize w.alloc (.cells #[.int .i64 c.op, .int .i64 c.f, .int .i64 c.a, .int .i64 c.b] 44) = W1 at *
  have b2 := RBox.new W1 0 (.slice none 0 0) 0 0
  have o2 : Only [] W1 (W1.alloc (.cells #[.int .i64 0, .slice none 0 0, .int .i64 0, .int .u64 0] 47)) := (Only.refl [] W1).alloc _
  have s2 : (W1.alloc (.cells #[.int .i64 0, .slice none 0 0, .int .i64 0, .int .u64 0] 47)).heap.size = W1.heap.size + 1 := by simp
  generalize W1.alloc (.cells #[.int .i64 0, .slice none 0 0, .int .i64 0, .int .u64 0] 47) = W2 at *
  have b3 := RBox.new W2 0 (.slice none 0 0) 0 0
  have o3 : Only [] W2 (W2.alloc (.cells #[.int .i64 0, .slice none 0 0, .int .i64 0, .int .u64 0] 47)) := (Only.refl [] W2).alloc _
  have s3 : (W2.alloc (.cells #[.int .i64 0, .slice none 0 0, .int .i64 0, .int .u64 0] 47)).heap.size = W2.heap.size + 1 := by simp
  generalize W2.alloc (.cells #[.int .i64 0, .slice none 0 0, .int .i64 0, .int .u64 0] 47) = W3 at *
  have o := (o1.trans' o2).trans' o3
  rw [s1] at b2
  rw [s2, s1] at b3
  exact ⟨rep_md b M, fun hU ho hN => hU.only ho hN, o, by omega, by omega, by omega, by omega, by omega, (rep_md b M).lt h, (b1.only0 o2).only0 o3, b2.only0 o3, b3, (rep_md b M).only h o (by simp), o.mono (by simp), fun k hk => .inl hk, Nat.le_refl _, PRow.nil _, by simp [Value.ownBlock]⟩
end
end Go.Proofs.Ytklolepmmabijaa
