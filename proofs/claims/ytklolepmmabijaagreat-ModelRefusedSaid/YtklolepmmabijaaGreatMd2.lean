/-
  What the other laws' walks keep: what was told beside a pair; two pairs side by side; copies.
-/
import Derived.Test.YtklolepmmabijaaGreatMdSt
import Derived.Test.YtklolepmmabijaaGreatMdCp
import Derived.Test.YtklolepmmabijaaGreatMdG
namespace Go.Proofs.YtklolepmmabijaaGreat
set_option maxRecDepth 100000
open Go.RowKit
set_option linter.unusedVariables false
set_option linter.unusedSimpArgs false
set_option maxRecDepth 100000

section
variable {w0 wr W u w2 : World} {b c : Nat} {M M' : Md} {O P : List Nat} {v v2 : Value} {ps : List Pk}
theorem Ms.mc (h : Ms w0 wr b c M O P) (hm : Mc wr b c M' O P v v2 ps W) : ∃ O' P', Ms w0 W b c M' O' P' ∧ Only (O ++ P) wr W ∧ PRow W v ps ∧ ∀ g, v.ownBlock = some g → wr.heap.size ≤ g ∧ g ∉ O' ++ P' := by
  obtain ⟨O', P', h1, h2, h3, h4, h5, h6⟩ := hm
  exact ⟨O', P', h.went h1 h2, h2.1, h3, h5⟩
/-- Something new is written over. -/
theorem Ms.spoil (h : Ms w0 wr b c M O P) (ho : Only [] wr u) (hv : ∀ g, v.ownBlock = some g → w0.heap.size ≤ g ∧ g ∉ O ++ P) (hs : Only v.ownBlock.toList u w2) : Ms w0 w2 b c M O P := by
  have hu := h.only0 ho
  exact ⟨hu.duo.only hs (fun k hk hk2 => (hv k (Option.mem_toList.1 hk2)).2 hk), h.new, hu.only.trans hs (fun k hk => .inr (hv k (Option.mem_toList.1 hk)).1)⟩
theorem Ms.spoilN (h : Ms w0 wr b c M O P) (ho : Only [] wr u) (hv : ∀ g, v.ownBlock = some g → wr.heap.size ≤ g) (hs : Only v.ownBlock.toList u w2) : Ms w0 w2 b c M O P :=
  h.spoil ho (fun g hg => ⟨Nat.le_trans h.only.size (hv g hg), fun hk => by have := h.duo.lt g hk; have := hv g hg; omega⟩) hs
end

/-! ### two pairs side by side -/
structure M2 (w0 wr : World) (b c : Nat) (M : Md) (O P : List Nat) (b' c' : Nat) (M' : Md) (O' P' : List Nat) : Prop where
  one : Ms w0 wr b c M O P
  two : Ms w0 wr b' c' M' O' P'
  ap : ∀ k ∈ O ++ P, k ∉ O' ++ P'
section
variable {w0 wr w' : World} {b c b' c' : Nat} {M M' T : Md} {O P O' P' : List Nat}
theorem M2.swap (h : M2 w0 wr b c M O P b' c' M' O' P') : M2 w0 wr b' c' M' O' P' b c M O P := ⟨h.two, h.one, fun k hk hk2 => h.ap k hk2 hk⟩
theorem M2.only0 (h : M2 w0 wr b c M O P b' c' M' O' P') (ho : Only [] wr w') : M2 w0 w' b c M O P b' c' M' O' P' := ⟨h.one.only0 ho, h.two.only0 ho, h.ap⟩
theorem M2.fin (h : M2 w0 wr b c M O P b' c' M' O' P') (hf : Mfin wr b c T O P w') : ∃ O2 P2, M2 w0 w' b c T O2 P2 b' c' M' O' P' := by
  obtain ⟨O2, P2, h1, h2⟩ := hf
  have t1 := h.one.went h1 h2
  refine ⟨O2, P2, t1, ⟨h.two.duo.only h2.1 (fun k hk hk2 => h.ap k hk2 hk), h.two.new, t1.only⟩, fun k hk hk2 => ?_⟩
  rcases h2.2 k hk with h3 | h3
  · exact h.ap k h3 hk2
  · have := h.two.duo.lt k hk2; omega
theorem M2.step1 (h : M2 w0 wr b c M O P b' c' M' O' P') (cl : Cl) (hc : cl.ok) (k j : Nat) (hM : M.ok k j) (hk : k < 1000) (hj : j + 16 ≤ 1000000) :
    Calls Tryz.prog 11 #[.pointer (some ⟨b, 0, none⟩), .pointer (some ⟨c, 0, none⟩), .agg #[.int .i64 cl.op, .int .i64 cl.f, .int .i64 cl.a, .int .i64 cl.b]] wr fun e w' => e = .returned (.bool true) ∧ ∃ O2 P2, M2 w0 w' b c (M.todo cl).1 O2 P2 b' c' M' O' P' :=
  (mStep wr b c M O P h.one.duo cl hc k j hM hk hj).mono fun e w' q => ⟨q.1, h.fin q.2⟩
theorem M2.step2 (h : M2 w0 wr b c M O P b' c' M' O' P') (cl : Cl) (hc : cl.ok) (k j : Nat) (hM : M'.ok k j) (hk : k < 1000) (hj : j + 16 ≤ 1000000) :
    Calls Tryz.prog 11 #[.pointer (some ⟨b', 0, none⟩), .pointer (some ⟨c', 0, none⟩), .agg #[.int .i64 cl.op, .int .i64 cl.f, .int .i64 cl.a, .int .i64 cl.b]] wr fun e w' => e = .returned (.bool true) ∧ ∃ O2 P2, M2 w0 w' b c M O P b' c' (M'.todo cl).1 O2 P2 :=
  (h.swap.step1 cl hc k j hM hk hj).mono fun e w' ⟨q, O2, P2, h2⟩ => ⟨q, O2, P2, h2.swap⟩
theorem M2.looks1 (h : M2 w0 wr b c M O P b' c' M' O' P') (id : Int) (hid : i64ok id) : Calls Tryz.prog 13 #[.pointer (some ⟨b, 0, none⟩), .pointer (some ⟨c, 0, none⟩), .int .i64 id] wr fun e w' => e = .returned (.bool true) ∧ M2 w0 w' b c M O P b' c' M' O' P' :=
  (mLooks wr b c M O P h.one.duo id hid).mono fun e w' q => ⟨q.1, h.only0 q.2⟩
theorem M2.looks2 (h : M2 w0 wr b c M O P b' c' M' O' P') (id : Int) (hid : i64ok id) : Calls Tryz.prog 13 #[.pointer (some ⟨b', 0, none⟩), .pointer (some ⟨c', 0, none⟩), .int .i64 id] wr fun e w' => e = .returned (.bool true) ∧ M2 w0 w' b c M O P b' c' M' O' P' :=
  (mLooks wr b' c' M' O' P' h.two.duo id hid).mono fun e w' q => ⟨q.1, h.only0 q.2⟩
/-- A copy of both. -/
theorem Ms.copied {u1 u2 : World} {nb nc : Nat} {O1 P1 : List Nat} (h : Ms w0 wr b c M O P) (h1 : MdOf nb M u1 O1) (o1 : Only [] wr u1) (n1 : ∀ k ∈ O1, wr.heap.size ≤ k) (h2 : NdOf nc M u2 P1) (o2 : Only [] u1 u2) (n2 : ∀ k ∈ P1, u1.heap.size ≤ k) : M2 w0 u2 b c M O P nb nc M O1 P1 := by
  have s0 := h.only.size
  have s1 := o1.size
  refine ⟨(h.only0 o1).only0 o2, ⟨⟨(rep_md nb M).only h1 o2 (by simp), h2, fun k hk hk2 => ?_⟩, fun k hk => ?_, (h.only.trans' o1).trans' o2⟩, fun k hk hk2 => ?_⟩
  · have := (rep_md nb M).lt h1 k hk; have := n2 k hk2; omega
  · rcases List.mem_append.1 hk with hk | hk
    · have := n1 k hk; omega
    · have := n2 k hk; omega
  · have := h.duo.lt k hk
    rcases List.mem_append.1 hk2 with hk2 | hk2
    · have := n1 k hk2; omega
    · have := n2 k hk2; omega
end

/-! ### a model and two copies of it -/
structure Tri (w0 wr : World) (b : Nat) (M : Md) (O : List Nat) (b1 : Nat) (M1 : Md) (O1 : List Nat) (b2 : Nat) (M2 : Md) (O2 : List Nat) : Prop where
  m : Mo w0 wr b M O
  p : Mo w0 wr b1 M1 O1
  q : Mo w0 wr b2 M2 O2
  mp : ∀ k ∈ O, k ∉ O1
  mq : ∀ k ∈ O, k ∉ O2
  pq : ∀ k ∈ O1, k ∉ O2
section
variable {w0 wr w' u1 u2 W : World} {b b1 b2 c : Nat} {M M1 M2 T : Md} {O O1 O2 P : List Nat} {v : Value} {ps : List Pk}
theorem Mo.lt (h : Mo w0 wr b M O) : ∀ k ∈ O, k < wr.heap.size := (rep_md b M).lt h.fl
theorem Tri.on (h : Tri w0 wr b M O b1 M1 O1 b2 M2 O2) (ho : Only [] wr w') : Tri w0 w' b M O b1 M1 O1 b2 M2 O2 := ⟨h.m.on ho, h.p.on ho, h.q.on ho, h.mp, h.mq, h.pq⟩
theorem Ms.tri (h : Ms w0 wr b c M O P) (h1 : MdOf b1 M u1 O1) (o1 : Only [] wr u1) (n1 : ∀ k ∈ O1, wr.heap.size ≤ k) (h2 : MdOf b2 M u2 O2) (o2 : Only [] u1 u2) (n2 : ∀ k ∈ O2, u1.heap.size ≤ k) : Tri w0 u2 b M O b1 M O1 b2 M O2 := by
  have s0 := h.only.size
  have s1 := o1.size
  have o12 : Only [] wr u2 := o1.trans' o2
  have lO : ∀ k ∈ O, k < wr.heap.size := fun k hk => h.duo.lt k (by simp [hk])
  have l1 := (rep_md b1 M).lt h1
  refine ⟨⟨(rep_md b M).only h.duo.fl o12 (by simp), fun k hk => h.new k (by simp [hk]), h.only.trans' o12⟩, ⟨(rep_md b1 M).only h1 o2 (by simp), fun k hk => by have := n1 k hk; omega, h.only.trans' o12⟩, ⟨h2, fun k hk => by have := n2 k hk; omega, h.only.trans' o12⟩, fun k hk hk2 => ?_, fun k hk hk2 => ?_, fun k hk hk2 => ?_⟩
  · have := lO k hk; have := n1 k hk2; omega
  · have := lO k hk; have := n2 k hk2; omega
  · have := l1 k hk; have := n2 k hk2; omega
/-- The first copy turned. -/
theorem Tri.goP (h : Tri w0 wr b M O b1 M1 O1 b2 M2 O2) (t : Tl (MdOf b1 T) wr O1 v ps w') : ∃ O1', Tri w0 w' b M O b1 T O1' b2 M2 O2 ∧ PRow w' v ps ∧ (∀ g, v.ownBlock = some g → wr.heap.size ≤ g ∧ g ∉ O1') ∧ Only O1 wr w' := by
  obtain ⟨O1', r, hw, hp, hn⟩ := t
  have h1 := h.p.went r hw
  refine ⟨O1', ⟨⟨(rep_md b M).only h.m.fl hw.1 h.mp, h.m.new, h1.only⟩, h1, ⟨(rep_md b2 M2).only h.q.fl hw.1 (fun k hk hk2 => h.pq k hk2 hk), h.q.new, h1.only⟩, fun k hk hk2 => ?_, h.mq, fun k hk hk2 => ?_⟩, hp, hn, hw.1⟩
  · rcases hw.2 k hk2 with h3 | h3
    · exact h.mp k hk h3
    · have := h.m.lt k hk; omega
  · rcases hw.2 k hk with h3 | h3
    · exact h.pq k h3 hk2
    · have := h.q.lt k hk2; omega
end
/-- So many Dequeues of the second copy, one behind the other; what they told lies in a row at na. -/
structure Bz (w W0 : World) (nb : Nat) (O : List Nat) (na : Nat) (M1 : Md) (e : Int) (v : Value) (ps : List Pk) (O' : List Nat) (wr : World) : Prop where
  o0 : Only [] w W0
  la : w.heap.size ≤ na ∧ na < W0.heap.size
  hO : ∀ k ∈ O, k < w.heap.size
  all : RBox wr na e v 0 0
  md : MdOf nb M1 wr O'
  wt : Only O w wr
  sep : ∀ k ∈ O', k ∈ O ∨ W0.heap.size ≤ k
  sz : W0.heap.size ≤ wr.heap.size
  row : PRow wr v ps
  new : ∀ g, v.ownBlock = some g → W0.heap.size ≤ g ∧ g ∉ O'
section
variable {w W0 wr U : World} {nb na : Nat} {O O' : List Nat} {M1 T : Md} {e : Int} {v v' v1 : Value} {ps qs ps1 : List Pk}
theorem Bz.start (h : MdOf nb M1 w O) : Bz w (w.alloc (.cells #[.int .i64 0, .slice none 0 0, .int .i64 0, .int .u64 0] 50)) nb O w.heap.size M1 0 (.slice none 0 0) [] O (w.alloc (.cells #[.int .i64 0, .slice none 0 0, .int .i64 0, .int .u64 0] 50)) := by
  have o1 : Only [] w (w.alloc (.cells #[.int .i64 0, .slice none 0 0, .int .i64 0, .int .u64 0] 50)) := (Only.refl [] w).alloc _
  exact ⟨o1, ⟨Nat.le_refl _, by simp⟩, (rep_md nb M1).lt h, RBox.new w 0 (.slice none 0 0) 0 0, (rep_md nb M1).only h o1 (by simp), o1.mono (by simp), fun k hk => .inl hk, Nat.le_refl _, PRow.nil _, by simp [Value.ownBlock]⟩
theorem Bz.out (h : Bz w W0 nb O na M1 e v ps O' wr) : na ∉ O' := fun hk => by
  rcases h.sep na hk with h3 | h3
  · have := h.hO na h3; have := h.la.1; omega
  · have := h.la.2; omega
theorem Bz.on (h : Bz w W0 nb O na M1 e v ps O' wr) (ho : Only [] wr U) : Bz w W0 nb O na M1 e v ps O' U :=
  ⟨h.o0, h.la, h.hO, h.all.only0 ho, (rep_md nb M1).only h.md ho (by simp), h.wt.trans ho (by simp), h.sep, Nat.le_trans h.sz ho.size, h.row.only ho (by simp), h.new⟩
theorem Bz.took (h : Bz w W0 nb O na M1 e v ps O' wr) (t : Tl (MdOf nb T) wr O' v1 ps1 U) : ∃ O2, Bz w W0 nb O na T e v ps O2 U ∧ PRow U v1 ps1 ∧ ∀ g, v1.ownBlock = some g → wr.heap.size ≤ g := by
  obtain ⟨O2, r, hw, hp, hn⟩ := t
  have out : ∀ g, v.ownBlock = some g → g ∉ O' := fun g hg => (h.new g hg).2
  refine ⟨O2, ⟨h.o0, h.la, h.hO, h.all.only hw.1 h.out, r, h.wt.trans hw.1 (fun k hk => ?_), fun k hk => ?_, Nat.le_trans h.sz hw.1.size, h.row.only hw.1 out, fun g hg => ⟨(h.new g hg).1, fun hk => ?_⟩⟩, hp, fun g hg => (hn g hg).1⟩
  · rcases h.sep k hk with h3 | h3
    · exact .inl h3
    · exact .inr (Nat.le_trans h.o0.size h3)
  · rcases hw.2 k hk with h3 | h3
    · exact h.sep k h3
    · exact .inr (Nat.le_trans h.sz h3)
  · rcases hw.2 g hk with h3 | h3
    · exact out g hg h3
    · have := h.row.lt hg; omega
theorem Bz.setE (h : Bz w W0 nb O na M1 e v ps O' wr) (e' : Int) : Bz w W0 nb O na M1 e' v ps O' (wr.setCell ⟨na, 0, none⟩ (.int .i64 e')) := by
  have ho : Only [na] wr (wr.setCell ⟨na, 0, none⟩ (.int .i64 e')) := (Only.refl [na] wr).setCell (by simp) _
  have hO' : ∀ k ∈ O', k ∉ [na] := fun k hk hk2 => by simp at hk2; subst hk2; exact h.out hk
  refine ⟨h.o0, h.la, h.hO, h.all.set0 e', (rep_md nb M1).only h.md ho hO', h.wt.trans ho (fun k hk => by simp at hk; subst hk; exact .inr h.la.1), h.sep, Nat.le_trans h.sz ho.size, h.row.only ho (fun g hg hk => ?_), h.new⟩
  simp at hk; subst hk; have := (h.new g hg).1; have := h.la.2; omega
theorem Bz.app (h : Bz w W0 nb O na M1 e v ps O' wr) (hg : wr.grownBy U v.ownBlock) (hr : PRow U v' qs) (hl : v'.ownBlock = v.ownBlock ∨ v'.ownBlock = some wr.heap.size) : RBox U na e v 0 0 ∧ Bz w W0 nb O na M1 e v' qs O' (U.setCell ⟨na, 1, none⟩ v') := by
  have ho : Only v.ownBlock.toList wr U := (Only.refl _ wr).grown hg (fun k hk => .inl (Option.mem_toList.2 hk))
  have ge : ∀ k ∈ v.ownBlock.toList, W0.heap.size ≤ k ∧ k ∉ O' := fun k hk => h.new k (Option.mem_toList.1 hk)
  have o2 : Only [na] U (U.setCell ⟨na, 1, none⟩ v') := (Only.refl [na] U).setCell (by simp) _
  have all1 : RBox U na e v 0 0 := h.all.only ho (fun hk => by have := (ge na hk).1; have := h.la.2; omega)
  have hO' : ∀ k ∈ O', k ∉ [na] := fun k hk hk2 => by simp at hk2; subst hk2; exact h.out hk
  have new' : ∀ g, v'.ownBlock = some g → W0.heap.size ≤ g ∧ g ∉ O' := fun g hg' => by
    rcases hl with e1 | e1
    · exact h.new g (by rw [← e1]; exact hg')
    · rw [e1] at hg'
      injection hg' with hg'
      subst hg'
      exact ⟨h.sz, fun hk => Nat.lt_irrefl _ ((rep_md nb M1).lt h.md _ hk)⟩
  refine ⟨all1, h.o0, h.la, h.hO, all1.set1 v', (rep_md nb M1).only ((rep_md nb M1).only h.md ho (fun k hk hk2 => (ge k hk2).2 hk)) o2 hO', (h.wt.trans ho (fun k hk => .inr (Nat.le_trans h.o0.size (ge k hk).1))).trans o2 (fun k hk => by simp at hk; subst hk; exact .inr h.la.1), h.sep, Nat.le_trans h.sz (Nat.le_trans ho.size o2.size), hr.only o2 (fun g hg' hk => ?_), new'⟩
  simp at hk; subst hk; have := (new' g hg').1; have := h.la.2; omega
end
/-- What the last line of ModelBatch reads. -/
structure Bf (w0 W : World) (b : Nat) (M : Md) (O : List Nat) (b1 : Nat) (O1 : List Nat) (b2 : Nat) (O2 : List Nat) (Mn : Md) (NR NA : Nat) (e0 : Int) (xs : List Pk) (A1 : Option Addr) (c1 : Nat) (A2 : Option Addr) (c2 : Nat) : Prop where
  m : MdOf b M W O
  p : MdOf b1 Mn W O1
  q : MdOf b2 Mn W O2
  r : RBox W NR e0 (.slice A1 xs.length c1) 0 0
  wa : RBox W NA e0 (.slice A2 xs.length c2) 0 0
  r1 : PRow W (.slice A1 xs.length c1) xs
  r2 : PRow W (.slice A2 xs.length c2) xs
  only : Only [] w0 W
section
variable {w0 W U : World} {b b1 b2 NR NA : Nat} {M Mn Mx : Md} {O O1 O2 O' : List Nat} {e0 : Int} {xs : List Pk} {A1 A2 : Option Addr} {c1 c2 : Nat}
theorem Bf.on (h : Bf w0 W b M O b1 O1 b2 O2 Mn NR NA e0 xs A1 c1 A2 c2) (ho : Only [] W U) : Bf w0 U b M O b1 O1 b2 O2 Mn NR NA e0 xs A1 c1 A2 c2 :=
  ⟨(rep_md b M).only h.m ho (by simp), (rep_md b1 Mn).only h.p ho (by simp), (rep_md b2 Mn).only h.q ho (by simp), h.r.only0 ho, h.wa.only0 ho, h.r1.only ho (by simp), h.r2.only ho (by simp), h.only.trans' ho⟩
theorem Bf.cs (h : Bf w0 W b M O b1 O1 b2 O2 Mn NR NA e0 xs A1 c1 A2 c2) : (W.cell? ⟨NR, 0, none⟩ = some (.int .i64 e0) ∧ W.cell? ⟨NR, 1, none⟩ = some (.slice A1 xs.length c1) ∧ W.cell? ⟨NR, 2, none⟩ = some (.int .i64 0) ∧ W.cell? ⟨NR, 3, none⟩ = some (.int .u64 0)) ∧ W.cell? ⟨NA, 0, none⟩ = some (.int .i64 e0) ∧ W.cell? ⟨NA, 1, none⟩ = some (.slice A2 xs.length c2) ∧ W.cell? ⟨NA, 2, none⟩ = some (.int .i64 0) ∧ W.cell? ⟨NA, 3, none⟩ = some (.int .u64 0) := ⟨h.r.c, h.wa.c⟩
/-- All that the last line reads, behind the loop. -/
theorem Bz.last {wB W0 : World} {v : Value} (hz : Bz wB W0 b2 O2 NA Mn e0 (.slice A2 xs.length c2) xs O' W) (T : Tri w0 wB b M O b1 Mn O1 b2 Mx O2) (hr : RBox wB NR e0 (.slice A1 xs.length c1) 0 0) (hNR : NR ∉ O2) (hp : PRow wB (.slice A1 xs.length c1) xs) (hv : ∀ g, (Value.slice A1 xs.length c1).ownBlock = some g → g ∉ O2) : Bf w0 W b M O b1 O1 b2 O' Mn NR NA e0 xs A1 c1 A2 c2 :=
  ⟨(rep_md b M).only T.m.fl hz.wt T.mq, (rep_md b1 Mn).only T.p.fl hz.wt T.pq, hz.md, hr.only hz.wt hNR, hz.all, hp.only hz.wt hv, hz.row, T.m.only.trans hz.wt (fun k hk => .inr (T.q.new k hk))⟩
end
theorem Md.bat_n (M : Md) : ∀ p, (M.bat p).1.n = M.n + ((M.bat p).2.ps.length : Int)
  | 0 => by show M.n = M.n + ((0 : Nat) : Int); omega
  | p + 1 => by
    have h1 := Md.bat_n M p
    by_cases h : (M.bat p).2.e = 0
    · rw [M.bat_succ h]
      show (if (M.bat p).1.S.any then (M.bat p).1.n + 1 else (M.bat p).1.n) = M.n + (((M.bat p).2.ps ++ (M.bat p).1.oneR.ps).length : Int)
      rw [List.length_append]
      rcases ha : (M.bat p).1.S.any with _ | _
      · have e : (M.bat p).1.oneR = Rt.code 10 := by unfold Md.oneR; rw [ha]; rfl
        rw [e]
        simp only [Bool.false_eq_true, if_false, Rt.code, List.length_nil]
        omega
      · have e : (M.bat p).1.oneR = ⟨0, [(M.bat p).1.S.hd], 0, 0⟩ := by unfold Md.oneR; rw [ha]; rfl
        rw [e]
        simp only [if_true, List.length_cons, List.length_nil]
        omega
    · rw [M.bat_stay h (p + 1) (by omega)]; exact h1
end Go.Proofs.YtklolepmmabijaaGreat
