/-
  The document's: code, Len, one, register.
-/
import Derived.Test.YtklolepmmabijaaMdX
namespace Go.Proofs.Ytklolepmmabijaa
set_option maxRecDepth 100000
open Go.RowKit
set_option linter.unusedVariables false
set_option linter.unusedSimpArgs false
set_option maxRecDepth 100000

theorem nCode (e : Int) (w : World) : Calls Try.prog 36 #[.int .i64 e] w fun r w' => r = .returned (.agg #[.int .i64 e, .slice none 0 0, .int .i64 0, .int .u64 0]) ∧ Only [] w w' := by
  go_enter Try.func36, Try.ntmps36
  go_wp2_with fail
  refine bodyPost_ret ?_ rfl ⟨rfl, ?_⟩
  · rw [results_cell1 rfl]; go_simp
  · exact (Only.refl [] w).alloc _

/-- What a body of the document's keeps: the answer's block nr, another block that is kept (N), the model. -/
structure NFr (X : World → Prop) (w W0 : World) (N nr b : Nat) (O : List Nat) (C : Cf) (S : Sq) (n : Int) (s : Nat) (Q : List Nat) (W : World) : Prop where
  xk : ∀ {U V : World} {T : List Nat}, X U → Only T U V → N ∉ T → X V
  o0 : Only [] w W0
  lN : w.heap.size ≤ N ∧ N < W0.heap.size
  lr : w.heap.size ≤ nr ∧ nr < W0.heap.size
  hO : ∀ k ∈ O, k < w.heap.size
  x : X W
  ret : RBox W nr 0 (.slice none 0 0) 0 0
  md : NdAt W b C S n s Q
  wt : Went W0 O W (b :: Q)
section
variable {X : World → Prop} {w W0 W U : World} {N nr b s : Nat} {O Q : List Nat} {C : Cf} {S S' : Sq} {n : Int}
theorem NFr.out (h : NFr X w W0 N nr b O C S n s Q W) {k : Nat} (h1 : w.heap.size ≤ k) (h2 : k < W0.heap.size) : k ∉ b :: Q := fun hk => by
  rcases h.wt.2 k hk with h3 | h3
  · have := h.hO k h3; omega
  · omega
theorem NFr.on (h : NFr X w W0 N nr b O C S n s Q W) (ho : Only [] W U) : NFr X w W0 N nr b O C S n s Q U :=
  ⟨h.xk, h.o0, h.lN, h.lr, h.hO, h.xk h.x ho (by simp), h.ret.only0 ho, h.md.only0 ho, h.wt.trans (Went.still ho _)⟩
theorem NFr.turn (h : NFr X w W0 N nr b O C S n s Q W) (t : QTo W s Q S' U) : ∃ Q', NFr X w W0 N nr b O C S' n s Q' U := by
  obtain ⟨Q', h1, h2⟩ := h.md.turn t
  exact ⟨Q', h.xk, h.o0, h.lN, h.lr, h.hO, h.xk h.x h2.1 (h.out h.lN.1 h.lN.2), h.ret.only h2.1 (h.out h.lr.1 h.lr.2), h1, h.wt.trans h2⟩
theorem NFr.counted (h : NFr X w W0 N nr b O C S n s Q W) (y : Int) : NFr X w W0 N nr b O C S y s Q (W.setCell ⟨b, 6, none⟩ (.int .i64 y)) := by
  obtain ⟨h1, h2⟩ := h.md.counted y
  exact ⟨h.xk, h.o0, h.lN, h.lr, h.hO, h.xk h.x h2.1 (h.out h.lN.1 h.lN.2), h.ret.only h2.1 (h.out h.lr.1 h.lr.2), h1, h.wt.trans h2⟩
theorem NFr.fin {M' : Md} (h : NFr X w W0 N nr b O M'.c M'.S M'.n s Q W) (a b' c' d : Value) : Tl (NdOf b M') w O (.slice none 0 0) [] ((((W.setCell ⟨nr, 0, none⟩ a).setCell ⟨nr, 1, none⟩ b').setCell ⟨nr, 2, none⟩ c').setCell ⟨nr, 3, none⟩ d) :=
  Tl.boxed (rep_nd b M') h.o0 (Tl.plain ⟨s, Q, h.md, rfl⟩ h.wt) h.lr.1 h.lr.2 h.hO (only_ret _ _ _ _ _ _)
theorem NFr.finP {M' : Md} {v : Value} {ps : List Pk} (h : NFr X w W0 N nr b O M'.c M'.S M'.n s Q W) (hp : PRow W v ps) (hv : ∀ g, v.ownBlock = some g → W0.heap.size ≤ g ∧ g ∉ b :: Q) (a b' c' d : Value) : Tl (NdOf b M') w O v ps ((((W.setCell ⟨nr, 0, none⟩ a).setCell ⟨nr, 1, none⟩ b').setCell ⟨nr, 2, none⟩ c').setCell ⟨nr, 3, none⟩ d) :=
  Tl.boxed (rep_nd b M') h.o0 ⟨_, ⟨s, Q, h.md, rfl⟩, h.wt, hp, hv⟩ h.lr.1 h.lr.2 h.hO (only_ret _ _ _ _ _ _)
end
section
variable (w : World) (b : Nat) (M : Md) (O : List Nat) (h : NdOf b M w O)
include h
theorem nfr_start : ∃ s Q, O = b :: Q ∧ NFr (fun _ => True) w (w.alloc (.cells #[.int .i64 0, .slice none 0 0, .int .i64 0, .int .u64 0] 47)) w.heap.size w.heap.size b O M.c M.S M.n s Q (w.alloc (.cells #[.int .i64 0, .slice none 0 0, .int .i64 0, .int .u64 0] 47)) := by
  have hlt := (rep_nd b M).lt h
  obtain ⟨s, Q, h, rfl⟩ := h
  have o : Only [] w (w.alloc (.cells #[.int .i64 0, .slice none 0 0, .int .i64 0, .int .u64 0] 47)) := (Only.refl [] w).alloc _
  have r := RBox.new w 0 (.slice none 0 0) 0 0
  exact ⟨s, Q, rfl, fun _ _ _ => trivial, o, ⟨Nat.le_refl _, r.lt⟩, ⟨Nat.le_refl _, r.lt⟩, hlt, trivial, r, h.only0 o, Went.refl _ _⟩
theorem nfr_call (c : Cl) : ∃ s Q, O = b :: Q ∧ NFr (fun W => CBox W w.heap.size c) w ((w.alloc (.cells #[.int .i64 c.op, .int .i64 c.f, .int .i64 c.a, .int .i64 c.b] 44)).alloc (.cells #[.int .i64 0, .slice none 0 0, .int .i64 0, .int .u64 0] 47)) w.heap.size (w.heap.size + 1) b O M.c M.S M.n s Q ((w.alloc (.cells #[.int .i64 c.op, .int .i64 c.f, .int .i64 c.a, .int .i64 c.b] 44)).alloc (.cells #[.int .i64 0, .slice none 0 0, .int .i64 0, .int .u64 0] 47)) := by
  have hlt := (rep_nd b M).lt h
  obtain ⟨s, Q, h, rfl⟩ := h
  have b1 := CBox.new w c
  have o1 : Only [] w (w.alloc (.cells #[.int .i64 c.op, .int .i64 c.f, .int .i64 c.a, .int .i64 c.b] 44)) := (Only.refl [] w).alloc _
  have s1 : (w.alloc (.cells #[.int .i64 c.op, .int .i64 c.f, .int .i64 c.a, .int .i64 c.b] 44)).heap.size = w.heap.size + 1 := by simp
  generalize w.alloc (.cells #[.int .i64 c.op, .int .i64 c.f, .int .i64 c.a, .int .i64 c.b] 44) = W1 at *
  have r := RBox.new W1 0 (.slice none 0 0) 0 0
  have o2 : Only [] W1 (W1.alloc (.cells #[.int .i64 0, .slice none 0 0, .int .i64 0, .int .u64 0] 47)) := (Only.refl [] W1).alloc _
  rw [s1] at r
  have l := r.lt
  exact ⟨s, Q, rfl, fun hU ho hN => hU.only ho hN, o1.trans' o2, ⟨Nat.le_refl _, by omega⟩, ⟨by omega, l⟩, hlt, b1.only0 o2, r, h.only0 (o1.trans' o2), Went.refl _ _⟩
set_option maxHeartbeats 1000000 in
theorem nOne (k j : Nat) (hM : M.ok k j) (hj : j ≤ 1000000) : Calls Try.prog 40 #[.pointer (some ⟨b, 0, none⟩)] w fun e w' =>
    ∃ A cap, e = .returned (.agg #[.int .i64 M.oneR.e, .slice A M.oneR.ps.length cap, .int .i64 0, .int .u64 0]) ∧ Tl (NdOf b M.one) w O (.slice A M.oneR.ps.length cap) M.oneR.ps w' := by
  obtain ⟨s, Q, rfl, st0⟩ := nfr_start w b M O h
  have st := Lib.hid st0
  obtain ⟨_, _, _, _, _, c5, _⟩ := st0.md.blk.c
  have kS := zServe _ s M.S Q st0.md.sq
  have n0 := hM.n0
  have n1 : M.n ≤ 1000000 := by have := hM.n1; omega
  clear h hM hj st0
  go_enter Try.func40, Try.ntmps40
  go_wp2_with fail
  generalize w.alloc (.cells #[.int .i64 0, .slice none 0 0, .int .i64 0, .int .u64 0] 47) = W at *
  obtain ⟨N, eN⟩ : ∃ N, w.heap.size = N := ⟨_, rfl⟩
  rw [eN] at st ⊢
  clear eN
  refine kS.mono ?_
  rintro e W2 ⟨rfl, t2⟩
  obtain ⟨Q2, st2⟩ := st.out.turn t2
  have oP : Only [] W2 (W2.alloc (.cells #[.int .i64 M.S.hd.f, .int .i64 M.S.hd.l, .int .i64 M.S.hd.m] 58)) := (Only.refl [] W2).alloc _
  have st3 := st2.on oP
  have bP := PBox.new W2 M.S.hd
  have hP := st2.md.lt
  rcases ha : M.S.any with _ | _
  · have ST : Hid (NFr (fun _ => True) w W N N b (b :: Q) M.one.c M.one.S M.one.n s Q2 W2) := by
      have e1 : M.one.n = M.n := by unfold Md.one; rw [ha]; rfl
      rw [e1]
      exact st2
    have HR : Hid (M.oneR = Rt.code 10) := by show M.oneR = _; unfold Md.oneR; rw [ha]; rfl
    clear ha kS t2 st2 c5
    have oQ := Lib.hid oP
    clear oP st3 bP hP st
    go_wp2_with fail
    refine (nCode 10 _).mono ?_
    rintro e W3 ⟨rfl, o3⟩
    have ST3 := Lib.hid ((ST.out.on oQ.out).on o3)
    obtain ⟨r0, r1, r2, r3⟩ := ST3.out.ret.c
    have f0 := ST3.out.ret.fr 0
    have f1 := ST3.out.ret.fr 1
    have f2 := ST3.out.ret.fr 2
    have f3 := ST3.out.ret.fr 3
    clear o3 ST oQ
    go_wp2_with fail
    refine bodyPost_ret ?_ rfl ⟨none, 0, rfl, ?_⟩
    · rw [results_cell1 rfl, HR.out]; unfold Rt.code; go_simp
    · rw [HR.out]; exact ST3.out.fin (M' := M.one) _ _ _ _
  · have eo : M.one = ⟨M.c, M.S.srv, M.n + 1⟩ := by unfold Md.one; rw [ha]; rfl
    have eR : M.oneR = ⟨0, [M.S.hd], 0, 0⟩ := by unfold Md.oneR; rw [ha]; rfl
    have HR := Lib.hid (And.intro eo eR)
    have st4 := st3.counted (M.n + 1)
    obtain ⟨_, _, _, _, _, _, c6⟩ := st3.md.blk.c
    have g6 := st3.md.blk.fr 6
    have hbP : b ≠ W2.heap.size := fun e => Nat.lt_irrefl W2.heap.size (by have := hP b (by simp); omega)
    have ob : Only [b] (W2.alloc (.cells #[.int .i64 M.S.hd.f, .int .i64 M.S.hd.l, .int .i64 M.S.hd.m] 58)) ((W2.alloc (.cells #[.int .i64 M.S.hd.f, .int .i64 M.S.hd.l, .int .i64 M.S.hd.m] 58)).setCell ⟨b, 6, none⟩ (.int .i64 (M.n + 1))) := (Only.refl [b] _).setCell (by simp) _
    have bP4 : PBox ((W2.alloc (.cells #[.int .i64 M.S.hd.f, .int .i64 M.S.hd.l, .int .i64 M.S.hd.m] 58)).setCell ⟨b, 6, none⟩ (.int .i64 (M.n + 1))) W2.heap.size M.S.hd := bP.only ob (by simpa using fun e => hbP e.symm)
    obtain ⟨z0, z1, z2⟩ := bP4.c
    have oR : Only [] ((W2.alloc (.cells #[.int .i64 M.S.hd.f, .int .i64 M.S.hd.l, .int .i64 M.S.hd.m] 58)).setCell ⟨b, 6, none⟩ (.int .i64 (M.n + 1))) (((W2.alloc (.cells #[.int .i64 M.S.hd.f, .int .i64 M.S.hd.l, .int .i64 M.S.hd.m] 58)).setCell ⟨b, 6, none⟩ (.int .i64 (M.n + 1))).alloc (.cells #[.int .i64 M.S.hd.f, .int .i64 M.S.hd.l, .int .i64 M.S.hd.m] 58)) := (Only.refl [] _).alloc _
    have st6 := st4.on oR
    obtain ⟨r0, r1, r2, r3⟩ := st6.ret.c
    have f0 := st6.ret.fr 0
    have f1 := st6.ret.fr 1
    have f2 := st6.ret.fr 2
    have f3 := st6.ret.fr 3
    have hrow := PRow.box (PBox.new ((W2.alloc (.cells #[.int .i64 M.S.hd.f, .int .i64 M.S.hd.l, .int .i64 M.S.hd.m] 58)).setCell ⟨b, 6, none⟩ (.int .i64 (M.n + 1))) M.S.hd)
    have hz : W.heap.size ≤ ((W2.alloc (.cells #[.int .i64 M.S.hd.f, .int .i64 M.S.hd.l, .int .i64 M.S.hd.m] 58)).setCell ⟨b, 6, none⟩ (.int .i64 (M.n + 1))).heap.size := st4.wt.1.size
    have hout : ((W2.alloc (.cells #[.int .i64 M.S.hd.f, .int .i64 M.S.hd.l, .int .i64 M.S.hd.m] 58)).setCell ⟨b, 6, none⟩ (.int .i64 (M.n + 1))).heap.size ∉ b :: Q2 := fun hk => Nat.lt_irrefl _ (st4.md.lt _ hk)
    have hsz : ((W2.alloc (.cells #[.int .i64 M.S.hd.f, .int .i64 M.S.hd.l, .int .i64 M.S.hd.m] 58)).setCell ⟨b, 6, none⟩ (.int .i64 (M.n + 1))).heap.size = W2.heap.size + 1 := by simp [World.setCell]
    have HX := Lib.hid (And.intro st6 (And.intro hrow (And.intro hz (And.intro hout hsz))))
    clear kS t2 st2 c5 st st3 st4 st6 oP bP hP ob bP4 oR hrow hz hout hsz ha eo eR
    go_wp2_with fail
    refine bodyPost_ret ?_ rfl ⟨some ⟨W2.heap.size + 1, 0, none⟩, 1, rfl, ?_⟩
    · rw [results_cell1 rfl, HR.out.2]; go_simp
    · obtain ⟨s6, hrow, hz, hout, hsz⟩ := HX.out
      rw [HR.out.1, HR.out.2]
      rw [hsz] at hrow hz hout
      exact s6.finP (M' := ⟨M.c, M.S.srv, M.n + 1⟩) hrow (fun g hg => by simp [Value.ownBlock] at hg; subst hg; exact ⟨hz, hout⟩) _ _ _ _
end
end Go.Proofs.Ytklolepmmabijaa
