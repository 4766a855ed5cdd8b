/-
  Ours: refusal, register.
  Ours: register, shut, enqueue, dequeue, stats.
  Ours: register, enqueue, dequeue, stats.
-/
import Derived.Test.YtklolepmmabijaaMdN
namespace Go.Proofs.Ytklolepmmabijaa
set_option maxRecDepth 100000
open Go.RowKit
set_option linter.unusedVariables false
set_option linter.unusedSimpArgs false
set_option maxRecDepth 100000

/-- A call in its block, beside a model that is as it was. -/
structure MSt (w : World) (N b : Nat) (c : Cl) (M : Md) (O : List Nat) (W : World) : Prop where
  box : CBox W N c
  md : MdOf b M W O
  only : Only [] w W
theorem MSt.on {w W U : World} {N b : Nat} {c : Cl} {M : Md} {O : List Nat} (h : MSt w N b c M O W) (ho : Only [] W U) : MSt w N b c M O U := ⟨h.box.only0 ho, (rep_md b M).only h.md ho (by simp), h.only.trans' ho⟩
theorem MSt.c {w W : World} {N b : Nat} {c : Cl} {M : Md} {O : List Nat} (h : MSt w N b c M O W) : W.cell? ⟨N, 1, none⟩ = some (.int .i64 c.f) ∧ W.cell? ⟨b, 0, none⟩ = some (.int .i64 M.c.sh) ∧ W.cell? ⟨b, 1, none⟩ = some (.int .i64 M.c.sl) := by
  obtain ⟨s, m, Q, h1, _⟩ := h.md
  exact ⟨h.box.c.2.1, h1.blk.c.1, h1.blk.c.2.1⟩
theorem MSt.start {w : World} {b : Nat} {M : Md} {O : List Nat} (h : MdOf b M w O) (c : Cl) : MSt w w.heap.size b c M O (w.alloc (.cells #[.int .i64 c.op, .int .i64 c.f, .int .i64 c.a, .int .i64 c.b] 44)) :=
  ⟨CBox.new w c, (rep_md b M).only h ((Only.refl [] w).alloc _) (by simp), (Only.refl [] w).alloc _⟩
section
variable (w : World) (b : Nat) (M : Md) (O : List Nat) (h : MdOf b M w O)
include h
set_option maxHeartbeats 4000000 in
theorem mRefusal (c : Cl) (hc : c.ok) (k j : Nat) (hM : M.ok k j) (hk : k ≤ 1000) : Calls Try.prog 42 #[.pointer (some ⟨b, 0, none⟩), .agg #[.int .i64 c.op, .int .i64 c.f, .int .i64 c.a, .int .i64 c.b]] w fun e w' => e = .returned (.int .i64 (M.regE c)) ∧ Only [] w w' := by
  have S0 := MSt.start h c
  obtain ⟨x0, x1, x2, x3⟩ := S0.box.c
  obtain ⟨_, y0, y1⟩ := S0.c
  have KL := mLen _ b M O S0.md c.f hc.2.1
  have KT := Lib.hid (fun W (hW : MSt w w.heap.size b c M O W) => mTaken W b M O hW.md (c.f.tmod M.c.sh) hM.c.sh1 (Nat.le_trans hM.len hk))
  have hs1 := hM.c.sh1
  have st : Hid (MSt w w.heap.size b c M O _) := S0.on (Only.refl [] _).drew
  have HO := Lib.hid S0.only
  have hlt := S0.box.lt
  have hne : ¬ (M.c.sh = 0) := by omega
  have hne' : (M.c.sh == 0) = false := by simpa using hne
  clear h hM S0 hc
  go_enter Try.func42, Try.ntmps42
  go_wp2_with fail
  generalize w.alloc (.cells #[.int .i64 c.op, .int .i64 c.f, .int .i64 c.a, .int .i64 c.b] 44) = W at *
  obtain ⟨N, eN⟩ : ∃ N, w.heap.size = N := ⟨_, rfl⟩
  rw [eN] at x0 x1 x2 x3 hlt st KT ⊢
  clear eN
  refine (mWithin c.f 0 1048576 W).mono ?_
  rintro e W ⟨rfl, rfl⟩
  by_cases h1 : 0 ≤ c.f ∧ c.f ≤ 1048576
  · have d1 : decide (0 ≤ c.f ∧ c.f ≤ 1048576) = true := decide_eq_true h1
    have H1 := Lib.hid h1
    rw [d1]
    clear d1 h1
    go_wp2_with fail
    refine (mWithin c.a 1 65536 W).mono ?_
    rintro e W ⟨rfl, rfl⟩
    by_cases h2 : 1 ≤ c.a ∧ c.a ≤ 65536
    · have d2 : decide (1 ≤ c.a ∧ c.a ≤ 65536) = true := decide_eq_true h2
      have H2 := Lib.hid h2
      rw [d2]
      clear d2 h2
      go_wp2_with fail
      refine (mWithin c.b 1 8 W).mono ?_
      rintro e W ⟨rfl, rfl⟩
      by_cases h3 : 1 ≤ c.b ∧ c.b ≤ 8
      · have d3 : decide (1 ≤ c.b ∧ c.b ≤ 8) = true := decide_eq_true h3
        have H3 := Lib.hid h3
        rw [d3]
        clear d3 h3
        go_wp2_with fail
        refine KL.mono ?_
        rintro e W ⟨rfl, rfl⟩
        unfold lenI
        rcases hh : hasK M.S.l c.f with _ | _
        · rw [if_neg (by simp)]
          obtain ⟨T, eT⟩ : ∃ T, takenI (idsOf M.S.l) M.c.sh (c.f.tmod M.c.sh) = T := ⟨_, rfl⟩
          rw [eT] at KT
          have eR : M.regE c = if M.c.sl ≤ (T : Int) then 7 else 0 := by
            unfold Md.regE
            rw [if_neg (by simpa using H1.out), if_neg (by simpa using H2.out), if_neg (by simpa using H3.out), if_neg (by simp [hh]), eT]
          have ER := Lib.hid eR
          clear eR eT KL hh
          go_wp2_with fail
          go_region_held3 (fun w' => w'.cell? ⟨N, 1, none⟩ = some (.int .i64 c.f) ∧ w'.cell? ⟨b, 0, none⟩ = some (.int .i64 M.c.sh) ∧ w'.cell? ⟨b, 1, none⟩ = some (.int .i64 M.c.sl))
            (first | (exact st.out.c) | go_keep)
            (first
              | (go_at_call 57
                 refine (KT.out _ st.out).mono ?_
                 rintro e u ⟨rfl, o2⟩
                 have st := Lib.hid (st.out.on o2)
                 clear o2))
          all_goals
            by_cases h7 : M.c.sl ≤ (T : Int)
            · have d7 : decide (M.c.sl ≤ (T : Int)) = true := decide_eq_true h7
              have ER := Lib.hid (ER.out.trans (if_pos h7))
              go_wp2_with fail
              go_ret
              exact ⟨by rw [ER.out]; rfl, st.out.only⟩
            · have d7 : decide (M.c.sl ≤ (T : Int)) = false := decide_eq_false h7
              have ER := Lib.hid (ER.out.trans (if_neg h7))
              go_wp2_with fail
              go_ret
              exact ⟨by rw [ER.out]; rfl, st.out.only⟩
        · have eR : M.regE c = 6 := by
            unfold Md.regE
            rw [if_neg (by simpa using H1.out), if_neg (by simpa using H2.out), if_neg (by simpa using H3.out), if_pos hh]
          rw [if_pos rfl]
          have ER := Lib.hid eR
          have hn : (0 : Int) ≤ ((getK M.S.l c.f).l.length : Int) := by omega
          clear eR
          go_wp2_with fail
          go_ret
          exact ⟨by rw [ER.out]; rfl, HO.out⟩
      · have d3 : decide (1 ≤ c.b ∧ c.b ≤ 8) = false := decide_eq_false h3
        have eR : M.regE c = 1 := by
          unfold Md.regE
          rw [if_neg (by simpa using H1.out), if_neg (by simpa using H2.out), if_pos h3]
        rw [d3]
        have ER := Lib.hid eR
        clear d3 h3 eR
        go_wp2_with fail
        go_ret
        exact ⟨by rw [ER.out]; rfl, HO.out⟩
    · have d2 : decide (1 ≤ c.a ∧ c.a ≤ 65536) = false := decide_eq_false h2
      have eR : M.regE c = 4 := by
        unfold Md.regE
        rw [if_neg (by simpa using H1.out), if_pos h2]
      rw [d2]
      have ER := Lib.hid eR
      clear d2 h2 eR
      go_wp2_with fail
      go_ret
      exact ⟨by rw [ER.out]; rfl, HO.out⟩
  · have d1 : decide (0 ≤ c.f ∧ c.f ≤ 1048576) = false := decide_eq_false h1
    have eR : M.regE c = 1 := by
      unfold Md.regE
      rw [if_pos h1]
    rw [d1]
    have ER := Lib.hid eR
    clear d1 h1 eR
    go_wp2_with fail
    go_ret
    exact ⟨by rw [ER.out]; rfl, HO.out⟩
end
end Go.Proofs.Ytklolepmmabijaa

namespace Go.Proofs.Ytklolepmmabijaa
set_option maxRecDepth 100000
open Go.RowKit
set_option linter.unusedVariables false
set_option linter.unusedSimpArgs false
set_option maxRecDepth 100000

/-- What a call's body keeps: the call and the answer in their blocks, the model beside them. -/
structure MFr (w W0 : World) (N b : Nat) (c : Cl) (O : List Nat) (C : Cf) (S : Sq) (f : Int → Option Int) (n : Int) (s m : Nat) (Q : List Nat) (W : World) : Prop where
  hN : w.heap.size = N
  o0 : Only [] w W0
  lt : N + 1 < W0.heap.size
  hO : ∀ k ∈ O, k < N
  box : CBox W N c
  ret : RBox W (N + 1) 0 (.slice none 0 0) 0 0
  md : MdAt W b C S f n s m Q
  wt : Went W0 O W (ownM b m Q)
section
variable {w W0 W U : World} {N b s m : Nat} {c : Cl} {O Q : List Nat} {C : Cf} {S S' : Sq} {f f' : Int → Option Int} {n : Int}
theorem MFr.start {M : Md} (h : MdIs w b M s m Q) (c : Cl) : MFr w ((w.alloc (.cells #[.int .i64 c.op, .int .i64 c.f, .int .i64 c.a, .int .i64 c.b] 44)).alloc (.cells #[.int .i64 0, .slice none 0 0, .int .i64 0, .int .u64 0] 47)) w.heap.size b c (ownM b m Q) M.c M.S (lensK M.S.l) M.n s m Q ((w.alloc (.cells #[.int .i64 c.op, .int .i64 c.f, .int .i64 c.a, .int .i64 c.b] 44)).alloc (.cells #[.int .i64 0, .slice none 0 0, .int .i64 0, .int .u64 0] 47)) := by
  have o1 : Only [] w (w.alloc (.cells #[.int .i64 c.op, .int .i64 c.f, .int .i64 c.a, .int .i64 c.b] 44)) := (Only.refl [] w).alloc _
  have o2 : Only [] (w.alloc (.cells #[.int .i64 c.op, .int .i64 c.f, .int .i64 c.a, .int .i64 c.b] 44)) ((w.alloc (.cells #[.int .i64 c.op, .int .i64 c.f, .int .i64 c.a, .int .i64 c.b] 44)).alloc (.cells #[.int .i64 0, .slice none 0 0, .int .i64 0, .int .u64 0] 47)) := (Only.refl [] _).alloc _
  have r := RBox.new (w.alloc (.cells #[.int .i64 c.op, .int .i64 c.f, .int .i64 c.a, .int .i64 c.b] 44)) 0 (.slice none 0 0) 0 0
  have e1 : (w.alloc (.cells #[.int .i64 c.op, .int .i64 c.f, .int .i64 c.a, .int .i64 c.b] 44)).heap.size = w.heap.size + 1 := by simp
  rw [e1] at r
  exact ⟨rfl, o1.trans' o2, r.lt, h.lt, (CBox.new w c).only0 o2, r, h.only0 (o1.trans' o2), Went.refl _ _⟩
theorem MFr.apart (h : MFr w W0 N b c O C S f n s m Q W) : ∀ k ∈ ownM b m Q, k < N ∨ N + 1 < k := fun k hk => by
  rcases h.wt.2 k hk with h1 | h1
  · exact .inl (h.hO k h1)
  · have := h.lt; omega
theorem MFr.outN (h : MFr w W0 N b c O C S f n s m Q W) : N ∉ ownM b m Q := fun hk => by have := h.apart N hk; omega
theorem MFr.outR (h : MFr w W0 N b c O C S f n s m Q W) : N + 1 ∉ ownM b m Q := fun hk => by have := h.apart (N + 1) hk; omega
theorem MFr.on (h : MFr w W0 N b c O C S f n s m Q W) (ho : Only [] W U) : MFr w W0 N b c O C S f n s m Q U :=
  ⟨h.hN, h.o0, h.lt, h.hO, h.box.only0 ho, h.ret.only0 ho, h.md.only0 ho, h.wt.trans (Went.still ho _)⟩
theorem MFr.turn (h : MFr w W0 N b c O C S f n s m Q W) (t : STo W s Q S' U) : ∃ Q', MFr w W0 N b c O C S' f n s m Q' U := by
  obtain ⟨Q', h1, h2⟩ := h.md.turn t
  exact ⟨Q', h.hN, h.o0, h.lt, h.hO, h.box.only h2.1 h.outN, h.ret.only h2.1 h.outR, h1, h.wt.trans h2⟩
theorem MFr.mapped (h : MFr w W0 N b c O C S f n s m Q W) (hm : MapAt U m f') (hg : W.grownBy U (some m)) : MFr w W0 N b c O C S f' n s m Q U := by
  obtain ⟨h1, h2⟩ := h.md.mapped hm hg
  exact ⟨h.hN, h.o0, h.lt, h.hO, h.box.only h2.1 h.outN, h.ret.only h2.1 h.outR, h1, h.wt.trans h2⟩
theorem MFr.counted (h : MFr w W0 N b c O C S f n s m Q W) (x : Int) : MFr w W0 N b c O C S f x s m Q (W.setCell ⟨b, 5, none⟩ (.int .i64 x)) := by
  obtain ⟨h1, h2⟩ := h.md.counted x
  exact ⟨h.hN, h.o0, h.lt, h.hO, h.box.only h2.1 h.outN, h.ret.only h2.1 h.outR, h1, h.wt.trans h2⟩
theorem MFr.fin {M' : Md} (h : MFr w W0 N b c O M'.c M'.S (lensK M'.S.l) M'.n s m Q W) (a b' c' d : Value) : Tl (MdOf b M') w O (.slice none 0 0) [] ((((W.setCell ⟨N + 1, 0, none⟩ a).setCell ⟨N + 1, 1, none⟩ b').setCell ⟨N + 1, 2, none⟩ c').setCell ⟨N + 1, 3, none⟩ d) :=
  Tl.boxed (rep_md b M') h.o0 (Tl.plain ⟨s, m, Q, h.md, rfl⟩ h.wt) (by have := h.hN; omega) h.lt (by rw [h.hN]; exact h.hO) (only_ret _ _ _ _ _ _)
theorem MFr.finP {M' : Md} {v : Value} {ps : List Pk} (h : MFr w W0 N b c O M'.c M'.S (lensK M'.S.l) M'.n s m Q W) (hp : PRow W v ps) (hv : ∀ g, v.ownBlock = some g → W0.heap.size ≤ g ∧ g ∉ ownM b m Q) (a b' c' d : Value) : Tl (MdOf b M') w O v ps ((((W.setCell ⟨N + 1, 0, none⟩ a).setCell ⟨N + 1, 1, none⟩ b').setCell ⟨N + 1, 2, none⟩ c').setCell ⟨N + 1, 3, none⟩ d) :=
  Tl.boxed (rep_md b M') h.o0 ⟨_, ⟨s, m, Q, h.md, rfl⟩, h.wt, hp, hv⟩ (by have := h.hN; omega) h.lt (by rw [h.hN]; exact h.hO) (only_ret _ _ _ _ _ _)
end
section
variable {w : World} {ops : Array Oper} {o : Oper} {a : Act} {Q : Exit → Act → World → Prop}
/-- 'delete(m, k)' as a step. -/
theorem wpList_delM {rest : List Oper} (hgd : o.guard = none) (m x : Operand) (ho : o.op = .call { callee := .builtin .delete, args := #[m, x], argTypes := #[54, 3] })
    (b : Nat) (f : Int → Option Int) (k : Int) (hm : a.eval m = .map (some b)) (hx : a.eval x = .int .i64 k) (h : MapAt w b f) (hk : i64ok k)
    (hK : ∀ w', MapAt w' b (off f k) → w.grownBy w' (some b) → wpList Try.prog ops Q rest (a.put o.dst (.tuple #[])) w') : wpList Try.prog ops Q (o :: rest) a w := by
  refine wpList_plain hgd fun K hK' => ?_
  obtain ⟨w', r1, r2, r3⟩ := h.del hk 54 o.type Try.underlying54
  unfold Oper.wp execOp
  simp only [ho, resolve, invoke, builtin, Sem.run_bind, Sem.run_pure, Result.andThen_ok, List.map_toArray, List.map_cons, List.map_nil, hm, hx, r1]
  exact hK' _ _ (hK w' r2 r3)
end
section
variable (w : World) (b : Nat) (M : Md) (O : List Nat) (h : MdOf b M w O)
include h
set_option maxHeartbeats 4000000 in
theorem mShut (c : Cl) (hc : c.ok) : Calls Try.prog 28 #[.pointer (some ⟨b, 0, none⟩), .agg #[.int .i64 c.op, .int .i64 c.f, .int .i64 c.a, .int .i64 c.b]] w fun e w' =>
    e = .returned (.agg #[.int .i64 (M.S.remE c.f), .slice none 0 0, .int .i64 0, .int .u64 0]) ∧ Tl (MdOf b (M.rem c.f)) w O (.slice none 0 0) [] w' := by
  obtain ⟨s, m, Q, h, rfl⟩ := h
  have st := Lib.hid (MFr.start h c)
  obtain ⟨c0, c1, c2, c3, c4, c5⟩ := st.out.md.blk.c
  obtain ⟨x0, x1, x2, x3⟩ := st.out.box.c
  have hsrt := h.sq.ok.srt
  clear h
  go_enter Try.func28, Try.ntmps28
  go_wp2_with fail
  generalize (w.alloc (.cells #[.int .i64 c.op, .int .i64 c.f, .int .i64 c.a, .int .i64 c.b] 44)).alloc (.cells #[.int .i64 0, .slice none 0 0, .int .i64 0, .int .u64 0] 47) = W at *
  obtain ⟨N, eN⟩ : ∃ N, w.heap.size = N := ⟨_, rfl⟩
  rw [eN] at x0 x1 x2 x3 st ⊢
  clear eN
  go_still_tail 6, (by kernel_rfl)
  change wpList _ _ _ _ _ W.drew
  have k1 := sRemove W.drew s M.S Q (st.out.on (Only.refl [] W).drew).md.sq c.f
  go_wp2_with fail
  refine k1.mono ?_
  rintro e W2 ⟨rfl, t2⟩
  obtain ⟨Q2, st2⟩ := (st.out.on (Only.refl [] W).drew).turn t2
  have st := Lib.hid st2
  obtain ⟨_, _, _, _, d4, _⟩ := st2.md.blk.c
  obtain ⟨_, z1, _, _⟩ := st2.box.c
  obtain ⟨r0, r1, r2, r3⟩ := st2.ret.c
  have f0 := st2.ret.fr 0
  have f1 := st2.ret.fr 1
  have f2 := st2.ret.fr 2
  have f3 := st2.ret.fr 3
  clear c0 c1 c2 c3 c4 c5 x0 x1 x2 x3 k1 t2 st2
  by_cases he : M.S.remE c.f = 0
  · have HE := Lib.hid he
    rw [he]
    clear he
    go_wp2_with fail
    go_still_tail 6, (by kernel_rfl)
    change wpList _ _ _ _ _ W2.drew
    have st3 := st.out.on (Only.refl [] W2).drew
    refine wpList_delM rfl (.tmp 18) (.tmp 20) rfl m (lensK M.S.l) c.f rfl rfl st3.md.map hc.2.1 ?_
    intro W3 m3 g3
    rw [← Sq.rem_yes hsrt HE.out] at m3
    have st4 := st3.mapped m3 g3
    obtain ⟨r0, r1, r2, r3⟩ := st4.ret.c
    have f0 := st4.ret.fr 0
    have f1 := st4.ret.fr 1
    have f2 := st4.ret.fr 2
    have f3 := st4.ret.fr 3
    have ST := Lib.hid st4
    clear m3 g3 st3 st4
    go_wp2_with fail
    refine bodyPost_ret ?_ rfl ⟨rfl, ?_⟩
    · rw [results_cell1 rfl, HE.out]; go_simp
    · exact ST.out.fin (M' := M.rem c.f) _ _ _ _
  · have he' : (M.S.remE c.f == 0) = false := by simpa using he
    have ST : Hid (MFr w W N b c (ownM b m Q) (M.rem c.f).c (M.rem c.f).S (lensK (M.rem c.f).S.l) (M.rem c.f).n s m Q2 W2) := by
      have := st.out
      unfold Md.rem
      rw [Sq.rem_no he] at this ⊢
      exact this
    clear he
    go_wp2_with fail
    refine bodyPost_ret ?_ rfl ⟨rfl, ?_⟩
    · rw [results_cell1 rfl]; go_simp
    · exact ST.out.fin (M' := M.rem c.f) _ _ _ _
end
end Go.Proofs.Ytklolepmmabijaa

namespace Go.Proofs.Ytklolepmmabijaa
set_option maxRecDepth 100000
open Go.RowKit
set_option linter.unusedVariables false
set_option linter.unusedSimpArgs false
set_option maxRecDepth 100000

section
variable (w : World) (b : Nat) (M : Md) (O : List Nat) (h : MdOf b M w O)
include h
set_option maxHeartbeats 4000000 in
theorem mRegister (c : Cl) (hc : c.ok) (k j : Nat) (hM : M.ok k j) (hk : k < 1000) : Calls Try.prog 27 #[.pointer (some ⟨b, 0, none⟩), .agg #[.int .i64 c.op, .int .i64 c.f, .int .i64 c.a, .int .i64 c.b]] w fun e w' =>
    e = .returned (.agg #[.int .i64 (M.regE c), .slice none 0 0, .int .i64 0, .int .u64 0]) ∧ Tl (MdOf b (if M.regE c = 0 then M.reg c else M)) w O (.slice none 0 0) [] w' := by
  obtain ⟨s, m, Q, h, rfl⟩ := h
  have st := Lib.hid (MFr.start h c)
  obtain ⟨x0, x1, x2, x3⟩ := st.out.box.c
  have k1 := mRefusal _ b M _ ⟨s, m, Q, st.out.md, rfl⟩ c hc k j hM (by omega)
  have HM := Lib.hid (And.intro hM (And.intro hc hk))
  clear h hM hc hk
  go_enter Try.func27, Try.ntmps27
  go_wp2_with fail
  generalize (w.alloc (.cells #[.int .i64 c.op, .int .i64 c.f, .int .i64 c.a, .int .i64 c.b] 44)).alloc (.cells #[.int .i64 0, .slice none 0 0, .int .i64 0, .int .u64 0] 47) = W at *
  obtain ⟨N, eN⟩ : ∃ N, w.heap.size = N := ⟨_, rfl⟩
  rw [eN] at x0 x1 x2 x3 st ⊢
  clear eN
  refine k1.mono ?_
  rintro e W1 ⟨rfl, o1⟩
  have st1 := st.out.on o1
  have st := Lib.hid st1
  obtain ⟨x0, x1, x2, x3⟩ := st1.box.c
  obtain ⟨c0, c1, c2, c3, c4, c5⟩ := st1.md.blk.c
  obtain ⟨r0, r1, r2, r3⟩ := st1.ret.c
  have f0 := st1.ret.fr 0
  have f1 := st1.ret.fr 1
  have f2 := st1.ret.fr 2
  have f3 := st1.ret.fr 3
  clear k1 o1 st1
  by_cases he : M.regE c = 0
  · have HE := Lib.hid he
    have hreg : (0 ≤ c.f ∧ c.f ≤ 1048576) ∧ (1 ≤ c.a ∧ c.a ≤ 65536) ∧ (1 ≤ c.b ∧ c.b ≤ 8) ∧ hasK M.S.l c.f = false := by
      unfold Md.regE at he
      split at he
      · cases he
      · split at he
        · cases he
        · split at he
          · cases he
          · split at he
            · cases he
            · rename_i g1 g2 g3 g4
              exact ⟨Decidable.of_not_not g1, Decidable.of_not_not g2, Decidable.of_not_not g3, by simpa using g4⟩
    obtain ⟨g1, ⟨ga, gb⟩, g3, g4⟩ := hreg
    rw [he]
    have KI := Lib.hid (fun W => inv_ok M.c.un c.a W HM.out.1.c.un1 HM.out.1.c.un2 ga gb)
    have hu := invM_u64 M.c.un c.a HM.out.1.c.un1 HM.out.1.c.un2 ga
    have HG := Lib.hid (And.intro g4 hu)
    have st2 := st.out.on (Only.refl [] W1).drew
    have hcells : Hid (W1.drew.cell? ⟨b, 2, none⟩ = some (.int .u64 M.c.un) ∧ W1.drew.cell? ⟨N, 2, none⟩ = some (.int .i64 c.a)) := ⟨st2.md.blk.c.2.2.1, st2.box.c.2.2.1⟩
    have ST2 := Lib.hid st2
    clear he g1 ga gb g3 g4 hu st2
    go_wp2_with fail
    go_region_held3 (fun w' => w'.cell? ⟨b, 2, none⟩ = some (.int .u64 M.c.un) ∧ w'.cell? ⟨N, 2, none⟩ = some (.int .i64 c.a))
      (first | (exact hcells.out) | go_keep)
      (first | (go_at_call 43; refine (KI.out _).mono ?_; rintro e u ⟨rfl, rfl⟩))
    all_goals
    clear x0 x1 x2 x3 c0 c1 c2 c3 c4 c5 r0 r1 r2 r3 f0 f1 f2 f3 st hcells KI
    obtain ⟨x0, x1, x2, x3⟩ := ST2.out.box.c
    obtain ⟨_, _, _, c3, _, _⟩ := ST2.out.md.blk.c
    have st := ST2
    have st2 := ST2.out
    clear ST2
    generalize W1.drew = W2 at *
    have kA := sAdd W2.drew s M.S Q (st2.on (Only.refl [] _).drew).md.sq c.f (invM M.c.un c.a) c.b HM.out.2.1.2.1 HG.out.2 (by have := HM.out.1.len; have := HM.out.2.2; omega)
    rw [HG.out.1] at kA
    clear st2
    go_wp2_with fail
    go_still_tail 9, (by kernel_rfl)
    change wpList _ _ _ _ _ W2.drew
    go_wp2_with fail
    refine kA.mono ?_
    rintro e W3 ⟨rfl, t3⟩
    obtain ⟨Q3, st3⟩ := (st.out.on (Only.refl [] W2).drew).turn t3
    obtain ⟨x0, x1, x2, x3⟩ := st3.box.c
    obtain ⟨_, _, _, _, c4, _⟩ := st3.md.blk.c
    have st := Lib.hid st3
    have eA : M.S.add c.f (invM M.c.un c.a) (room c.b) = ⟨M.S.v, M.S.m, insK M.S.l (c.f, Fl.new (invM M.c.un c.a) (room c.b))⟩ := by unfold Sq.add; rw [if_neg (by simp [HG.out.1])]
    have eL := lensK_ins HM.out.1.s.srt HG.out.1 (Fl.new (invM M.c.un c.a) (room c.b))
    obtain ⟨W4, u4, m4, g4⟩ := (st3.on (Only.refl [] W3).drew).md.map.put HM.out.2.1.2.1 0 54 Try.underlying54
    have st4 := (st3.on (Only.refl [] W3).drew).mapped m4 g4
    have eM : upd (lensK M.S.l) c.f 0 = lensK (M.reg c).S.l := by
      show _ = lensK (M.S.add c.f (invM M.c.un c.a) (room c.b)).l
      rw [eA, eL]
      rfl
    rw [eM] at st4
    obtain ⟨r0, r1, r2, r3⟩ := st4.ret.c
    have f0 := st4.ret.fr 0
    have f1 := st4.ret.fr 1
    have f2 := st4.ret.fr 2
    have f3 := st4.ret.fr 3
    have ST := Lib.hid st4
    clear kA t3 st3 eA eL m4 g4 st4 eM c3
    go_wp2_with fail
    go_still_tail 6, (by kernel_rfl)
    change wpList _ _ _ _ _ W3.drew
    generalize W3.drew = W3' at u4 ⊢
    go_wp2_with fail
    refine bodyPost_ret ?_ rfl ⟨rfl, ?_⟩
    · first | (rw [results_cell1 rfl, HE.out]; go_simp) | (rw [results_cell1 rfl]; go_simp)
    · first | exact ST.out.fin (M' := M.reg c) _ _ _ _ | (rw [if_pos HE.out]; exact ST.out.fin (M' := M.reg c) _ _ _ _)
  · have he' : (M.regE c != 0) = true := by simpa using he
    have HE := Lib.hid he
    clear he
    go_wp2_with fail
    refine bodyPost_ret ?_ rfl ⟨rfl, ?_⟩
    · rw [results_cell1 rfl]; go_simp
    · first | exact st.out.fin (M' := M) _ _ _ _ | (rw [if_neg HE.out]; exact st.out.fin (M' := M) _ _ _ _)
end
end Go.Proofs.Ytklolepmmabijaa
