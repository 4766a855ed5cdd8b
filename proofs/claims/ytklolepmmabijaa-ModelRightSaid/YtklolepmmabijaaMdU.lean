/-
  Ours: enqueue, dequeue, stats.
-/
import Derived.Test.YtklolepmmabijaaGmW
namespace Go.Proofs.Ytklolepmmabijaa
set_option maxRecDepth 100000
open Go.RowKit
set_option linter.unusedVariables false
set_option linter.unusedSimpArgs false
set_option maxRecDepth 100000

theorem PRow.box {w : World} {b : Nat} {x : Pk} (h : PBox w b x) : PRow w (.slice (some ⟨b, 0, none⟩) 1 1) [x] :=
  ⟨rfl, .inr ⟨b, 1, _, rfl, Nat.zero_le _, h, Nat.le_refl _, by decide, rfl, by simp [pflat, Pk.cs]⟩⟩
section
variable (w : World) (b : Nat) (M : Md) (O : List Nat) (h : MdOf b M w O)
include h
set_option maxHeartbeats 4000000 in
theorem mEnqueue (c : Cl) (hc : c.ok) : Calls Try.prog 29 #[.pointer (some ⟨b, 0, none⟩), .agg #[.int .i64 c.op, .int .i64 c.f, .int .i64 c.a, .int .i64 c.b]] w fun e w' =>
    e = .returned (.agg #[.int .i64 (if 1 ≤ c.a ∧ c.a ≤ 65536 then M.S.arrE ⟨c.f, c.a, c.b⟩ else 3), .slice none 0 0, .int .i64 0, .int .u64 0]) ∧ Tl (MdOf b (if 1 ≤ c.a ∧ c.a ≤ 65536 then M.arr ⟨c.f, c.a, c.b⟩ else M)) w O (.slice none 0 0) [] w' := by
  obtain ⟨s, m, Q, h, rfl⟩ := h
  have st := Lib.hid (MFr.start h c)
  obtain ⟨x0, x1, x2, x3⟩ := st.out.box.c
  obtain ⟨c0, c1, c2, c3, c4, c5⟩ := st.out.md.blk.c
  obtain ⟨r0, r1, r2, r3⟩ := st.out.ret.c
  have f0 := st.out.ret.fr 0
  have f1 := st.out.ret.fr 1
  have f2 := st.out.ret.fr 2
  have f3 := st.out.ret.fr 3
  have HS := Lib.hid h.sq.ok
  have HC := Lib.hid hc
  clear h hc
  by_cases ha : 1 ≤ c.a ∧ c.a ≤ 65536
  · have kw := mWithin c.a 1 65536 ((w.alloc (.cells #[.int .i64 c.op, .int .i64 c.f, .int .i64 c.a, .int .i64 c.b] 44)).alloc (.cells #[.int .i64 0, .slice none 0 0, .int .i64 0, .int .u64 0] 47))
    rw [decide_eq_true ha] at kw
    rw [if_pos ha, if_pos ha]
    clear ha
    go_enter Try.func29, Try.ntmps29
    go_wp2_with fail
    generalize (w.alloc (.cells #[.int .i64 c.op, .int .i64 c.f, .int .i64 c.a, .int .i64 c.b] 44)).alloc (.cells #[.int .i64 0, .slice none 0 0, .int .i64 0, .int .u64 0] 47) = W at *
    obtain ⟨N, eN⟩ : ∃ N, w.heap.size = N := ⟨_, rfl⟩
    rw [eN] at x0 x1 x2 x3 r0 r1 r2 r3 f0 f1 f2 f3 st ⊢
    clear eN
    refine kw.mono ?_
    rintro e W ⟨rfl, rfl⟩
    clear kw
    go_wp2_with fail
    go_still_tail 11, (by kernel_rfl)
    change wpList _ _ _ _ _ W.drew
    have kA := sArrive W.drew s M.S Q (st.out.on (Only.refl [] W).drew).md.sq ⟨c.f, c.a, c.b⟩ ⟨HC.out.2.1, HC.out.2.2.1, HC.out.2.2.2⟩
    simp only at kA
    go_wp2_with fail
    refine kA.mono ?_
    rintro e W2 ⟨rfl, t2⟩
    obtain ⟨Q2, st2⟩ := (st.out.on (Only.refl [] W).drew).turn t2
    have st := Lib.hid st2
    obtain ⟨_, _, _, _, d4, _⟩ := st2.md.blk.c
    obtain ⟨_, z1, _, _⟩ := st2.box.c
    clear c0 c1 c2 c3 c4 c5 x0 x1 x2 x3 r0 r1 r2 r3 f0 f1 f2 f3 kA t2
    obtain ⟨r0, r1, r2, r3⟩ := st2.ret.c
    have f0 := st2.ret.fr 0
    have f1 := st2.ret.fr 1
    have f2 := st2.ret.fr 2
    have f3 := st2.ret.fr 3
    clear st2
    by_cases he : M.S.arrE ⟨c.f, c.a, c.b⟩ = 0
    · have HE := Lib.hid he
      obtain ⟨e1, e2⟩ := Sq.arr_yes HS.out.srt he
      simp only at e1 e2
      have hl8 : ((getK M.S.l c.f).l.length : Int) ≤ 8 := by
        have hh : hasK M.S.l c.f = true := by
          have := lensK_isSome M.S.l c.f
          rw [e1] at this
          exact this.symm
        have hF := (HS.out.wf _ (mem_getK HS.out.srt hh)).2
        have h1 := hF.len
        have h2 := hF.n8
        simp only at h1 h2
        omega
      rw [he]
      have mp := (st.out.on (Only.refl [] W2).drew).md.map
      have lk := mp.look1 HC.out.2.1 54 Try.underlying54
      rw [e1] at lk
      simp only [Option.getD_some] at lk
      obtain ⟨W3, u3, m3, g3⟩ := mp.put HC.out.2.1 (((getK M.S.l c.f).l.length : Int) + 1) 54 Try.underlying54
      have st3 := (st.out.on (Only.refl [] W2).drew).mapped m3 g3
      rw [← e2] at st3
      clear he e1 e2 mp m3 g3 r0 r1 r2 r3 f0 f1 f2 f3
      obtain ⟨r0, r1, r2, r3⟩ := st3.ret.c
      have f0 := st3.ret.fr 0
      have f1 := st3.ret.fr 1
      have f2 := st3.ret.fr 2
      have f3 := st3.ret.fr 3
      have ST := Lib.hid st3
      have hl0 : (0 : Int) ≤ ((getK M.S.l c.f).l.length : Int) := by omega
      clear st3
      generalize ((getK M.S.l c.f).l.length : Int) = L at *
      go_wp2_with fail
      go_still_tail 6, (by kernel_rfl)
      change wpList _ _ _ _ _ W2.drew
      generalize W2.drew = W2' at u3 lk ⊢
      go_wp2_with fail
      refine bodyPost_ret ?_ rfl ⟨rfl, ?_⟩
      · first | (rw [results_cell1 rfl, HE.out]; go_simp) | (rw [results_cell1 rfl]; go_simp)
      · exact ST.out.fin (M' := M.arr ⟨c.f, c.a, c.b⟩) _ _ _ _
    · have he' : (M.S.arrE ⟨c.f, c.a, c.b⟩ == 0) = false := by simpa using he
      have ST : Hid (MFr w W N b c (ownM b m Q) (M.arr ⟨c.f, c.a, c.b⟩).c (M.arr ⟨c.f, c.a, c.b⟩).S (lensK (M.arr ⟨c.f, c.a, c.b⟩).S.l) (M.arr ⟨c.f, c.a, c.b⟩).n s m Q2 W2) := by
        have := st.out
        unfold Md.arr
        rw [Sq.arr_no HS.out.srt he] at this ⊢
        exact this
      clear he
      go_wp2_with fail
      refine bodyPost_ret ?_ rfl ⟨rfl, ?_⟩
      · rw [results_cell1 rfl]; go_simp
      · exact ST.out.fin (M' := M.arr ⟨c.f, c.a, c.b⟩) _ _ _ _
  · have kw := mWithin c.a 1 65536 ((w.alloc (.cells #[.int .i64 c.op, .int .i64 c.f, .int .i64 c.a, .int .i64 c.b] 44)).alloc (.cells #[.int .i64 0, .slice none 0 0, .int .i64 0, .int .u64 0] 47))
    rw [decide_eq_false ha] at kw
    rw [if_neg ha, if_neg ha]
    clear ha
    go_enter Try.func29, Try.ntmps29
    go_wp2_with fail
    generalize (w.alloc (.cells #[.int .i64 c.op, .int .i64 c.f, .int .i64 c.a, .int .i64 c.b] 44)).alloc (.cells #[.int .i64 0, .slice none 0 0, .int .i64 0, .int .u64 0] 47) = W at *
    obtain ⟨N, eN⟩ : ∃ N, w.heap.size = N := ⟨_, rfl⟩
    rw [eN] at x0 x1 x2 x3 r0 r1 r2 r3 f0 f1 f2 f3 st ⊢
    clear eN
    refine kw.mono ?_
    rintro e W ⟨rfl, rfl⟩
    clear kw
    go_wp2_with fail
    refine bodyPost_ret ?_ rfl ⟨rfl, ?_⟩
    · rw [results_cell1 rfl]; go_simp
    · exact st.out.fin (M' := M) _ _ _ _
set_option maxHeartbeats 4000000 in
theorem mDequeue (c : Cl) (k j : Nat) (hM : M.ok k j) (hj : j ≤ 1000000) : Calls Try.prog 30 #[.pointer (some ⟨b, 0, none⟩), .agg #[.int .i64 c.op, .int .i64 c.f, .int .i64 c.a, .int .i64 c.b]] w fun e w' =>
    ∃ A cap, e = .returned (.agg #[.int .i64 M.oneR.e, .slice A M.oneR.ps.length cap, .int .i64 0, .int .u64 0]) ∧ Tl (MdOf b M.one) w O (.slice A M.oneR.ps.length cap) M.oneR.ps w' := by
  obtain ⟨s, m, Q, h, rfl⟩ := h
  have st := Lib.hid (MFr.start h c)
  obtain ⟨c0, c1, c2, c3, c4, c5⟩ := st.out.md.blk.c
  have kS := sServe _ s M.S Q st.out.md.sq
  have HM := Lib.hid (And.intro hM hj)
  clear h hM hj
  go_enter Try.func30, Try.ntmps30
  go_wp2_with fail
  generalize (w.alloc (.cells #[.int .i64 c.op, .int .i64 c.f, .int .i64 c.a, .int .i64 c.b] 44)).alloc (.cells #[.int .i64 0, .slice none 0 0, .int .i64 0, .int .u64 0] 47) = W at *
  obtain ⟨N, eN⟩ : ∃ N, w.heap.size = N := ⟨_, rfl⟩
  rw [eN] at st ⊢
  clear eN
  refine kS.mono ?_
  rintro e W2 ⟨rfl, t2⟩
  obtain ⟨Q2, st2⟩ := st.out.turn t2
  have oP : Only [] W2 (W2.alloc (.cells #[.int .i64 M.S.hd.f, .int .i64 M.S.hd.l, .int .i64 M.S.hd.m] 58)) := (Only.refl [] W2).alloc _
  have st3 := st2.on oP
  have bP := PBox.new W2 M.S.hd
  have hP := Lib.hid st2.md.lt
  have st := Lib.hid st3
  clear c0 c1 c2 c3 c4 c5 kS t2 st2
  obtain ⟨c0, c1, c2, c3, c4, c5⟩ := st3.md.blk.c
  obtain ⟨r0, r1, r2, r3⟩ := st3.ret.c
  have f0 := st3.ret.fr 0
  have f1 := st3.ret.fr 1
  have f2 := st3.ret.fr 2
  have f3 := st3.ret.fr 3
  clear st3
  rcases ha : M.S.any with _ | _
  · have ST : Hid (MFr w W N b c (ownM b m Q) M.one.c M.one.S (lensK M.one.S.l) M.one.n s m Q2 (W2.alloc (.cells #[.int .i64 M.S.hd.f, .int .i64 M.S.hd.l, .int .i64 M.S.hd.m] 58))) := by
      have h1 := st.out
      have e1 : M.one.n = M.n := by unfold Md.one; rw [ha]; rfl
      have e2 : lensK M.one.S.l = lensK M.S.l := by
        show lensK M.S.srv.l = _
        rw [Sq.srv_no ha]
      rw [e1, e2]
      exact h1
    have HR : Hid (M.oneR = Rt.code 10) := by show M.oneR = _; unfold Md.oneR; rw [ha]; rfl
    clear ha
    go_wp2_with fail
    refine bodyPost_ret ?_ rfl ⟨none, 0, rfl, ?_⟩
    · rw [results_cell1 rfl, HR.out]; unfold Rt.code; go_simp
    · rw [HR.out]; exact ST.out.fin (M' := M.one) _ _ _ _
  · obtain ⟨p1, p2, p3, p4, p5⟩ := HM.out.1.served ha
    have e1 : lensK M.S.l M.S.hd.f = some ((getK M.S.l M.S.hd.f).l.length : Int) := lensK_is HM.out.1.s.srt (mem_getK HM.out.1.s.srt p1)
    have eo : M.one = ⟨M.c, M.S.srv, M.n + 1⟩ := by unfold Md.one; rw [ha]; rfl
    have eR : M.oneR = ⟨0, [M.S.hd], 0, 0⟩ := by unfold Md.oneR; rw [ha]; rfl
    have HR := Lib.hid (And.intro eo eR)
    have n0 := HM.out.1.n0
    have n1 : M.n ≤ 1000000 := by have := HM.out.1.n1; have := HM.out.2; omega
    clear ha eo eR p1
    go_wp2_with fail
    generalize W2.alloc (.cells #[.int .i64 M.S.hd.f, .int .i64 M.S.hd.l, .int .i64 M.S.hd.m] 58) = W3 at *
    obtain ⟨P, eP⟩ : ∃ P, W2.heap.size = P := ⟨_, rfl⟩
    rw [eP] at bP hP ⊢
    clear eP oP
    have mp := (st.out.on (Only.refl [] W3).drew).md.map
    have lk := mp.look1 p4 54 Try.underlying54
    rw [e1] at lk
    simp only [Option.getD_some] at lk
    obtain ⟨W4, u4, m4, g4⟩ := mp.put p4 (((getK M.S.l M.S.hd.f).l.length : Int) - 1) 54 Try.underlying54
    have st4 := (st.out.on (Only.refl [] W3).drew).mapped m4 g4
    rw [← p5] at st4
    have hmP : m ≠ P := fun e => Nat.lt_irrefl P (by have := hP.out m (by simp [ownM]); omega)
    have hbP : b ≠ P := fun e => Nat.lt_irrefl P (by have := hP.out b (by simp [ownM]); omega)
    obtain ⟨y0, _, _⟩ := bP.c
    have oM : Only [m] W3.drew W4 := (Only.refl [m] _).grown g4 (fun k hk => .inl (by simpa [eq_comm] using hk))
    have bP4 : PBox W4 P M.S.hd := (bP.only (Only.refl [] W3).drew (by simp)).only oM (by simpa using fun e => hmP e.symm)
    have st5 := st4.counted (M.n + 1)
    have ob : Only [b] W4 (W4.setCell ⟨b, 5, none⟩ (.int .i64 (M.n + 1))) := (Only.refl [b] W4).setCell (by simp) _
    have bP5 : PBox (W4.setCell ⟨b, 5, none⟩ (.int .i64 (M.n + 1))) P M.S.hd := bP4.only ob (by simpa using fun e => hbP e.symm)
    obtain ⟨_, _, _, _, _, d5⟩ := st4.md.blk.c
    have g5 := st4.md.blk.fr 5
    have ST := Lib.hid st5
    clear e1 m4 g4 mp r0 r1 r2 r3 f0 f1 f2 f3 oM ob bP st4 hmP c0 c1 c2 c3 c5 p5
    obtain ⟨L, eL⟩ : ∃ L : Nat, (getK M.S.l M.S.hd.f).l.length = L := ⟨_, rfl⟩
    rw [eL] at p2 p3 lk u4
    have hL1 : (1 : Int) ≤ (L : Int) := by omega
    have hL8 : (L : Int) ≤ 8 := by omega
    clear eL p2 p3
    go_wp2_with fail
    go_still_tail 6, (by kernel_rfl)
    change wpList _ _ _ _ _ W3.drew
    generalize W3.drew = W3' at u4 lk ⊢
    obtain ⟨z0, z1, z2⟩ := bP5.c
    have oR : Only [] (W4.setCell ⟨b, 5, none⟩ (.int .i64 (M.n + 1))) ((W4.setCell ⟨b, 5, none⟩ (.int .i64 (M.n + 1))).alloc (.cells #[.int .i64 M.S.hd.f, .int .i64 M.S.hd.l, .int .i64 M.S.hd.m] 58)) := (Only.refl [] _).alloc _
    have st6 := st5.on oR
    obtain ⟨r0, r1, r2, r3⟩ := st6.ret.c
    have f0 := st6.ret.fr 0
    have f1 := st6.ret.fr 1
    have f2 := st6.ret.fr 2
    have f3 := st6.ret.fr 3
    have hrow := PRow.box (PBox.new (W4.setCell ⟨b, 5, none⟩ (.int .i64 (M.n + 1))) M.S.hd)
    have hz : W.heap.size ≤ (W4.setCell ⟨b, 5, none⟩ (.int .i64 (M.n + 1))).heap.size := st5.wt.1.size
    have hout : (W4.setCell ⟨b, 5, none⟩ (.int .i64 (M.n + 1))).heap.size ∉ ownM b m Q2 := fun hk => Nat.lt_irrefl _ (st5.md.lt _ hk)
    have hsz : (W4.setCell ⟨b, 5, none⟩ (.int .i64 (M.n + 1))).heap.size = W4.heap.size := by simp [World.setCell]
    have HX := Lib.hid (And.intro st6 (And.intro hrow (And.intro hz (And.intro hout hsz))))
    clear st5 st6 oR hrow hz hout hsz
    go_wp2_with fail
    refine bodyPost_ret ?_ rfl ⟨some ⟨W4.heap.size, 0, none⟩, 1, rfl, ?_⟩
    · rw [results_cell1 rfl, HR.out.2]; go_simp
    · obtain ⟨s6, hrow, hz, hout, hsz⟩ := HX.out
      rw [HR.out.1, HR.out.2]
      rw [hsz] at hrow hz hout
      exact s6.finP (M' := ⟨M.c, M.S.srv, M.n + 1⟩) hrow (fun g hg => by simp [Value.ownBlock] at hg; subst hg; exact ⟨hz, hout⟩) _ _ _ _
set_option maxHeartbeats 4000000 in
theorem mStats (c : Cl) : Calls Try.prog 32 #[.pointer (some ⟨b, 0, none⟩), .agg #[.int .i64 c.op, .int .i64 c.f, .int .i64 c.a, .int .i64 c.b]] w fun e w' =>
    e = .returned (.agg #[.int .i64 0, .slice none 0 0, .int .i64 M.n, .int .u64 M.S.v]) ∧ Tl (MdOf b M) w O (.slice none 0 0) [] w' := by
  obtain ⟨s, m, Q, h, rfl⟩ := h
  have st0 := MFr.start h c
  have st1 := st0.on (Only.refl [] _).drew
  obtain ⟨c0, c1, c2, c3, c4, c5⟩ := st1.md.blk.c
  obtain ⟨r0, r1, r2, r3⟩ := st1.ret.c
  have f0 := st1.ret.fr 0
  have f1 := st1.ret.fr 1
  have f2 := st1.ret.fr 2
  have f3 := st1.ret.fr 3
  have kV := Lib.hid (mV _ b M _ ⟨s, m, Q, st1.md, rfl⟩)
  obtain ⟨_, _, _, _, _, d5⟩ := st0.md.blk.c
  have ST := Lib.hid st1
  clear st0 st1 h
  go_enter Try.func32, Try.ntmps32
  go_wp2_with fail
  generalize (w.alloc (.cells #[.int .i64 c.op, .int .i64 c.f, .int .i64 c.a, .int .i64 c.b] 44)).alloc (.cells #[.int .i64 0, .slice none 0 0, .int .i64 0, .int .u64 0] 47) = W at *
  obtain ⟨N, eN⟩ : ∃ N, w.heap.size = N := ⟨_, rfl⟩
  rw [eN] at r0 r1 r2 r3 f0 f1 f2 f3 ST ⊢
  clear eN
  go_still_tail 7, (by kernel_rfl)
  still_call kV.out
  repeat still_step
  refine wpStill_nil ?_
  change wpList _ _ _ _ _ W.drew
  generalize W.drew = W' at *
  go_wp2_with fail
  refine bodyPost_ret ?_ rfl ⟨rfl, ?_⟩
  · rw [results_cell1 rfl]; go_simp
  · exact ST.out.fin (M' := M) _ _ _ _
end
end Go.Proofs.Ytklolepmmabijaa
