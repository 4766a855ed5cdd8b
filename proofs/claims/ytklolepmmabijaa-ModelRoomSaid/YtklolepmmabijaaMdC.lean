/-
  made: a model of a config that may be, beside the document's; what a walk keeps.
-/
import Derived.Test.YtklolepmmabijaaMdI
namespace Go.Proofs.Ytklolepmmabijaa
set_option maxRecDepth 100000
open Go.RowKit
set_option linter.unusedVariables false
set_option linter.unusedSimpArgs false
set_option maxRecDepth 100000

def readyM (M : Md) : Nat → Md
  | 0 => M
  | n + 1 => ((readyM M n).todo (readyC n)).1
def madeM (c : Cf) (t : Bool) : Md := readyM ⟨c.near, Sq.new, 0⟩ (if t then 4 else 0)
theorem readyC_ok {n : Nat} (h : n ≤ 100) : (readyC n).ok := by
  unfold readyC
  exact ⟨i64_of (by simp only; omega), i64_of (by simp only; omega), i64_of (by simp only; omega), i64_of (by simp only; omega)⟩
theorem newM_ok {c : Cf} (h : c.right) : (⟨c, Sq.new, 0⟩ : Md).ok 0 0 := ⟨h, Sq.ok.new, by intro e he; simp [Sq.new] at he, Nat.le_refl _, Int.le_refl _, Int.le_refl _⟩
theorem readyM_ok {M : Md} {k j : Nat} (h : M.ok k j) : ∀ n, n ≤ 100 → k + n ≤ 900 → (readyM M n).ok (k + n) (j + 16 * n)
  | 0, _, _ => h
  | n + 1, h1, h2 => by
    have h3 := readyM_ok h n (by omega) (by omega)
    exact (h3.todo (readyC_ok (by omega)) (by omega)).mono (by omega) (by omega)
theorem madeM_ok (c : Cf) (t : Bool) : (madeM c t).ok 4 64 := by
  unfold madeM
  cases t
  · exact (newM_ok c.near_right).mono (by omega) (by omega)
  · exact readyM_ok (newM_ok c.near_right) 4 (by omega) (by omega)
/-- Behind ours, the other one as it was. -/
def Mm (w : World) (b c : Nat) (M M' : Md) (O P : List Nat) (W : World) : Prop := ∃ O', MdOf b M' W O' ∧ NdOf c M W P ∧ (∀ k ∈ O', k ∉ P) ∧ Went w O W O'
def Mfin (w : World) (b c : Nat) (M' : Md) (O P : List Nat) (W : World) : Prop := ∃ O' P', Mq W b c M' O' P' ∧ Went w (O ++ P) W (O' ++ P')
section
variable {w W U : World} {b c : Nat} {M M' : Md} {O P : List Nat} {v : Value} {ps : List Pk}
theorem Mq.mid (h : Mq w b c M O P) (t : Tl (MdOf b M') w O v ps W) : Mm w b c M M' O P W := by
  obtain ⟨O', r, g, hp, hn⟩ := t
  refine ⟨O', r, (rep_nd c M).only h.rf g.1 (fun k hk hO => h.ap k hO hk), fun k hk hP => ?_, g⟩
  rcases g.2 k hk with h1 | h1
  · exact h.ap k h1 hP
  · have := (rep_nd c M).lt h.rf k hP; omega
theorem Mm.on (h : Mm w b c M M' O P W) (ho : Only [] W U) : Mm w b c M M' O P U := by
  obtain ⟨O', h2, h3, h4, h5⟩ := h
  exact ⟨O', (rep_md b M').only h2 ho (by simp), (rep_nd c M).only h3 ho (by simp), h4, h5.trans (Went.still ho O')⟩
theorem Mm.rf (h : Mm w b c M M' O P W) : NdOf c M W P := by
  obtain ⟨O', h2, h3, h4, h5⟩ := h
  exact h3
theorem Mm.went (h : Mm w b c M M' O P W) : Only O w W := by
  obtain ⟨O', h2, h3, h4, h5⟩ := h
  exact h5.1
theorem Mm.fin (h : Mm w b c M M' O P W) (t : Tl (NdOf c M') W P v ps U) : Mfin w b c M' O P U := by
  obtain ⟨O', h2, h3, h4, h5⟩ := h
  obtain ⟨P', r, g, hp, hn⟩ := t
  refine ⟨O', P', ⟨(rep_md b M').only h2 g.1 h4, r, fun k hk hk2 => ?_⟩, h5.two g⟩
  rcases g.2 k hk2 with h8 | h8
  · exact h4 k hk h8
  · have := (rep_md b M').lt h2 k hk; omega
theorem Mfin.on (h : Mfin w b c M' O P W) (ho : Only [] W U) : Mfin w b c M' O P U := by
  obtain ⟨O', P', h1, h2⟩ := h
  exact ⟨O', P', h1.only0 ho, h2.trans (Went.still ho _)⟩
end
/-- What a walk keeps: both in new memory; all that was there is as it was. -/
structure Ms (w0 wr : World) (b c : Nat) (M : Md) (O P : List Nat) : Prop where
  duo : Mq wr b c M O P
  new : ∀ k ∈ O ++ P, w0.heap.size ≤ k
  only : Only [] w0 wr
section
variable {w0 wr w' : World} {b c : Nat} {M M' : Md} {O P O' P' : List Nat}
theorem Ms.only0 (h : Ms w0 wr b c M O P) (ho : Only [] wr w') : Ms w0 w' b c M O P := ⟨h.duo.only0 ho, h.new, h.only.trans' ho⟩
theorem Ms.went (h : Ms w0 wr b c M O P) (hd : Mq w' b c M' O' P') (hw : Went wr (O ++ P) w' (O' ++ P')) : Ms w0 w' b c M' O' P' :=
  ⟨hd, fun k hk => (hw.2 k hk).elim (h.new k) (fun h2 => Nat.le_trans h.only.size h2), h.only.trans hw.1 (fun k hk => .inr (h.new k hk))⟩
theorem Ms.fin (h : Ms w0 wr b c M O P) (hf : Mfin wr b c M' O P w') : ∃ O' P', Ms w0 w' b c M' O' P' := by
  obtain ⟨O', P', h1, h2⟩ := hf
  exact ⟨O', P', h.went h1 h2⟩
end
theorem GBox.put {w : World} {N : Nat} {c : Cf} (h : GBox w N c) (d : Cf) : GBox (((((w.setCell ⟨N, 0, none⟩ (.int .i64 d.sh)).setCell ⟨N, 1, none⟩ (.int .i64 d.sl)).setCell ⟨N, 2, none⟩ (.int .i64 d.wk)).setCell ⟨N, 3, none⟩ (.int .i64 d.wd)).setCell ⟨N, 4, none⟩ (.int .u64 d.un)) N d := by
  have h0 := heap_setCell_same w N 0 _ _ (.int .i64 d.sh) h
  have h1 := heap_setCell_same _ N 1 _ _ (.int .i64 d.sl) h0
  have h2 := heap_setCell_same _ N 2 _ _ (.int .i64 d.wk) h1
  have h3 := heap_setCell_same _ N 3 _ _ (.int .i64 d.wd) h2
  have h4 := heap_setCell_same _ N 4 _ _ (.int .u64 d.un) h3
  simpa [GBox] using h4
theorem crow_at {w : World} {A : Option Addr} {m cap : Nat} {xs : List Cl} (h : cE.Row w (.slice A m cap) xs) {k : Nat} {x : Cl} (hx : xs[k]? = some x) : ∃ g, A = some ⟨g, 0, none⟩ ∧ w.cell? ⟨g, k * 4, none⟩ = some (.int .i64 x.op) ∧ w.cell? ⟨g, k * 4 + 1, none⟩ = some (.int .i64 x.f) ∧ w.cell? ⟨g, k * 4 + 2, none⟩ = some (.int .i64 x.a) ∧ w.cell? ⟨g, k * 4 + 3, none⟩ = some (.int .i64 x.b) := by
  obtain ⟨g, e1, _, hc⟩ := h.cell hx
  subst e1
  exact ⟨g, rfl, (hc 0 _ rfl).1, (hc 1 _ rfl).1, (hc 2 _ rfl).1, (hc 3 _ rfl).1⟩
set_option maxHeartbeats 2000000 in
theorem mMade (c : Cf) (hu : U64 c.un) (t : Bool) (w : World) : Calls Try.prog 14 #[.agg #[.int .i64 c.sh, .int .i64 c.sl, .int .i64 c.wk, .int .i64 c.wd, .int .u64 c.un], .bool t] w fun e w' =>
    ∃ b x, e = .returned (.tuple #[.pointer (some ⟨b, 0, none⟩), .pointer (some ⟨x, 0, none⟩)]) ∧ ∃ O P, Ms w w' b x (madeM c t) O P := by
  have hr := c.near_right
  have g0 := GBox.new w c
  have oA : Only [] w (w.alloc (.cells #[.int .i64 c.sh, .int .i64 c.sl, .int .i64 c.wk, .int .i64 c.wd, .int .u64 c.un] 24)) := (Only.refl [] w).alloc _
  have kC := fun W => sConfig c hu W
  unfold madeM
  generalize c.near = d at *
  have HG := Lib.hid (And.intro g0 oA)
  have x0 := g0.c
  obtain ⟨x0, x1, x2, x3, x4⟩ := x0
  clear g0 oA hu
  go_enter Try.func14, Try.ntmps14
  go_wp2_with fail
  generalize w.alloc (.cells #[.int .i64 c.sh, .int .i64 c.sl, .int .i64 c.wk, .int .i64 c.wd, .int .u64 c.un] 24) = W at *
  obtain ⟨N, eN⟩ : ∃ N, w.heap.size = N := ⟨_, rfl⟩
  have HN := Lib.hid eN
  rw [eN] at HG x0 x1 x2 x3 x4 ⊢
  clear eN
  refine (kC _).mono ?_
  rintro e W1 ⟨rfl, o1⟩
  have g1 := HG.out.1.only0 o1
  have G1 := Lib.hid (And.intro (g1.put d) (HG.out.2.trans' o1))
  have oW : Hid (Only [] w (((((W1.setCell ⟨N, 0, none⟩ (.int .i64 d.sh)).setCell ⟨N, 1, none⟩ (.int .i64 d.sl)).setCell ⟨N, 2, none⟩ (.int .i64 d.wk)).setCell ⟨N, 3, none⟩ (.int .i64 d.wd)).setCell ⟨N, 4, none⟩ (.int .u64 d.un))) := G1.out.2.trans (only_cf W1 N _ _ _ _ _) (by have := HN.out; simp; omega)
  obtain ⟨y0, y1, y2, y3, y4⟩ := g1.c
  have f0 := g1.fr 0
  have f1 := g1.fr 1
  have f2 := g1.fr 2
  have f3 := g1.fr 3
  have f4 := g1.fr 4
  clear kC o1 g1 x0 x1 x2 x3 x4 HG
  go_wp2_with fail
  refine (mNew d hr _).mono ?_
  rintro e W2 ⟨b, rfl, O, hO, o2, n2⟩
  have s2 := oW.out.size
  have H2 := Lib.hid (And.intro hO (And.intro (oW.out.trans' o2) (fun k hk => Nat.le_trans s2 (n2 k hk))))
  obtain ⟨z0, z1, z2, z3, z4⟩ := (G1.out.1.only0 o2).c
  clear hO o2 n2 y0 y1 y2 y3 y4 f0 f1 f2 f3 f4 s2 oW G1
  go_wp2_with fail
  refine (newModel d W2).mono ?_
  rintro e W3 ⟨x, rfl, P, hP, o3, n3⟩
  have H3 : Hid (Ms w W3 b x ⟨d, Sq.new, 0⟩ O P) := by
    obtain ⟨q1, q2, q3⟩ := H2.out
    refine ⟨⟨(rep_md b _).only q1 o3 (by simp), hP, fun k hk hk2 => ?_⟩, fun k hk => ?_, q2.trans' o3⟩
    · have := (rep_md b _).lt q1 k hk; have := n3 k hk2; omega
    · rcases List.mem_append.1 hk with hk | hk
      · exact q3 k hk
      · exact Nat.le_trans q2.size (n3 k hk)
  clear hP o3 n3 z0 z1 z2 z3 z4 H2
  cases t
  · go_wp2_with fail
    go_ret2
    exact ⟨b, x, rfl, O, P, H3.out⟩
  · go_wp2_with fail
    refine (sReady 4 (by omega) W3).mono ?_
    rintro e W4 ⟨A, cap, rfl, rr, rn, ro⟩
    have H4 := Lib.hid (And.intro (H3.out.only0 ro) (And.intro rr (fun g hg hk => by have := rn g hg; have := H3.out.duo.lt g hk; omega : ∀ g, (Value.slice A 4 cap).ownBlock = some g → g ∉ O ++ P)))
    have hM0 := Lib.hid (newM_ok hr)
    clear rr rn ro H3
    go_wp2_with fail
    go_loopg [10] 5 (fun gk si wr => ∃ p : Nat, si = .int .i64 (p : Int) ∧ p ≤ 4 ∧ 5 ≤ gk + p ∧ Hid (Mfin W4 b x (readyM ⟨d, Sq.new, 0⟩ p) O P wr))
    case atStart => exact ⟨0, rfl, by omega, by omega, ⟨O, P, H4.out.1.duo, Went.refl _ _⟩⟩
    case round =>
      obtain ⟨p, rfl, hp, hg, hF⟩ := hrel
      by_cases hpl : p < 4
      · have hpl' : (p : Int) < 4 := by omega
        obtain ⟨O1, P1, d1, t1⟩ := hF.out
        have hapart : ∀ g, (Value.slice A 4 cap).ownBlock = some g → g ∉ O1 ++ P1 := fun g hg hk => by
          rcases t1.2 g hk with h5 | h5
          · exact H4.out.2.2 g hg h5
          · have := H4.out.2.1.lt hg; omega
        have row1 := H4.out.2.1.only t1.1 (H4.out.2.2)
        have hM1 := readyM_ok hM0.out p (by omega) (by omega)
        have hget : (readyL 4)[p]? = some (readyC p) := by unfold readyL; rw [List.getElem?_map, List.getElem?_range hpl]; rfl
        obtain ⟨g, eA, c0, c1, c2, c3⟩ := crow_at row1 hget
        obtain ⟨dc, edc⟩ : ∃ dc, readyC p = dc := ⟨_, rfl⟩
        have hdc : dc.ok := by rw [← edc]; exact readyC_ok (by omega)
        have hsucc : readyM ⟨d, Sq.new, 0⟩ (p + 1) = ((readyM ⟨d, Sq.new, 0⟩ p).todo dc).1 := by rw [← edc]; rfl
        rw [edc] at c0 c1 c2 c3
        have k1 := mDo wr b _ O1 d1.fl dc hdc _ _ hM1 (by omega) (by omega)
        unfold Told at k1
        have R := Lib.hid (And.intro d1 (And.intro t1 (And.intro hapart (And.intro row1 (And.intro hM1 (And.intro hdc (And.intro hsucc (And.intro edc hget))))))))
        clear d1 t1 hapart row1 hM1 hget edc hdc hsucc
        subst eA
        go_wp2_with fail
        refine k1.mono ?_
        rintro e W5 ⟨A5, c5, rfl, t5⟩
        have m5 := R.out.1.mid t5
        have row5 := R.out.2.2.2.1.only m5.went (fun g hg hk => R.out.2.2.1 g hg (by simp [hk]))
        have k2 := nDo W5 x _ P1 m5.rf dc R.out.2.2.2.2.2.1 _ _ R.out.2.2.2.2.1 (by omega) (by omega)
        unfold Told at k2
        obtain ⟨g', eA', e0, e1, e2, e3⟩ := crow_at row5 R.out.2.2.2.2.2.2.2.2
        injection eA' with eA'
        injection eA' with eA' _ _
        subst eA'
        rw [R.out.2.2.2.2.2.2.2.1] at e0 e1 e2 e3
        have M5 := Lib.hid m5
        clear k1 t5 m5 row5 c0 c1 c2 c3
        go_wp2_with fail
        refine k2.mono ?_
        rintro e W6 ⟨A6, c6, rfl, t6⟩
        have R6 : Hid (Mfin W4 b x (readyM ⟨d, Sq.new, 0⟩ (p + 1)) O P W6) := by
          show Mfin W4 b x (readyM ⟨d, Sq.new, 0⟩ (p + 1)) O P W6
          rw [R.out.2.2.2.2.2.2.1]
          obtain ⟨O2, P2, q1, q2⟩ := M5.out.fin t6
          exact ⟨O2, P2, q1, R.out.2.1.trans q2⟩
        clear k2 t6 e0 e1 e2 e3
        go_wp2_with fail
        go_roundg (5 - (p + 1))
        case measure => omega
        case rel => exact ⟨p + 1, by simp, by omega, by omega, R6⟩
      · have hpl' : ¬ ((p : Int) < 4) := by omega
        obtain rfl : p = 4 := by omega
        go_wp2_with fail
        go_ret2
        exact ⟨b, x, rfl, H4.out.1.fin hF.out⟩
end Go.Proofs.Ytklolepmmabijaa
