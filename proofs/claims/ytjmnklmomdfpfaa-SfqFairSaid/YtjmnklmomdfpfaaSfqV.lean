/-
  Ours: Serve.
-/
import Derived.Test.YtjmnklmomdfpfaaSfqU
namespace Go.Proofs.Ytjmnklmomdfpfaa
set_option maxRecDepth 100000
open Go.RowKit
set_option linter.unusedVariables false
set_option linter.unusedSimpArgs false
set_option maxRecDepth 100000

theorem tns_none {S : Sq} {es : List En} (hk : es.map En.key = S.l) (h : tnsOf es = []) : ∀ d ∈ S.l, d.2.any = false := by
  intro d hd
  rw [← hk] at hd
  obtain ⟨e, he, rfl⟩ := List.mem_map.1 hd
  rcases ha : e.key.2.any with _ | _
  · rfl
  · have : tnOf e ∈ tnsOf es := List.mem_map.2 ⟨e, List.mem_filter.2 ⟨he, ha⟩, rfl⟩
    rw [h] at this; cases this
theorem tns_min {S : Sq} {es : List En} (hk : es.map En.key = S.l) {x : It × Nat} (h : MinOf (tnsOf es) x) : ∃ (j : Nat) (e : En), es[j]? = some e ∧ x = tnOf e ∧ e.F.any = true ∧ ∀ d ∈ S.l, d.2.any = true → (itemK d).lt (itemK (e.id, e.F)) = false := by
  obtain ⟨h1, h2⟩ := h
  obtain ⟨e, he, rfl⟩ := List.mem_map.1 h1
  obtain ⟨he, ha⟩ := List.mem_filter.1 he
  obtain ⟨j, hj⟩ := List.getElem?_of_mem he
  refine ⟨j, e, hj, rfl, ha, fun d hd hda => ?_⟩
  rw [← hk] at hd
  obtain ⟨c, hc, rfl⟩ := List.mem_map.1 hd
  exact h2 (tnOf c) (List.mem_map.2 ⟨c, List.mem_filter.2 ⟨hc, hda⟩, rfl⟩)

/-- Behind all that, a block of the call's own is written. -/
theorem STo.box {w V U U' : World} {b N : Nat} {S : Sq} {u : Value} {es : List En} {O : List Nat} (h : SqIs U b S u es) (hw : Went V O U (ownF (xOf b u) es)) (o : Only [] w V) (hO : ∀ k ∈ O, k < w.heap.size) (h1 : w.heap.size ≤ N) (h2 : N < V.heap.size) (ho : Only [N] U U') : STo w b O S U' := by
  have hN : N ∉ ownF (xOf b u) es := fun hk => by
    rcases hw.2 N hk with h3 | h3
    · have := hO N h3; omega
    · omega
  have hT := (Went.still o O).trans hw
  exact ⟨_, ⟨u, es, h.only ho (fun k hk e => hN (by simp at e; exact e ▸ hk)), rfl⟩, hT.1.trans ho (by simp [h1]), hT.2⟩

set_option maxHeartbeats 4000000 in
theorem sServe (w : World) (b : Nat) (S : Sq) (O : List Nat) (h : SqOf w b S O) :
    Calls Try.prog 19 #[.pointer (some ⟨b, 0, none⟩)] w fun e w' => e = .returned (.tuple #[.agg #[.int .i64 S.hd.f, .int .i64 S.hd.l, .int .i64 S.hd.m], .bool S.any]) ∧ STo w b O S.srv w' := by
  obtain ⟨u, es, h, rfl⟩ := h
  have hokS := h.ok.srv
  have o0 : Only [] w (w.alloc (.cells #[.int .i64 0, .int .i64 0, .int .i64 0] 34)) := (Only.refl [] w).alloc _
  have bx := PBox.new w ⟨0, 0, 0⟩
  have ht := sTurns _ b S u es (h.only0 o0)
  have hlen : (tnsOf es).length ≤ 1000 := by have := tnsOf_len es; have := h.ok.len; have := key_len h.key; omega
  have hO : Hid (∀ k ∈ ownF (xOf b u) es, k < w.heap.size) := h.lt
  have hN : Hid (w.heap.size < (w.alloc (.cells #[.int .i64 0, .int .i64 0, .int .i64 0] 34)).heap.size) := bx.lt
  have H := Lib.hid (And.intro (h.only0 o0) o0)
  have hb := h.blk.lt
  clear h
  by_cases h0 : (tnsOf es).length = 0
  · obtain ⟨e1, e2, e3⟩ := Sq.srv_none (tns_none H.out.1.key (List.eq_nil_of_length_eq_zero h0))
    rw [e1] at hokS ⊢
    rw [e2, e3]
    rw [h0] at ht
    obtain ⟨M, hM⟩ : ∃ M, max S.v S.m = M := ⟨_, rfl⟩
    have hM2 : (if S.v < S.m then S.m else S.v) = M := by rw [← hM]; split <;> omega
    have hM3 : (if S.m < S.v then S.v else S.m) = M := by rw [← hM]; split <;> omega
    have hM4 : max S.m S.v = M := by rw [← hM]; omega
    rw [hM] at hokS ⊢
    clear o0
    go_enter Try.func19, Try.ntmps19
    go_wp2_with fail
    generalize w.alloc (.cells #[.int .i64 0, .int .i64 0, .int .i64 0] 34) = V at *
    refine ht.mono ?_
    rintro e w1 ⟨A1, cap1, rfl, r1, f1, o1⟩
    have H1 := Lib.hid (H.out.1.only0 o1)
    obtain ⟨c0, c1, c2⟩ := H1.out.blk.c
    have cf0 := H1.out.blk.fr 0
    obtain ⟨x0, x1, x2⟩ := (bx.only o1 (by simp)).c
    have xf : ∀ j, w1.frozen? ⟨w.heap.size, j, none⟩ = false := fun j => frozen_of_row w1 _ j _ _ (bx.only o1 (by simp))
    have xf0 := xf 0
    have xf1 := xf 1
    have xf2 := xf 2
    have HO := Lib.hid o1
    have hbN : ¬ (b = w.heap.size) := by omega
    have hbN' : ¬ (w.heap.size = b) := by omega
    clear r1 f1 o1 ht bx xf
    go_wp2_with fail
    go_still_tail 12, (by kernel_rfl)
    change wpList _ _ _ _ _ w1.drew
    go_wp2_with fail
    all_goals
      refine bodyPost_ret (v := .tuple #[.agg #[.int .i64 0, .int .i64 0, .int .i64 0], .bool false]) ?_ rfl ?_
      · rw [results_cell_tmp rfl]; go_simp
      · obtain ⟨q1, q2⟩ := H1.out.setV hokS.v
        refine ⟨rfl, STo.box q1 ((Went.still HO.out _).trans q2) H.out.2 hO.out (Nat.le_refl _) hN.out ?_⟩
        exact ((((Only.refl _ _).setCell (by simp) _).setCell (by simp) _).setCell (by simp) _).drew
  · have h0' : 0 < (tnsOf es).length := by omega
    have hz : ¬ (((tnsOf es).length : Int) = 0) := by omega
    have hz' : (((tnsOf es).length : Int) == 0) = false := by simpa using h0
    clear o0 h0
    go_enter Try.func19, Try.ntmps19
    go_wp2_with fail
    generalize w.alloc (.cells #[.int .i64 0, .int .i64 0, .int .i64 0] 34) = V at *
    refine ht.mono ?_
    rintro e w1 ⟨A1, cap1, rfl, r1, f1, o1⟩
    have H1 := Lib.hid (And.intro (H.out.1.only0 o1) o1)
    have hm := sMin w1 A1 cap1 (tnsOf es) r1 h0' (by omega)
    clear r1 f1 o1 ht
    go_wp2_with fail
    refine hm.mono ?_
    rintro e w2 ⟨⟨k, i, q, rfl, hmin⟩, o2⟩
    obtain ⟨j, d, hd, hxd, hda, hleast⟩ := tns_min H.out.1.key hmin
    obtain ⟨s1, s2, s3⟩ := Sq.srv_is H.out.1.ok (key_at H.out.1.key hd) hda hleast
    unfold tnOf itemK at hxd
    simp only [En.key, Prod.mk.injEq, It.mk.injEq] at hxd
    obtain ⟨⟨rfl, rfl⟩, rfl⟩ := hxd
    rw [s1] at hokS
    have HS := Lib.hid (And.intro s1 (And.intro s2 s3))
    have o12 := H1.out.2.trans' o2
    have H2 := Lib.hid (And.intro (H.out.1.only0 o12) o12)
    obtain ⟨p1, p2⟩ := H2.out.1.setV hokS.v
    have oA : Only [] (w2.setCell ⟨b, 0, none⟩ (.int .u64 d.F.s)) ((w2.setCell ⟨b, 0, none⟩ (.int .u64 d.F.s)).alloc (.cells #[.int .u64 d.F.s, .int .i64 d.id, .pointer (some ⟨d.b, 0, none⟩)] 76)) := (Only.refl [] _).alloc _
    have hsv := flServe _ d.b d.F d.O ((p1.only0 oA).fam.each d (List.mem_of_getElem? hd))
    have eout : d.F.out = d.F.fin := by
      unfold Fl.out
      unfold Fl.any at hda
      rw [if_neg (by intro e0; rw [e0] at hda; cases hda)]
    rw [eout, hda] at hsv
    have HP := Lib.hid (And.intro p1 (And.intro p2 (And.intro oA hd)))
    obtain ⟨c0, c1, c2⟩ := H2.out.1.blk.c
    have cf0 := H2.out.1.blk.fr 0
    have hb2 := H2.out.1.blk.lt
    have hbx : PBox w2 w.heap.size ⟨0, 0, 0⟩ := bx.only o12 (by simp)
    have HX := Lib.hid hbx
    clear p1 p2 oA hmin hleast hd s1 s2 s3 o12 o2 hm bx hbx eout
    go_wp2_with fail
    refine hsv.mono ?_
    rintro e w4 ⟨rfl, hf4⟩
    obtain ⟨es', q1, q2⟩ := HP.out.1.turned HP.out.2.2.1 HP.out.2.2.2 hf4 ⟨hokS.v, H.out.1.ok.m, hokS.srt, hokS.wf, hokS.len⟩
    have hT : Hid (Went V (ownF (xOf b u) es) w4 (ownF (xOf b u) es')) := (Went.still H2.out.2 _).trans (HP.out.2.1.trans q2)
    obtain ⟨g0, g1, g2⟩ := q1.blk.c
    have gf1 := q1.blk.fr 1
    have hb4 := q1.blk.lt
    simp only at g1
    have hNO : w.heap.size ∉ d.O := fun hk => by
      have := hO.out _ (mem_ownF.2 (.inr ⟨d, List.mem_of_getElem? HP.out.2.2.2, hk⟩)); omega
    have hbx4 : PBox w4 w.heap.size ⟨0, 0, 0⟩ := by
      obtain ⟨O', _, hW⟩ := hf4
      exact ((HX.out.only ((Only.refl [b] w2).setCell (by simp) _) (by simp; omega)).only HP.out.2.2.1 (by simp)).only hW.1 hNO
    obtain ⟨x0, x1, x2⟩ := hbx4.c
    have xf : ∀ j, w4.frozen? ⟨w.heap.size, j, none⟩ = false := fun j => frozen_of_row w4 _ j _ _ hbx4
    have xf0 := xf 0
    have xf1 := xf 1
    have xf2 := xf 2
    have hN4 := hbx4.lt
    have Q1 := Lib.hid q1
    have hbN : ¬ (b = w.heap.size) := by omega
    have hbN' : ¬ (w.heap.size = b) := by omega
    clear hsv hf4 q1 q2 xf hbx4 c0 c1 c2 cf0
    obtain ⟨M, hM⟩ : ∃ M, max S.m d.F.fin = M := ⟨_, rfl⟩
    have hM2 : (if S.m < d.F.fin then d.F.fin else S.m) = M := by rw [← hM]; split <;> omega
    have hM3 : (if d.F.fin < S.m then S.m else d.F.fin) = M := by rw [← hM]; split <;> omega
    have hM4 : max d.F.fin S.m = M := by rw [← hM]; omega
    rw [hM] at hokS
    go_wp2_with fail
    refine bodyPost_ret (v := .tuple #[.agg #[.int .i64 d.F.hd.f, .int .i64 d.F.hd.l, .int .i64 d.F.hd.m], .bool true]) ?_ rfl ?_
    · rw [results_cell_tmp rfl]; go_simp
    · obtain ⟨r1, r2⟩ := Q1.out.setM hokS.m
      refine ⟨by rw [HS.out.2.1, HS.out.2.2], ?_⟩
      rw [HS.out.1, hM]
      refine STo.box r1 (hT.out.trans r2) H.out.2 hO.out (Nat.le_refl _) hN.out ?_
      exact ((((Only.refl _ _).setCell (by simp) _).setCell (by simp) _).setCell (by simp) _).alloc _
end Go.Proofs.Ytjmnklmomdfpfaa
