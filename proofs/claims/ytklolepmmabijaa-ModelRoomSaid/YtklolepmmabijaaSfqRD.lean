/-
  The document's scheduler: Serve.
-/
import Derived.Test.YtklolepmmabijaaGmA
namespace Go.Proofs.Ytklolepmmabijaa
set_option maxRecDepth 100000
open Go.RowKit
set_option linter.unusedVariables false
set_option linter.unusedSimpArgs false
set_option maxRecDepth 100000

/-- Behind all that, a block of the call's own is written. -/
theorem QTo.box {w V U U' : World} {b N : Nat} {S : Sq} {u : Value} {es : List En} {O : List Nat} (h : RqIs U b S u es) (hw : Went V O U (ownF (xOf b u) es)) (o : Only [] w V) (hO : ∀ k ∈ O, k < w.heap.size) (h1 : w.heap.size ≤ N) (h2 : N < V.heap.size) (ho : Only [N] U U') : QTo w b O S U' := by
  have hN : N ∉ ownF (xOf b u) es := fun hk => by
    rcases hw.2 N hk with h3 | h3
    · have := hO N h3; omega
    · omega
  have hT := (Went.still o O).trans hw
  exact ⟨_, ⟨u, es, h.only ho (fun k hk e => hN (by simp at e; exact e ▸ hk)), rfl⟩, hT.1.trans ho (by simp [h1]), hT.2⟩
/-- Who is best of the first p: nobody, or the q-th. -/
def Best (es : List En) (p : Nat) : Option Nat → Prop
  | none => ∀ (j : Nat) (e : En), j < p → es[j]? = some e → e.F.any = false
  | some q => q < p ∧ ∃ d, es[q]? = some d ∧ d.F.any = true ∧ ∀ (j : Nat) (e : En), j < p → es[j]? = some e → e.F.any = true → (itemK e.key).lt (itemK d.key) = false
def bestI : Option Nat → Int
  | none => -1
  | some q => (q : Int)
theorem Best.zero (es : List En) : Best es 0 none := fun j e hj => absurd hj (by omega)
theorem Best.skip {es : List En} {p : Nat} {o : Option Nat} (h : Best es p o) {e : En} (he : es[p]? = some e) (ha : e.F.any = false) : Best es (p + 1) o := by
  cases o with
  | none =>
    intro j d hj hd
    rcases Nat.lt_or_ge j p with h1 | h1
    · exact h j d h1 hd
    · obtain rfl : j = p := by omega
      rw [he] at hd
      injection hd with hd
      rw [← hd]; exact ha
  | some q =>
    obtain ⟨h1, d, h2, h3, h4⟩ := h
    refine ⟨by omega, d, h2, h3, fun j c hj hc hca => ?_⟩
    rcases Nat.lt_or_ge j p with h5 | h5
    · exact h4 j c h5 hc hca
    · obtain rfl : j = p := by omega
      rw [he] at hc
      injection hc with hc
      rw [← hc, ha] at hca
      cases hca
theorem Best.first {es : List En} {p : Nat} (h : Best es p none) {e : En} (he : es[p]? = some e) (ha : e.F.any = true) : Best es (p + 1) (some p) := by
  refine ⟨by omega, e, he, ha, fun j c hj hc hca => ?_⟩
  rcases Nat.lt_or_ge j p with h5 | h5
  · rw [h j c h5 hc] at hca; cases hca
  · obtain rfl : j = p := by omega
    rw [he] at hc
    injection hc with hc
    rw [← hc]; exact It.irrefl _
theorem Best.better {es : List En} {p q : Nat} (h : Best es p (some q)) {e d : En} (he : es[p]? = some e) (ha : e.F.any = true) (hd : es[q]? = some d) (hlt : e.F.s < d.F.s) : Best es (p + 1) (some p) := by
  obtain ⟨h1, d', h2, h3, h4⟩ := h
  rw [hd] at h2
  injection h2 with h2
  subst h2
  have hl : (itemK e.key).lt (itemK d.key) = true := by rw [It.lt_iff]; exact .inl hlt
  refine ⟨by omega, e, he, ha, fun j c hj hc hca => ?_⟩
  rcases Nat.lt_or_ge j p with h5 | h5
  · have h6 := h4 j c h5 hc hca
    rcases h7 : (itemK c.key).lt (itemK e.key) with _ | _
    · rfl
    · rw [It.trans h7 hl] at h6; cases h6
  · obtain rfl : j = p := by omega
    rw [he] at hc
    injection hc with hc
    rw [← hc]; exact It.irrefl _
theorem Best.stay {S : Sq} {es : List En} (hk : es.map En.key = S.l) (hs : Srt S.l) {p q : Nat} (h : Best es p (some q)) {e d : En} (he : es[p]? = some e) (hd : es[q]? = some d) (hlt : ¬ e.F.s < d.F.s) : Best es (p + 1) (some q) := by
  obtain ⟨h1, d', h2, h3, h4⟩ := h
  rw [hd] at h2
  injection h2 with h2
  subst h2
  refine ⟨by omega, d, hd, h3, fun j c hj hc hca => ?_⟩
  rcases Nat.lt_or_ge j p with h5 | h5
  · exact h4 j c h5 hc hca
  · obtain rfl : j = p := by omega
    rw [he] at hc
    injection hc with hc
    subst hc
    have hid := hs.lt h1 (key_at hk hd) (key_at hk he)
    simp only at hid
    rcases h7 : (itemK e.key).lt (itemK d.key) with _ | _
    · rfl
    · rw [It.lt_iff] at h7
      simp only [itemK, En.key] at h7
      omega
set_option maxHeartbeats 4000000 in
theorem zServe (w : World) (b : Nat) (S : Sq) (O : List Nat) (h : RqOf w b S O) :
    Calls Try.prog 56 #[.pointer (some ⟨b, 0, none⟩)] w fun e w' => e = .returned (.tuple #[.agg #[.int .i64 S.hd.f, .int .i64 S.hd.l, .int .i64 S.hd.m], .bool S.any]) ∧ QTo w b O S.srv w' := by
  obtain ⟨u, es, h, rfl⟩ := h
  have hokS := h.ok.srv
  have o0 : Only [] w (w.alloc (.cells #[.int .i64 0, .int .i64 0, .int .i64 0] 58)) := (Only.refl [] w).alloc _
  have bx := PBox.new w ⟨0, 0, 0⟩
  have hO : Hid (∀ k ∈ ownF (xOf b u) es, k < w.heap.size) := h.lt
  have hN : Hid (w.heap.size < (w.alloc (.cells #[.int .i64 0, .int .i64 0, .int .i64 0] 58)).heap.size) := bx.lt
  have H := Lib.hid (And.intro (h.only0 o0) o0)
  have hb := h.blk.lt
  have hl1 : es.length ≤ 1000 := by have := h.ok.len; have := key_len h.key; omega
  have hget : Hid (∀ k : Nat, k < es.length → ∃ e : En, es[k]? = some e) := fun k hk => ⟨_, List.getElem?_eq_getElem hk⟩
  obtain ⟨A, cap, ev⟩ := h.row.form
  rw [List.length_map] at ev
  subst ev
  have HB := Lib.hid bx
  clear h o0 bx
  generalize hn : es.length = n at *
  have HNl := Lib.hid hn
  clear hn
  go_enter Try.func56, Try.ntmps56
  go_wp2_with fail
  generalize w.alloc (.cells #[.int .i64 0, .int .i64 0, .int .i64 0] 58) = V at *
  go_loopg [4, 5] (n + 1) (fun gk sb si wr => ∃ (p : Nat) (o : Option Nat), si = .int .i64 (p : Int) ∧ sb = .int .i64 (bestI o) ∧ p ≤ n ∧ n + 1 ≤ gk + p ∧ Hid (Best es p o) ∧ Hid (Only [] V wr))
  case atStart => exact ⟨0, none, rfl, rfl, by omega, by omega, Best.zero es, Only.refl _ _⟩
  case round =>
    obtain ⟨p, o, rfl, rfl, hp, hg, hB, ho⟩ := hrel
    have Hr := Lib.hid (H.out.1.only0 ho.out)
    obtain ⟨c0, c1, c2⟩ := Hr.out.blk.c
    by_cases hpl : p < n
    · have hpl' : (p : Int) < (n : Int) := by omega
      obtain ⟨e, he⟩ := hget.out p hpl
      obtain ⟨g, rfl, hgl, d0⟩ := prow_at Hr.out.row wr (Only.refl _ _) p e he
      obtain ⟨k0, ⟨A3, cap3, k3⟩, s, k4, hs⟩ := ref_c (Hr.out.fam.each e (List.mem_of_getElem? he))
      have HE := Lib.hid he
      clear he
      rcases ha : e.F.any with _ | _
      · have h0 : e.F.l.length = 0 := by
          unfold Fl.any at ha
          rcases hl : e.F.l with _ | ⟨x, t⟩
          · rfl
          · rw [hl] at ha; cases ha
        rw [h0] at k3
        go_wp2_with fail
        go_quiet (fail)
        go_wp2_with fail
        go_roundg (n + 1 - (p + 1))
        case measure => omega
        case rel => exact ⟨p + 1, o, by simp, rfl, by omega, by omega, hB.out.skip HE.out ha, ho.out.drewN nq⟩
      · have h0 : (0 : Int) < (e.F.l.length : Int) := by
          unfold Fl.any at ha
          rcases hl : e.F.l with _ | ⟨x, t⟩
          · rw [hl] at ha; cases ha
          · simp
        have h0d : decide ((0 : Int) < (e.F.l.length : Int)) = true := decide_eq_true h0
        have es := hs ha
        subst es
        generalize e.F.l.length = m at *
        have hm : 0 < m := by omega
        have hmd : decide (0 < m) = true := decide_eq_true hm
        cases o with
        | none =>
          simp only [bestI]
          go_wp2_with fail
          go_quiet (fail)
          go_wp2_with fail
          go_roundg (n + 1 - (p + 1))
          case measure => omega
          case rel => exact ⟨p + 1, some p, by simp, rfl, by omega, by omega, hB.out.first HE.out ha, ho.out.drewN nq⟩
        | some q =>
          obtain ⟨hqp, d, hd, hda, _⟩ := hB.out
          obtain ⟨g', e1, _, y0⟩ := prow_at Hr.out.row wr (Only.refl _ _) q d hd
          injection e1 with e1
          injection e1 with e1
          subst e1
          obtain ⟨_, _, s', y4, hs'⟩ := ref_c (Hr.out.fam.each d (List.mem_of_getElem? hd))
          have es' := hs' hda
          subst es'
          have hq1 : (q : Int) < (n : Int) := by omega
          have hq0 : ¬ ((q : Int) < 0) := by omega
          have hqd : decide ((q : Int) < 0) = false := decide_eq_false hq0
          have HD := Lib.hid hd
          clear hd
          simp only [bestI]
          by_cases hlt : e.F.s < d.F.s
          · have hltd : decide (e.F.s < d.F.s) = true := decide_eq_true hlt
            go_wp2_with fail
            go_quiet (fail)
            go_wp2_with fail
            go_roundg (n + 1 - (p + 1))
            case measure => omega
            case rel => exact ⟨p + 1, some p, by simp, rfl, by omega, by omega, hB.out.better HE.out ha HD.out hlt, ho.out.drewN nq⟩
          · have hltd : decide (e.F.s < d.F.s) = false := decide_eq_false hlt
            go_wp2_with fail
            go_quiet (fail)
            go_wp2_with fail
            go_roundg (n + 1 - (p + 1))
            case measure => omega
            case rel => exact ⟨p + 1, some q, by simp, rfl, by omega, by omega, hB.out.stay H.out.1.key H.out.1.ok.srt HE.out HD.out (by omega), ho.out.drewN nq⟩
    · have hpl' : ¬ ((p : Int) < (n : Int)) := by omega
      have hpn : Hid (p = n) := by show _ = _; omega
      have cf1 := Hr.out.blk.fr 1
      have bxr := HB.out.only ho.out (by simp)
      obtain ⟨x0, x1, x2⟩ := bxr.c
      have xf : ∀ j, wr.frozen? ⟨w.heap.size, j, none⟩ = false := fun j => frozen_of_row wr _ j _ _ bxr
      have xf0 := xf 0
      have xf1 := xf 1
      have xf2 := xf 2
      have hbN : ¬ (b = w.heap.size) := by omega
      have hbN' : ¬ (w.heap.size = b) := by omega
      have HX := Lib.hid bxr
      have hbr := Hr.out.blk.lt
      clear xf bxr
      cases o with
      | none =>
        have hnone : ∀ d ∈ S.l, d.2.any = false := fun x hx => by
          obtain ⟨j, hj⟩ := List.getElem?_of_mem hx
          obtain ⟨e, he, _, e2⟩ := at_key H.out.1.key hj
          rw [← e2]
          have hjl := (List.getElem?_eq_some_iff.1 he).1
          have := HNl.out
          have := hpn.out
          exact hB.out j e (by omega) he
        obtain ⟨e1, e2, e3⟩ := Sq.srv_none hnone
        rw [e1] at hokS
        obtain ⟨M, hM⟩ : ∃ M, max S.v S.m = M := ⟨_, rfl⟩
        have hM2 : (if S.v < S.m then S.m else S.v) = M := by rw [← hM]; split <;> omega
        have hM3 : (if S.m < S.v then S.v else S.m) = M := by rw [← hM]; split <;> omega
        have hM4 : max S.m S.v = M := by rw [← hM]; omega
        rw [hM] at hokS
        have HS := Lib.hid (And.intro (e1.trans (by rw [hM])) (And.intro e2 e3))
        clear e1 e2 e3 hnone
        simp only [bestI]
        go_wp2_with fail
        go_still_tail 12, (by kernel_rfl)
        change wpList _ _ _ _ _ wr.drew
        go_wp2_with fail
        refine bodyPost_ret (v := .tuple #[.agg #[.int .i64 0, .int .i64 0, .int .i64 0], .bool false]) ?_ rfl ?_
        · rw [results_cell_tmp rfl]; go_simp
        · obtain ⟨q1, q2⟩ := Hr.out.setV hokS.v
          refine ⟨by rw [HS.out.2.1, HS.out.2.2]; rfl, ?_⟩
          rw [HS.out.1]
          refine QTo.box q1 ((Went.still ho.out _).trans q2) H.out.2 hO.out (Nat.le_refl _) hN.out ?_
          exact ((((Only.refl _ _).setCell (by simp) _).setCell (by simp) _).setCell (by simp) _).drew
      | some q =>
        obtain ⟨hqp, d, hd, hda, hleast⟩ := hB.out
        obtain ⟨g, rfl, _, y0⟩ := prow_at Hr.out.row wr (Only.refl _ _) q d hd
        obtain ⟨_, _, s', y4, hs'⟩ := ref_c (Hr.out.fam.each d (List.mem_of_getElem? hd))
        have es' := hs' hda
        subst es'
        have hq1 : (q : Int) < (n : Int) := by omega
        have hq0 : ¬ ((q : Int) < 0) := by omega
        obtain ⟨s1, s2, s3⟩ := Sq.srv_is H.out.1.ok (key_at H.out.1.key hd) hda (fun x hx hxa => by
          obtain ⟨j, hj⟩ := List.getElem?_of_mem hx
          obtain ⟨e, he, e1, e2⟩ := at_key H.out.1.key hj
          have hjl := (List.getElem?_eq_some_iff.1 he).1
          have := HNl.out
          have := hpn.out
          have ex : x = e.key := by
            unfold En.key
            rw [e1, e2]
          rw [ex] at hxa ⊢
          exact hleast j e (by omega) he hxa)
        rw [s1] at hokS
        have HS := Lib.hid (And.intro s1 (And.intro s2 s3))
        obtain ⟨p1, p2⟩ := Hr.out.setV hokS.v
        have hsv := rlServe _ d.b d.id d.F d.O (p1.fam.each d (List.mem_of_getElem? hd))
        have eout : d.F.out = d.F.fin := by
          unfold Fl.out
          unfold Fl.any at hda
          rw [if_neg (by intro e0; rw [e0] at hda; cases hda)]
        rw [eout, hda] at hsv
        have hdb : ¬ (d.b = b) := fun e => by
          have hm := Hr.out.fam.apX d (List.mem_of_getElem? hd) d.b (RefOf.mem (Hr.out.fam.each d (List.mem_of_getElem? hd)))
          exact hm (mem_xOf.2 (.inl e))
        have hgb : ¬ (g = b) := fun e => by
          have := Hr.out.row_ne g rfl
          exact this e
        have HP := Lib.hid (And.intro p1 (And.intro p2 hd))
        obtain ⟨z0, z1, z2⟩ := p1.blk.c
        obtain ⟨g', e1, _, z3⟩ := prow_at p1.row _ (Only.refl _ _) q d hd
        injection e1 with e1
        injection e1 with e1
        subst e1
        clear p1 p2 hleast hd s1 s2 s3 eout
        simp only [bestI]
        go_wp2_with fail
        refine hsv.mono ?_
        rintro e w4 ⟨rfl, hf4⟩
        obtain ⟨es', q1, q2⟩ := HP.out.1.turned (Only.refl _ _) HP.out.2.2 hf4 ⟨hokS.v, H.out.1.ok.m, hokS.srt, hokS.wf, hokS.len⟩
        have hT : Hid (Went V (ownF (xOf b (.slice (some ⟨g, 0, none⟩) n cap)) es) w4 (ownF (xOf b (.slice (some ⟨g, 0, none⟩) n cap)) es')) := (Went.still ho.out _).trans (HP.out.2.1.trans q2)
        obtain ⟨g0, g1, g2⟩ := q1.blk.c
        have gf2 := q1.blk.fr 2
        have hb4 := q1.blk.lt
        simp only at g2
        have hNO : w.heap.size ∉ d.O := fun hk => by
          have := hO.out _ (mem_ownF.2 (.inr ⟨d, List.mem_of_getElem? HP.out.2.2, hk⟩)); omega
        have hbx4 : PBox w4 w.heap.size ⟨0, 0, 0⟩ := by
          obtain ⟨O', _, hW⟩ := hf4
          exact (HX.out.only ((Only.refl [b] wr).setCell (by simp) _) (by simp; omega)).only hW.1 hNO
        obtain ⟨u0, u1, u2⟩ := hbx4.c
        have uf : ∀ j, w4.frozen? ⟨w.heap.size, j, none⟩ = false := fun j => frozen_of_row w4 _ j _ _ hbx4
        have uf0 := uf 0
        have uf1 := uf 1
        have uf2 := uf 2
        have hN4 := hbx4.lt
        have Q1 := Lib.hid q1
        clear hsv hf4 q1 q2 uf hbx4 c0 c1 c2 cf1 x0 x1 x2 xf0 xf1 xf2
        obtain ⟨M, hM⟩ : ∃ M, max S.m d.F.fin = M := ⟨_, rfl⟩
        have hM2 : (if S.m < d.F.fin then d.F.fin else S.m) = M := by rw [← hM]; split <;> omega
        have hM3 : (if d.F.fin < S.m then S.m else d.F.fin) = M := by rw [← hM]; split <;> omega
        have hM4 : max d.F.fin S.m = M := by rw [← hM]; omega
        rw [hM] at hokS
        go_wp2_with fail
        refine bodyPost_ret (v := .tuple #[.agg #[.int .i64 d.F.hd.f, .int .i64 d.F.hd.l, .int .i64 d.F.hd.m], .bool true]) ?_ rfl ?_
        · rw [results_cell_tmp rfl]; go_simp
        · obtain ⟨r1, r2⟩ := Q1.out.setM hokS.m
          refine ⟨by rw [HS.out.2.1, HS.out.2.2], ?_⟩
          rw [HS.out.1, hM]
          refine QTo.box r1 (hT.out.trans r2) H.out.2 hO.out (Nat.le_refl _) hN.out ?_
          exact ((((Only.refl _ _).setCell (by simp) _).setCell (by simp) _).setCell (by simp) _).alloc _
end Go.Proofs.Ytklolepmmabijaa
