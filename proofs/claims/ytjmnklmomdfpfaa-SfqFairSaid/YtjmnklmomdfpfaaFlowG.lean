/-
  The document's flow: contract of Serve; Arrive and Serve told as numbers.
-/
import Derived.Test.YtjmnklmomdfpfaaFlowD
namespace Go.Proofs.Ytjmnklmomdfpfaa
set_option maxRecDepth 100000
open Go.RowKit
set_option linter.unusedVariables false
set_option linter.unusedSimpArgs false
set_option maxRecDepth 100000

theorem PRow.head {w : World} {g n cap : Nat} {x : Pk} {xs : List Pk} (h : PRow w (.slice (some ⟨g, 0, none⟩) n cap) (x :: xs)) : w.cell? ⟨g, 0, none⟩ = some (.int .i64 x.f) ∧ w.cell? ⟨g, 1, none⟩ = some (.int .i64 x.l) ∧ w.cell? ⟨g, 2, none⟩ = some (.int .i64 x.m) := by
  obtain ⟨g', c, e, _, _, _, _, hc⟩ := h.at_ (by simp)
  injection e with e1 e2 e3
  injection e1 with e1
  injection e1 with e1
  subst e1
  simpa [pOf] using hc 0 (by simp)
set_option maxHeartbeats 1000000 in
theorem rServe0 (w : World) (b : Nat) (id r n s e : Int) (A : Option Addr) (cap : Nat) (h : RBlk w b id r n s e (.slice A 0 cap)) :
    Calls Try.prog 44 #[.pointer (some ⟨b, 0, none⟩)] w fun e' w' => e' = .returned (.tuple #[.agg #[.int .i64 0, .int .i64 0, .int .i64 0], .int .u64 0, .bool false]) ∧ Only [] w w' := by
  have o0 : Only [] w (w.alloc (.cells #[.int .i64 0, .int .i64 0, .int .i64 0] 34)) := (Only.refl [] w).alloc _
  obtain ⟨_, _, _, c3, _, _⟩ := (h.only0 o0).c
  clear h
  go_enter Try.func44, Try.ntmps44
  go_wp2_with fail
  refine bodyPost_ret (v := .tuple #[.agg #[.int .i64 0, .int .i64 0, .int .i64 0], .int .u64 0, .bool false]) ?_ rfl ?_
  · rw [results_cell_tmp2 rfl]; go_simp
  · exact ⟨rfl, (Only.refl [] w).alloc _⟩

set_option maxHeartbeats 4000000 in
theorem rServe1 (w : World) (b : Nat) (id r n s e : Int) (v : Value) (x : Pk) (xs : List Pk) (h : RBlk w b id r n s e v) (hx : PRow w v (x :: xs)) (hxl : xs.length ≤ 1000) (hr : U64 r) (hs : U64 s) (hok : x.ok) (fin : Int) (hfin : addM s (costM x.l r) = fin) :
    Calls Try.prog 44 #[.pointer (some ⟨b, 0, none⟩)] w fun e' w' => e' = .returned (.tuple #[.agg #[.int .i64 x.f, .int .i64 x.l, .int .i64 x.m], .int .u64 fin, .bool true]) ∧ ∃ v', RBlk w' b id r n fin fin v' ∧ PRow w' v' xs ∧ Only [b] w w' ∧ ∀ g, v'.ownBlock = some g → w.heap.size ≤ g := by
  have o0 : Only [] w (w.alloc (.cells #[.int .i64 0, .int .i64 0, .int .i64 0] 34)) := (Only.refl [] w).alloc _
  have o1 : Only [] w ((w.alloc (.cells #[.int .i64 0, .int .i64 0, .int .i64 0] 34)).alloc (.cells #[.int .i64 x.f, .int .i64 x.l, .int .i64 x.m] 34)) := o0.alloc _
  have hb := h.lt
  have hne1 : ¬ (w.heap.size = b) := by omega
  have hne2 : ¬ (w.heap.size + 1 = b) := by omega
  have bz := (PBox.new w ⟨0, 0, 0⟩).only (w' := (w.alloc (.cells #[.int .i64 0, .int .i64 0, .int .i64 0] 34)).alloc (.cells #[.int .i64 x.f, .int .i64 x.l, .int .i64 x.m] 34)) ((Only.refl [] _).alloc _) (by simp)
  have bx : PBox ((w.alloc (.cells #[.int .i64 0, .int .i64 0, .int .i64 0] 34)).alloc (.cells #[.int .i64 x.f, .int .i64 x.l, .int .i64 x.m] 34)) (w.heap.size + 1) x := by
    have := PBox.new (w.alloc (.cells #[.int .i64 0, .int .i64 0, .int .i64 0] 34)) x
    simpa using this
  obtain ⟨_, _, _, c3, _, _⟩ := h.c
  obtain ⟨_, _, _, c3a, _, _⟩ := (h.only0 o0).c
  obtain ⟨_, _, _, c3b, _, _⟩ := (h.only0 o1).c
  obtain ⟨g, cap, rfl, hn, hcap, hg, _, _⟩ := hx.at_ (by simp)
  obtain ⟨x0, x1, x2⟩ := (hx.only o0 (by simp)).head
  have hlen : (x :: xs).length = xs.length + 1 := by simp
  rw [hlen] at hx hn c3 c3a c3b
  have hh := (hx.only o1 (by simp)).head
  obtain ⟨ad, hA, hsrc⟩ : ∃ ad : Addr, (if cap = 1 then (⟨g, 0, none⟩ : Addr) else ⟨g, 3, none⟩) = ad ∧ Hid (PSrc ((w.alloc (.cells #[.int .i64 0, .int .i64 0, .int .i64 0] 34)).alloc (.cells #[.int .i64 x.f, .int .i64 x.l, .int .i64 x.m] 34)) (some ad) xs) := by
    refine ⟨_, rfl, fun hne => ?_⟩
    have hlt : 0 < xs.length := List.length_pos_iff.2 hne
    rw [if_neg (by omega)]
    exact PSrc.drop (hx.only o1 (by simp)) 1 (by simpa using hne)
  have H := Lib.hid (And.intro o1 (And.intro h (And.intro bz bx)))
  obtain ⟨p1, p2, p3, p4⟩ := pos_len xs.length
  have p5 : (0 : Int) < (xs.length : Int) + 1 := by omega
  have p6 : (1 : Int) ≤ (xs.length : Int) + 1 := by omega
  have hcap2 : cap ≤ 9223372036854775807 := by unfold maxLen at hcap; omega
  clear h hx o0 o1 bz bx hh hlen
  generalize hn' : xs.length = k at *
  rcases Decidable.em (cap = 1) with rfl | hca
  · rw [if_pos rfl] at hA
    subst hA
    go_enter Try.func44, Try.ntmps44
    go_wp2_with (first
      | (at_builtin
         refine wpList_append_pk Try.underlying48 rfl (.const (.slice none 0 0)) (.tmp 24) rfl (.slice none 0 0) [] rfl (PRow.nil _) _ _ _ xs rfl (by first | exact hn' | omega) hsrc.out k (by first | omega | (simp only [List.length_nil]; omega)) (by omega) ?_
         intro A1 cap1 w2 r1 g1 l1
         have q1 : Only [] w w2 := H.out.1.grown g1 (by simp [Value.ownBlock])
         have v1 := fresh_nil (w2 := w2) (B := w.heap.size + 2) l1 (by simp)
         have hb2 := H.out.2.1.only0 q1
         have bz2 := H.out.2.2.1.only (w' := w2) ((Only.refl [] _).grown g1 (by simp [Value.ownBlock])) (by simp)
         have bx2 := H.out.2.2.2.only (w' := w2) ((Only.refl [] _).grown g1 (by simp [Value.ownBlock])) (by simp)
         obtain ⟨_, _, _, e3, _, _⟩ := hb2.c
         have fr3 := hb2.fr 3
         have R1 := Lib.hid (And.intro r1 (And.intro q1 (And.intro v1 (And.intro hb2 (And.intro bz2 bx2)))))
         clear r1 g1 l1 q1 v1 hb2 bz2 bx2))
    obtain ⟨r1, q1, v1, hb2, bz2, bx2⟩ := R1.out
    have oS : Only [b] w2 (w2.setCell ⟨b, 3, none⟩ (.slice A1 k cap1)) := (Only.refl [b] w2).setCell (by simp) _
    have hV : Hid (RBlk (w2.setCell ⟨b, 3, none⟩ (.slice A1 k cap1)) b id r n s e (.slice A1 k cap1) ∧ PRow (w2.setCell ⟨b, 3, none⟩ (.slice A1 k cap1)) (.slice A1 k cap1) xs ∧ PBox (w2.setCell ⟨b, 3, none⟩ (.slice A1 k cap1)) w.heap.size ⟨0, 0, 0⟩ ∧ PBox (w2.setCell ⟨b, 3, none⟩ (.slice A1 k cap1)) (w.heap.size + 1) x ∧ Only [b] w (w2.setCell ⟨b, 3, none⟩ (.slice A1 k cap1))) :=
      ⟨hb2.set3 _, r1.only oS (fun g hg => by simpa using hb2.ne r1 g hg), bz2.only oS (by simpa using hne1), bx2.only oS (by simpa using hne2), (q1.mono (by simp)).trans' oS⟩
    clear oS r1 q1 hb2 bz2 bx2
    generalize w2.setCell ⟨b, 3, none⟩ (.slice A1 k cap1) = V at *
    obtain ⟨_, _, d2, _, d4, d5⟩ := hV.out.1.c
    have f5 := hV.out.1.fr 5
    have y1 := hV.out.2.2.2.1.c.2.1
    have hcst := rcost_any x.l r V.drew (i64_to hok.2.1).1 (i64_to hok.2.1).2 hr.1 hr.2
    have hadd := radd_any s (costM x.l r) V.drew hs.1 (cost_word x.l r hr).1 hs.2 (cost_word x.l r hr).2
    rw [hfin] at hadd
    have hq4 := ((hV.out.1.set5 fin).only0 (Only.refl [] _).drew)
    have oT : Only [b] V (V.setCell ⟨b, 5, none⟩ (.int .u64 fin)).drew := ((Only.refl [b] V).setCell (by simp) _).drew
    have hU : Hid (RBlk (V.setCell ⟨b, 5, none⟩ (.int .u64 fin)).drew b id r n s fin (.slice A1 k cap1) ∧ PRow (V.setCell ⟨b, 5, none⟩ (.int .u64 fin)).drew (.slice A1 k cap1) xs ∧ PBox (V.setCell ⟨b, 5, none⟩ (.int .u64 fin)).drew w.heap.size ⟨0, 0, 0⟩ ∧ PBox (V.setCell ⟨b, 5, none⟩ (.int .u64 fin)).drew (w.heap.size + 1) x ∧ Only [b] w (V.setCell ⟨b, 5, none⟩ (.int .u64 fin)).drew) :=
      ⟨hq4, hV.out.2.1.only oT (fun g hg => by simpa using hV.out.1.ne hV.out.2.1 g hg), hV.out.2.2.1.only oT (by simpa using hne1), hV.out.2.2.2.1.only oT (by simpa using hne2), hV.out.2.2.2.2.trans' oT⟩
    have HS4 := Lib.hid (And.intro hq4.c.2.2.1 (And.intro hq4.c.2.2.2.2.1 hU.out.2.2.2.1.c.2.1))
    clear hq4 oT hV
    go_region_held3 (fun w' => w'.cell? ⟨b, 2, none⟩ = some (.int .u64 r) ∧ w'.cell? ⟨b, 4, none⟩ = some (.int .u64 s) ∧ w'.cell? ⟨w.heap.size + 1, 1, none⟩ = some (.int .i64 x.l))
      (first | (exact HS4.out) | go_keep)
      (first | (go_at_call 25; refine hcst.mono ?_; rintro e' w' ⟨rfl, rfl⟩) | (go_at_call 72; refine hadd.mono ?_; rintro e' w' ⟨rfl, rfl⟩))
    generalize (V.setCell ⟨b, 5, none⟩ (.int .u64 fin)).drew = U at *
    obtain ⟨_, _, _, _, g4, g5⟩ := hU.out.1.c
    have fr4 := hU.out.1.fr 4
    obtain ⟨z0, z1, z2⟩ := hU.out.2.2.1.c
    obtain ⟨t0, t1, t2⟩ := hU.out.2.2.2.1.c
    have i0 := hU.out.2.2.1.fr 0
    have i1 := hU.out.2.2.1.fr 1
    have i2 := hU.out.2.2.1.fr 2
    clear hcst hadd HS4 d2 d4 d5 f5 y1
    go_wp2_with fail
    go_region
    go_wp2_with fail
    refine bodyPost_ret (v := .tuple #[.agg #[.int .i64 x.f, .int .i64 x.l, .int .i64 x.m], .int .u64 fin, .bool true]) ?_ rfl ?_
    · rw [results_cell_tmp2 rfl]; go_simp
    · obtain ⟨u1, u2, u3, u4, u5⟩ := hU.out
      have hb9 : b ∉ [w.heap.size] := by simp; omega
      have oE : Only [w.heap.size] (U.setCell ⟨b, 4, none⟩ (.int .u64 fin)) ((((U.setCell ⟨b, 4, none⟩ (.int .u64 fin)).setCell ⟨w.heap.size, 0, none⟩ (.int .i64 x.f)).setCell ⟨w.heap.size, 1, none⟩ (.int .i64 x.l)).setCell ⟨w.heap.size, 2, none⟩ (.int .i64 x.m)).drew := ((((Only.refl _ _).setCell (by simp) _).setCell (by simp) _).setCell (by simp) _).drew
      have oB : Only [b] U (U.setCell ⟨b, 4, none⟩ (.int .u64 fin)) := (Only.refl [b] U).setCell (by simp) _
      refine ⟨rfl, _, (u1.set4 fin).only oE hb9, (u2.only oB (fun g hg => by simpa using u1.ne u2 g hg)).only oE (fun g hg => by have := v1 g hg; simp; omega), (u5.trans' oB).trans oE (by simp), fun g hg => by have := v1 g hg; omega⟩
  · rw [if_neg hca] at hA
    subst hA
    go_enter Try.func44, Try.ntmps44
    go_wp2_with (first
      | (at_builtin
         refine wpList_append_pk Try.underlying48 rfl (.const (.slice none 0 0)) (.tmp 24) rfl (.slice none 0 0) [] rfl (PRow.nil _) _ _ _ xs rfl (by first | exact hn' | omega) hsrc.out k (by first | omega | (simp only [List.length_nil]; omega)) (by omega) ?_
         intro A1 cap1 w2 r1 g1 l1
         have q1 : Only [] w w2 := H.out.1.grown g1 (by simp [Value.ownBlock])
         have v1 := fresh_nil (w2 := w2) (B := w.heap.size + 2) l1 (by simp)
         have hb2 := H.out.2.1.only0 q1
         have bz2 := H.out.2.2.1.only (w' := w2) ((Only.refl [] _).grown g1 (by simp [Value.ownBlock])) (by simp)
         have bx2 := H.out.2.2.2.only (w' := w2) ((Only.refl [] _).grown g1 (by simp [Value.ownBlock])) (by simp)
         obtain ⟨_, _, _, e3, _, _⟩ := hb2.c
         have fr3 := hb2.fr 3
         have R1 := Lib.hid (And.intro r1 (And.intro q1 (And.intro v1 (And.intro hb2 (And.intro bz2 bx2)))))
         clear r1 g1 l1 q1 v1 hb2 bz2 bx2))
    obtain ⟨r1, q1, v1, hb2, bz2, bx2⟩ := R1.out
    have oS : Only [b] w2 (w2.setCell ⟨b, 3, none⟩ (.slice A1 k cap1)) := (Only.refl [b] w2).setCell (by simp) _
    have hV : Hid (RBlk (w2.setCell ⟨b, 3, none⟩ (.slice A1 k cap1)) b id r n s e (.slice A1 k cap1) ∧ PRow (w2.setCell ⟨b, 3, none⟩ (.slice A1 k cap1)) (.slice A1 k cap1) xs ∧ PBox (w2.setCell ⟨b, 3, none⟩ (.slice A1 k cap1)) w.heap.size ⟨0, 0, 0⟩ ∧ PBox (w2.setCell ⟨b, 3, none⟩ (.slice A1 k cap1)) (w.heap.size + 1) x ∧ Only [b] w (w2.setCell ⟨b, 3, none⟩ (.slice A1 k cap1))) :=
      ⟨hb2.set3 _, r1.only oS (fun g hg => by simpa using hb2.ne r1 g hg), bz2.only oS (by simpa using hne1), bx2.only oS (by simpa using hne2), (q1.mono (by simp)).trans' oS⟩
    clear oS r1 q1 hb2 bz2 bx2
    generalize w2.setCell ⟨b, 3, none⟩ (.slice A1 k cap1) = V at *
    obtain ⟨_, _, d2, _, d4, d5⟩ := hV.out.1.c
    have f5 := hV.out.1.fr 5
    have y1 := hV.out.2.2.2.1.c.2.1
    have hcst := rcost_any x.l r V.drew (i64_to hok.2.1).1 (i64_to hok.2.1).2 hr.1 hr.2
    have hadd := radd_any s (costM x.l r) V.drew hs.1 (cost_word x.l r hr).1 hs.2 (cost_word x.l r hr).2
    rw [hfin] at hadd
    have hq4 := ((hV.out.1.set5 fin).only0 (Only.refl [] _).drew)
    have oT : Only [b] V (V.setCell ⟨b, 5, none⟩ (.int .u64 fin)).drew := ((Only.refl [b] V).setCell (by simp) _).drew
    have hU : Hid (RBlk (V.setCell ⟨b, 5, none⟩ (.int .u64 fin)).drew b id r n s fin (.slice A1 k cap1) ∧ PRow (V.setCell ⟨b, 5, none⟩ (.int .u64 fin)).drew (.slice A1 k cap1) xs ∧ PBox (V.setCell ⟨b, 5, none⟩ (.int .u64 fin)).drew w.heap.size ⟨0, 0, 0⟩ ∧ PBox (V.setCell ⟨b, 5, none⟩ (.int .u64 fin)).drew (w.heap.size + 1) x ∧ Only [b] w (V.setCell ⟨b, 5, none⟩ (.int .u64 fin)).drew) :=
      ⟨hq4, hV.out.2.1.only oT (fun g hg => by simpa using hV.out.1.ne hV.out.2.1 g hg), hV.out.2.2.1.only oT (by simpa using hne1), hV.out.2.2.2.1.only oT (by simpa using hne2), hV.out.2.2.2.2.trans' oT⟩
    have HS4 := Lib.hid (And.intro hq4.c.2.2.1 (And.intro hq4.c.2.2.2.2.1 hU.out.2.2.2.1.c.2.1))
    clear hq4 oT hV
    go_region_held3 (fun w' => w'.cell? ⟨b, 2, none⟩ = some (.int .u64 r) ∧ w'.cell? ⟨b, 4, none⟩ = some (.int .u64 s) ∧ w'.cell? ⟨w.heap.size + 1, 1, none⟩ = some (.int .i64 x.l))
      (first | (exact HS4.out) | go_keep)
      (first | (go_at_call 25; refine hcst.mono ?_; rintro e' w' ⟨rfl, rfl⟩) | (go_at_call 72; refine hadd.mono ?_; rintro e' w' ⟨rfl, rfl⟩))
    generalize (V.setCell ⟨b, 5, none⟩ (.int .u64 fin)).drew = U at *
    obtain ⟨_, _, _, _, g4, g5⟩ := hU.out.1.c
    have fr4 := hU.out.1.fr 4
    obtain ⟨z0, z1, z2⟩ := hU.out.2.2.1.c
    obtain ⟨t0, t1, t2⟩ := hU.out.2.2.2.1.c
    have i0 := hU.out.2.2.1.fr 0
    have i1 := hU.out.2.2.1.fr 1
    have i2 := hU.out.2.2.1.fr 2
    clear hcst hadd HS4 d2 d4 d5 f5 y1
    go_wp2_with fail
    go_region
    go_wp2_with fail
    refine bodyPost_ret (v := .tuple #[.agg #[.int .i64 x.f, .int .i64 x.l, .int .i64 x.m], .int .u64 fin, .bool true]) ?_ rfl ?_
    · rw [results_cell_tmp2 rfl]; go_simp
    · obtain ⟨u1, u2, u3, u4, u5⟩ := hU.out
      have hb9 : b ∉ [w.heap.size] := by simp; omega
      have oE : Only [w.heap.size] (U.setCell ⟨b, 4, none⟩ (.int .u64 fin)) ((((U.setCell ⟨b, 4, none⟩ (.int .u64 fin)).setCell ⟨w.heap.size, 0, none⟩ (.int .i64 x.f)).setCell ⟨w.heap.size, 1, none⟩ (.int .i64 x.l)).setCell ⟨w.heap.size, 2, none⟩ (.int .i64 x.m)).drew := ((((Only.refl _ _).setCell (by simp) _).setCell (by simp) _).setCell (by simp) _).drew
      have oB : Only [b] U (U.setCell ⟨b, 4, none⟩ (.int .u64 fin)) := (Only.refl [b] U).setCell (by simp) _
      refine ⟨rfl, _, (u1.set4 fin).only oE hb9, (u2.only oB (fun g hg => by simpa using u1.ne u2 g hg)).only oE (fun g hg => by have := v1 g hg; simp; omega), (u5.trans' oB).trans oE (by simp), fun g hg => by have := v1 g hg; omega⟩

section
variable (w : World) (b : Nat) (id : Int) (F : Fl) (O : List Nat) (h : RefOf w b id F O)
include h
theorem rlServe : Calls Try.prog 44 #[.pointer (some ⟨b, 0, none⟩)] w fun e w' => e = .returned (.tuple #[.agg #[.int .i64 F.hd.f, .int .i64 F.hd.l, .int .i64 F.hd.m], .int .u64 F.out, .bool F.any]) ∧ RTo w b id O F.srv w' := by
  obtain ⟨hk, s, v, h1, h2, h3, h4, rfl⟩ := h
  rcases hl : F.l with _ | ⟨x, t⟩
  · have e1 : F.hd = Pk.none := by unfold Fl.hd; rw [hl]; rfl
    have e2 : F.out = 0 := by unfold Fl.out; rw [if_pos hl]
    have e3 : F.any = false := by unfold Fl.any; rw [hl]; rfl
    have e4 : F.srv = F := by unfold Fl.srv; rw [if_pos hl]
    rw [e1, e2, e3, e4]
    have hF : RefOf w b id F (b :: v.ownBlock.toList) := ⟨hk, s, v, h1, h2, h3, h4, rfl⟩
    obtain ⟨A, cap, rfl⟩ := h4.form
    rw [hl] at h1
    refine (rServe0 w b _ _ _ _ _ A cap h1).mono ?_
    rintro e w' ⟨rfl, ho⟩
    exact ⟨rfl, RTo.still hF ho⟩
  · have hne : F.l ≠ [] := by rw [hl]; simp
    have e1 : F.hd = x := by unfold Fl.hd; rw [hl]; rfl
    have e2 : F.out = F.fin := by unfold Fl.out; rw [if_neg hne]
    have e3 : F.any = true := by unfold Fl.any; rw [hl]; rfl
    have e4 : F.srv = ⟨F.r, F.n, F.fin, F.fin, t⟩ := by unfold Fl.srv; rw [if_neg hne, hl]; rfl
    have hok := hk.srv
    have es := h2 hne
    subst es
    have hlen := hk.len
    have hn8 := hk.n8
    rw [hl] at h4 hlen
    simp only [List.length_cons] at hlen
    refine (rServe1 w b _ _ _ _ _ v x t h1 h4 (by omega) hk.r h3 (hk.l x (by rw [hl]; simp)) F.fin (by unfold Fl.fin; rw [e1])).mono ?_
    rintro e w' ⟨rfl, v', hb', hr', ho', hv'⟩
    refine ⟨by rw [e1, e2, e3], ?_⟩
    rw [e4] at hok ⊢
    exact RTo.mk (F := ⟨F.r, F.n, F.fin, F.fin, t⟩) hok hb' hr' (fun _ => rfl) hok.s ho' hv'
theorem rlArrive (vt : Int) (hvt : U64 vt) (x : Pk) (hx : x.ok) : Calls Try.prog 58 #[.pointer (some ⟨b, 0, none⟩), .int .u64 vt, .agg #[.int .i64 x.f, .int .i64 x.l, .int .i64 x.m]] w fun e w' => e = .returned (.bool F.takes) ∧ RTo w b id O (F.arr vt x) w' := by
  have hF := h
  obtain ⟨hk, s, v, h1, h2, h3, h4, rfl⟩ := h
  have hok := hk.arr hvt hx
  have hlen := hk.len
  have hn8 := hk.n8
  by_cases hl : F.l.length = F.n
  · have e1 : F.takes = false := by unfold Fl.takes; simp [hl]
    have e2 : F.arr vt x = F := by unfold Fl.arr; rw [if_pos hl]
    rw [e1, e2]
    obtain ⟨A, cap, rfl⟩ := h4.form
    rw [← hl] at h1
    refine (rArriveFull w b _ _ _ _ A _ cap h1 vt x).mono ?_
    rintro e w' ⟨rfl, ho⟩
    exact ⟨rfl, RTo.still hF ho⟩
  · have e1 : F.takes = true := by unfold Fl.takes; simp [hl]
    have e2 : F.arr vt x = ⟨F.r, F.n, if F.l = [] then max vt F.e else F.s, F.e, F.l ++ [x]⟩ := by unfold Fl.arr; rw [if_neg hl]
    rw [e1]
    rw [e2] at hok ⊢
    have es : (if F.l = [] then max vt F.e else F.s) = if F.l = [] then max vt F.e else s := by
      split
      · rfl
      · rename_i hne; exact (h2 hne).symm
    refine (rArrive w b _ _ _ _ _ v F.l h1 h4 (by omega) (by omega) vt x _ es).mono ?_
    rintro e w' ⟨rfl, v', hb', hr', ho', hv'⟩
    exact ⟨rfl, RTo.mk (F := ⟨F.r, F.n, if F.l = [] then max vt F.e else F.s, F.e, F.l ++ [x]⟩) hok hb' hr' (fun _ => rfl) hok.s ho' hv'⟩
end
end Go.Proofs.Ytjmnklmomdfpfaa
