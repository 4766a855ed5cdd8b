/-
  Contracts of the shard's advance, Move, Pop.
-/
import Derived.Test.YtajhkdbldbifeaaGreatDoorGmO
namespace Go.Proofs.YtajhkdbldbifeaaGreatDoor
set_option maxRecDepth 100000
open Go.RowKit Go.ChangeMaps Go.MapKept
set_option linter.unusedVariables false
set_option linter.unusedSimpArgs false

theorem mayGo_all {base to : Int} {n : List It} (h : ∀ x ∈ n, to ≤ x.k) : mayGo base n to = decide (base ≤ to) := by
  unfold mayGo
  cases n with
  | nil => simp
  | cons x t =>
    have := h x (by simp)
    simp [first, this]
set_option maxRecDepth 100000 in
set_option maxHeartbeats 2000000 in
theorem sAdvance (w : World) (sb wb hb : Nat) (Sn Sf : List Nat) (wd : Nat) (base : Int) (n f : List It) (h : Holds w sb wb hb Sn Sf wd base n f) (hs : Sits base (n ++ f)) (hT : Tab w) (to : Int) (t0 : 0 ≤ to) (t1 : to ≤ 18446744073709551615) (hall : ∀ x ∈ n ++ f, to ≤ x.k) :
    Calls Tryz.prog 79 #[.pointer (some ⟨sb, 0, none⟩), .int .u64 to] w fun e w' => e = .returned (.bool (decide (base ≤ to))) ∧
      ∃ Sn' Sf', (base ≤ to → Holds w' sb wb hb Sn' Sf' wd to (nears wd to (n ++ f)) (fars wd to (n ++ f))) ∧ (¬ base ≤ to → Holds w' sb wb hb Sn' Sf' wd base n f) ∧ Moved w (sown sb Sn Sf) w' (sown sb Sn' Sf') := by
  have hmv := wMove w wb Sn wd base n h.wh hT to t0 t1
  rw [mayGo_all fun x hx => hall x (by simp [hx])] at hmv
  have c0 := h.c0
  have H := Lib.hid h
  have HS := Lib.hid (hs.to t0 t1 hall)
  clear h hs hall hT
  by_cases hb0 : base ≤ to
  · rw [decide_eq_true hb0] at hmv ⊢
    simp only [if_true] at hmv
    go_enter Tryz.func79, Tryz.ntmps79
    go_wp2_with fail
    refine hmv.mono ?_
    rintro e w2 ⟨rfl, S2, q1, q2⟩
    obtain ⟨d2, m2⟩ := H.out.wheel q1 q2
    have c0' := d2.c0
    have hgv := sGive w2 sb wb hb S2 Sf wd to n f d2 HS.out (fun x hx => inR_iff.2 (d2.wh.lies.near x hx))
    have M2 := Lib.hid m2
    unfold wayOf at hgv
    clear q1 q2 d2 m2 hmv c0
    go_wp2_with fail
    refine hgv.mono ?_
    rintro e w3 ⟨rfl, S3, S4, q1, q2⟩
    have R3 := Lib.hid (And.intro q1 q2)
    clear q1 q2 hgv
    go_wp2_with fail
    go_ret
    first
      | exact ⟨rfl, S3, S4, fun _ => R3.out.1, fun h => absurd hb0 h, M2.out.trans R3.out.2⟩
      | exact ⟨rfl, S3, S4, R3.out.1, fun h => absurd hb0 (by omega), M2.out.trans R3.out.2⟩
  · rw [decide_eq_false hb0] at hmv ⊢
    simp only [Bool.false_eq_true, if_false] at hmv
    go_enter Tryz.func79, Tryz.ntmps79
    go_wp2_with fail
    refine hmv.mono ?_
    rintro e w2 ⟨rfl, S2, q1, q2⟩
    have R2 := Lib.hid (H.out.wheel q1 q2)
    clear q1 q2 hmv c0
    go_wp2_with fail
    go_ret
    first
      | exact ⟨rfl, S2, Sf, fun h => absurd h hb0, fun _ => R2.out.1, R2.out.2⟩
      | exact ⟨rfl, S2, Sf, fun h => absurd h (by omega), R2.out.1, R2.out.2⟩

set_option maxRecDepth 100000 in
set_option maxHeartbeats 2000000 in
theorem sPop (w : World) (sb : Nat) (S : List Nat) (wd : Nat) (base : Int) (l : List It) (h : ShardOf w sb S wd base l) (hT : Tab w) (hg : 0 ∉ S) :
    Calls Tryz.prog 56 #[.pointer (some ⟨sb, 0, none⟩)] w fun e w' => e = .returned (.tuple #[(first l).val, .bool (!l.isEmpty)]) ∧ ∃ S', ShardOf w' sb S' wd (if l.isEmpty then base else (first l).k) l.tail ∧ Moved w S w' S' := by
  obtain ⟨wb, hb, Sn, Sf, rfl, h1, h2⟩ := h
  have oA : Only [] w (w.alloc (.cells #[.int .u64 0, .int .i64 0] 40)) := (Only.refl [] w).alloc _
  have bR : Box _ w.heap.size ⟨0, 0⟩ := Box.new w ⟨0, 0⟩
  have hN : w.heap.size ∉ sown sb Sn Sf := fun hc => by have := h1.lt _ hc; omega
  obtain ⟨V, eV⟩ : ∃ V, w.alloc (.cells #[.int .u64 0, .int .i64 0] 40) = V := ⟨_, rfl⟩
  rw [eV] at oA bR
  have hV := h1.only0 oA
  have c0 := hV.c0
  have hp1 := wPop V wb Sn wd base _ hV.wh (hT.only0 oA)
  have hall := h2.all (wd := wd)
  have H1 := Lib.hid hV
  have HO := Lib.hid (And.intro oA bR)
  have HS := Lib.hid h2
  have HT := Lib.hid hT
  have HG : Hid (0 ∉ sown sb Sn Sf) := hg
  clear h1 hV oA bR hT h2 hg
  unfold It.val at *
  rcases hn : nears wd base l with _ | ⟨x, n⟩
  · rw [hn] at hp1 hall H1
    rw [List.nil_append] at hall
    rw [hall] at H1
    have e3 : first [] = ⟨0, 0⟩ := rfl
    rw [e3] at hp1
    simp only [List.isEmpty_nil, Bool.not_true, if_true, List.tail_nil] at hp1
    have hp2 : Hid (∀ W, HeapOf W hb Sf l → Calls Tryz.prog 78 #[.pointer (some ⟨hb, 0, none⟩)] W fun e w' => e = .returned (.tuple #[.agg #[.int .u64 (first l).k, .int .i64 (first l).i], .bool (!l.isEmpty)]) ∧ ∃ S', HeapOf w' hb S' l.tail ∧ Moved W Sf w' S') := fun W hW => hPop W hb Sf l hW
    clear e3 hn hall
    cases l with
    | nil =>
      have e3 : first [] = ⟨0, 0⟩ := rfl
      rw [e3] at hp2 ⊢
      simp only [List.isEmpty_nil, Bool.not_true, if_true, List.tail_nil] at hp2 ⊢
      clear e3
      go_enter Tryz.func56, Tryz.ntmps56
      go_wp2_with (simp only [eV])
      refine hp1.mono ?_
      rintro e w2 ⟨rfl, S2, q1, q2⟩
      obtain ⟨d2, m2⟩ := H1.out.wheel q1 q2
      obtain ⟨b2, n2⟩ := HO.out.2.moved m2 hN
      have oN : Only [] w2 (w2.alloc (.cells #[.int .u64 0, .int .i64 0] 40)) := (Only.refl [] w2).alloc _
      have D2 := Lib.hid (d2.only0 oN)
      have M2 := Lib.hid (((Moved.of_only (S := sown sb Sn Sf) HO.out.1).trans m2).still oN)
      have B2 := Lib.hid (And.intro (b2.only oN (by simp)) n2)
      have c1 := D2.out.c1
      have hp3 := hp2.out _ D2.out.hp
      clear q1 q2 d2 m2 b2 n2 oN hp2 hp1 eV c0 hN
      go_wp2_with fail
      refine hp3.mono ?_
      rintro e w4 ⟨rfl, S4, q1, q2⟩
      obtain ⟨d4, m4⟩ := D2.out.heap q1 q2
      obtain ⟨b4, n4⟩ := B2.out.1.moved m4 B2.out.2
      have y0 := b4.c0
      have y1 := b4.c1
      have f0 := b4.fr 0
      have f1 := b4.fr 1
      have hlt : w.heap.size < w4.heap.size := b4.lt
      have R4 := Lib.hid (And.intro d4 (And.intro (M2.out.trans m4) n4))
      clear q1 q2 d4 m4 b4 n4 hp3 c1 D2 M2 B2
      obtain ⟨N, eN⟩ : ∃ N, w.heap.size = N := ⟨_, rfl⟩
      rw [eN] at y0 y1 f0 f1 hlt R4
      (try rw [eN])
      go_wp2_with (simp only [eN])
      (try simp only [Exit.inBlock, Exit.then, eN])
      refine bodyPost_ret (v := .tuple #[.agg #[.int .u64 0, .int .i64 0], .bool false]) ?_ rfl ?_
      · rw [results_cell_tmp rfl]; go_simp
      · obtain ⟨r1, r2, r3⟩ := R4.out
        have o6 : Only [N] w4 (((w4.setCell ⟨N, 0, none⟩ (.int .u64 0)).setCell ⟨N, 1, none⟩ (.int .i64 0)).alloc (.cells #[.int .u64 0, .int .i64 0] 40)) := (((Only.refl _ _).setCell (by simp) _).setCell (by simp) _).alloc _
        exact ⟨rfl, _, ShardOf.only (T := [N]) ⟨wb, hb, _, _, rfl, r1, HS.out⟩ o6 (fun b hb e => by simp at e; subst e; exact r3 hb), r2.1.trans o6 (by simp; exact .inr (by omega)), r2.2⟩
    | cons x t =>
      have e3 : first (x :: t) = x := rfl
      rw [e3] at hp2 ⊢
      simp only [List.isEmpty_cons, Bool.not_false, Bool.false_eq_true, if_false, List.tail_cons] at hp2 ⊢
      have hst := HS.out.pop
      have hsb := HS.out.sub (List.sublist_cons_self x t)
      have hbx := HS.out.up x (by simp)
      have hk := key_le (HS.out.fit x (by simp))
      have hup := rises_up HS.out.rises
      have HX := Lib.hid (And.intro hst (And.intro hsb (And.intro hbx (And.intro hk hup))))
      clear e3 hst hsb hbx hk hup
      go_enter Tryz.func56, Tryz.ntmps56
      go_wp2_with (simp only [eV])
      refine hp1.mono ?_
      rintro e w2 ⟨rfl, S2, q1, q2⟩
      obtain ⟨d2, m2⟩ := H1.out.wheel q1 q2
      obtain ⟨b2, n2⟩ := HO.out.2.moved m2 hN
      have oN : Only [] w2 (w2.alloc (.cells #[.int .u64 0, .int .i64 0] 40)) := (Only.refl [] w2).alloc _
      have D2 := Lib.hid (d2.only0 oN)
      have M2 := Lib.hid (((Moved.of_only (S := sown sb Sn Sf) HO.out.1).trans m2).still oN)
      have B2 := Lib.hid (And.intro (b2.only oN (by simp)) n2)
      have c1 := D2.out.c1
      have hp3 := hp2.out _ D2.out.hp
      clear q1 q2 d2 m2 b2 n2 oN hp2 hp1 eV c0 hN
      go_wp2_with fail
      refine hp3.mono ?_
      rintro e w4 ⟨rfl, S4, q1, q2⟩
      obtain ⟨d4, m4⟩ := D2.out.heap q1 q2
      obtain ⟨b4, n4⟩ := B2.out.1.moved m4 B2.out.2
      have L4 : Hid (w4.heap.size ≠ w.heap.size) := by have := b4.lt; show _ ≠ _; omega
      have oX : Only [] w4 (w4.alloc (.cells #[.int .u64 x.k, .int .i64 x.i] 40)) := (Only.refl [] w4).alloc _
      have bX : Box (w4.alloc (.cells #[.int .u64 x.k, .int .i64 x.i] 40)) w4.heap.size x := Box.new w4 x
      have nX : w4.heap.size ∉ sown sb S2 S4 := fun hc => by have := d4.lt _ hc; omega
      have M4 := (M2.out.trans m4).still oX
      have t4 : Tab (w4.alloc (.cells #[.int .u64 x.k, .int .i64 x.i] 40)) := HT.out.only M4.1 HG.out
      obtain ⟨hst, hsb, hbx, hk, hup⟩ := HX.out
      have had := sAdvance _ sb wb hb S2 S4 wd base [] t (d4.only0 oX) (by rw [List.nil_append]; exact hsb) t4 x.k hk.1 hk.2 (by rw [List.nil_append]; exact hup)
      rw [List.nil_append, decide_eq_true hbx] at had
      have R4 := Lib.hid (And.intro M4 (And.intro (And.intro (b4.only oX (by simp)) n4) (And.intro bX nX)))
      clear q1 q2 d4 m4 b4 n4 hp3 c1 D2 M2 B2 oX bX nX M4 t4 hst hsb hbx hk hup
      go_wp2_with fail
      refine had.mono ?_
      rintro e w5 ⟨rfl, S5, S6, p1, -, p3⟩
      obtain ⟨M4, ⟨b4, n4⟩, bX, nX⟩ := R4.out
      obtain ⟨b5, n5⟩ := b4.moved p3 n4
      obtain ⟨bX5, nX5⟩ := bX.moved p3 nX
      have y0 := b5.c0
      have y1 := b5.c1
      have f0 := b5.fr 0
      have f1 := b5.fr 1
      have x0 := bX5.c0
      have x1 := bX5.c1
      have hlt : w.heap.size < w5.heap.size := b5.lt
      have hne : w4.heap.size ≠ w.heap.size := L4.out
      have R5 := Lib.hid (And.intro (p1 HX.out.2.2.1) (And.intro (M4.trans p3) n5))
      clear p1 p3 M4 b4 n4 bX nX b5 n5 bX5 nX5 had R4
      obtain ⟨N, eN⟩ : ∃ N, w.heap.size = N := ⟨_, rfl⟩
      obtain ⟨M, eM⟩ : ∃ M, w4.heap.size = M := ⟨_, rfl⟩
      rw [eN] at y0 y1 f0 f1 hlt R5
      rw [eM] at x0 x1
      rw [eN, eM] at hne
      go_wp2_with (simp only [eN, eM])
      (try simp only [Exit.inBlock, Exit.then, eN])
      refine bodyPost_ret (v := .tuple #[.agg #[.int .u64 x.k, .int .i64 x.i], .bool true]) ?_ rfl ?_
      · rw [results_cell_tmp rfl]; go_simp
      · obtain ⟨r1, r2, r3⟩ := R5.out
        have o6 : Only [N] w5 ((w5.setCell ⟨N, 0, none⟩ (.int .u64 x.k)).setCell ⟨N, 1, none⟩ (.int .i64 x.i)) := ((Only.refl _ _).setCell (by simp) _).setCell (by simp) _
        exact ⟨rfl, _, ShardOf.only (T := [N]) ⟨wb, hb, _, _, rfl, r1, HX.out.1⟩ o6 (fun b hb e => by simp at e; subst e; exact r3 hb), r2.1.trans o6 (by simp; exact .inr (by omega)), r2.2⟩
  · rw [hn] at hp1 hall H1
    have e3 : first (x :: n) = x := rfl
    rw [e3] at hp1
    simp only [List.isEmpty_cons, Bool.not_false, Bool.false_eq_true, if_false, List.tail_cons] at hp1
    have hmx : x ∈ nears wd base l := by rw [hn]; simp
    have hrx : reach wd base x.k := inR_iff.1 (mem_nears.1 hmx).2
    rw [List.cons_append] at hall
    obtain ⟨f, ef⟩ : ∃ f, fars wd base l = f := ⟨_, rfl⟩
    have hff : Hid (∀ y ∈ f, inR wd base y.k = false) := fun y hy => by rw [← ef] at hy; exact (mem_fars.1 hy).2
    rw [ef] at hall H1
    subst hall
    have e4 : first (x :: (n ++ f)) = x := rfl
    rw [e4]
    simp only [List.isEmpty_cons, Bool.not_false, Bool.false_eq_true, if_false, List.tail_cons]
    have HR := Lib.hid hrx
    clear e3 e4 hn hmx hrx ef
    go_enter Tryz.func56, Tryz.ntmps56
    go_wp2_with (simp only [eV])
    refine hp1.mono ?_
    rintro e w2 ⟨rfl, S2, q1, q2⟩
    obtain ⟨d2, m2⟩ := H1.out.wheel q1 q2
    obtain ⟨b2, n2⟩ := HO.out.2.moved m2 hN
    have y0 := b2.c0
    have y1 := b2.c1
    have f0 := b2.fr 0
    have f1 := b2.fr 1
    have hlt : w.heap.size < w2.heap.size := b2.lt
    have R2 := Lib.hid (And.intro d2 (And.intro ((Moved.of_only (S := sown sb Sn Sf) HO.out.1).trans m2) n2))
    clear q1 q2 d2 m2 b2 n2 hp1 eV c0 hN
    obtain ⟨N, eN⟩ : ∃ N, w.heap.size = N := ⟨_, rfl⟩
    rw [eN] at y0 y1 f0 f1 hlt R2
    (try rw [eN])
    go_wp2_with (simp only [eN])
    (try simp only [Exit.inBlock, Exit.then, eN])
    refine bodyPost_ret (v := .tuple #[.agg #[.int .u64 x.k, .int .i64 x.i], .bool true]) ?_ rfl ?_
    · rw [results_cell_tmp rfl]; go_simp
    · obtain ⟨r1, r2, r3⟩ := R2.out
      have o6 : Only [N] w2 (((w2.setCell ⟨N, 0, none⟩ (.int .u64 x.k)).setCell ⟨N, 1, none⟩ (.int .i64 x.i)).alloc (.cells #[.int .u64 x.k, .int .i64 x.i] 40)) := (((Only.refl _ _).setCell (by simp) _).setCell (by simp) _).alloc _
      have hup := rises_up HS.out.rises
      have hpo := parts_of (wd := wd) (base := x.k) (n := n) (f := f) (fun y hy => inR_iff.2 (r1.wh.lies.near y hy)) (fun y hy => by rw [inR_turn HR.out (hup y (by simp [hy]))]; exact hff.out y hy)
      refine ⟨rfl, _, ShardOf.only (T := [N]) ⟨wb, hb, _, _, rfl, ?_, HS.out.pop⟩ o6 (fun b hb e => by simp at e; subst e; exact r3 hb), r2.1.trans o6 (by simp; exact .inr (by omega)), r2.2⟩
      rw [hpo.1, hpo.2]
      exact r1
end Go.Proofs.YtajhkdbldbifeaaGreatDoor
