/-
  Contracts of the document's queue: Min, Pop, Drop.
-/
import Derived.Test.YtajhkdbldbifeaaGreatDoorQueueC
namespace Go.Proofs.YtajhkdbldbifeaaGreatDoor
set_option maxRecDepth 100000
open Go.RowKit Go.ChangeMaps Go.MapKept
set_option linter.unusedVariables false
set_option linter.unusedSimpArgs false

set_option maxHeartbeats 4000000 in
theorem rqMin (w : World) (xb : Nat) (T : List Nat) (n wd : Nat) (B : Nat → Int) (L : Nat → List It) (h : RQOf w xb T n wd B L) (hroom : ∀ i, i < n → (L i).length < 1000000) :
    Calls Tryz.prog 38 #[.pointer (some ⟨xb, 0, none⟩)] w fun e w' => e = .returned (.tuple #[(minX L n).val, .bool (minB L n)]) ∧ Only [] w w' := by
  have oA : Only [] w (w.alloc (.cells #[.int .u64 0, .int .i64 0] 40)) := (Only.refl [] w).alloc _
  have bR : Box _ w.heap.size ⟨0, 0⟩ := Box.new w ⟨0, 0⟩
  have hf := rqFirst _ xb T n wd B L (h.only0 oA) hroom
  obtain ⟨ab, cap, P, TT, rfl, h⟩ := h
  have n16 := h.n16
  have H := Lib.hid (And.intro h (And.intro oA bR))
  clear oA bR hroom
  rcases bestL_range L n with e | ⟨i, hi, hne, e⟩
  · obtain ⟨e1, e2, -, -⟩ := pop_none (B := B) e
    rw [e1, e2]
    rw [e] at hf
    unfold It.val
    clear e e1 e2 h
    go_enter Tryz.func38, Tryz.ntmps38
    go_wp2_with fail
    refine hf.mono ?_
    rintro e w2 ⟨rfl, o2⟩
    have b2 := H.out.2.2.only o2 (by simp)
    have y0 := b2.c0
    have y1 := b2.c1
    have f0 := b2.fr 0
    have f1 := b2.fr 1
    have O2 := Lib.hid (H.out.2.1.trans' o2)
    clear o2 b2 hf
    generalize hN : w.heap.size = N at *
    go_wp2_with fail
    (try simp only [Exit.inBlock, Exit.then])
    refine bodyPost_ret (v := .tuple #[.agg #[.int .u64 0, .int .i64 0], .bool false]) (by rw [results_cell_tmp rfl]; go_simp) rfl ?_
    have o6 : Only [N] w2 ((w2.setCell ⟨N, 0, none⟩ (.int .u64 0)).setCell ⟨N, 1, none⟩ (.int .i64 0)) := ((Only.refl _ _).setCell (by simp) _).setCell (by simp) _
    exact ⟨rfl, O2.out.trans o6 (by simp; omega)⟩
  · obtain ⟨e1, e2, -, -⟩ := pop_some (B := B) e
    rw [e1, e2]
    rw [e] at hf
    have hem : (L i).isEmpty = false := by simpa using hne
    have hpo : Hid (∀ W, Only [] w W → Calls Tryz.prog 64 #[.pointer (some ⟨P i, 0, none⟩)] W fun e w' => e = .returned (.tuple #[.agg #[.int .u64 (first (L i)).k, .int .i64 (first (L i)).i], .bool true]) ∧ Only [] W w') := fun W o => by
      have := xMin (Rw wd (B i)) W (P i) (TT i) (L i) ((h.only0 o).sh i hi)
      rw [hem] at this
      exact this
    have hI : (0 : Int) ≤ (i : Int) ∧ (i : Int) < (n : Int) := by omega
    have hi0 : ¬ ((i : Int) < 0) := by omega
    unfold It.val
    generalize first (L i) = x at *
    clear e e1 e2 h hem hne
    go_enter Tryz.func38, Tryz.ntmps38
    go_wp2_with fail
    refine hf.mono ?_
    rintro e w2 ⟨rfl, o2⟩
    have o3 := H.out.2.1.trans' o2
    have hQ := H.out.1.only0 o3
    have d0 := hQ.c0
    have di := hQ.at_ hi
    have hm := hpo.out _ o3
    have R2 := Lib.hid (And.intro o3 (H.out.2.2.only o2 (by simp)))
    clear o2 o3 hQ hf
    go_wp2_with fail
    refine hm.mono ?_
    rintro e w3 ⟨rfl, o3⟩
    have b2 := R2.out.2.only o3 (by simp)
    have y0 := b2.c0
    have y1 := b2.c1
    have f0 := b2.fr 0
    have f1 := b2.fr 1
    have O2 := Lib.hid (R2.out.1.trans' o3)
    clear o3 b2 hm d0 di
    generalize hN : w.heap.size = N at *
    go_wp2_with fail
    (try simp only [Exit.inBlock, Exit.then])
    refine bodyPost_ret (v := .tuple #[.agg #[.int .u64 x.k, .int .i64 x.i], .bool true]) (by rw [results_cell_tmp rfl]; go_simp) rfl ?_
    have o6 : Only [N] w3 ((w3.setCell ⟨N, 0, none⟩ (.int .u64 x.k)).setCell ⟨N, 1, none⟩ (.int .i64 x.i)) := ((Only.refl _ _).setCell (by simp) _).setCell (by simp) _
    exact ⟨rfl, O2.out.trans o6 (by simp; omega)⟩

set_option maxHeartbeats 4000000 in
theorem rqPop (w : World) (xb : Nat) (T : List Nat) (n wd : Nat) (B : Nat → Int) (L : Nat → List It) (h : RQOf w xb T n wd B L) (hroom : ∀ i, i < n → (L i).length < 1000000) :
    Calls Tryz.prog 36 #[.pointer (some ⟨xb, 0, none⟩)] w fun e w' => e = .returned (.tuple #[(minX L n).val, .bool (minB L n)]) ∧ ∃ T', RQOf w' xb T' n wd (popB L n B) (popL L n) ∧ Moved w T w' T' := by
  have oA : Only [] w (w.alloc (.cells #[.int .u64 0, .int .i64 0] 40)) := (Only.refl [] w).alloc _
  have bR : Box _ w.heap.size ⟨0, 0⟩ := Box.new w ⟨0, 0⟩
  have hf := rqFirst _ xb T n wd B L (h.only0 oA) hroom
  obtain ⟨ab, cap, P, TT, rfl, h⟩ := h
  have n16 := h.n16
  have hNS : Hid (w.heap.size ∉ rown xb ab n TT) := fun hc => by have := h.lt _ hc; omega
  have H := Lib.hid (And.intro h (And.intro oA bR))
  clear oA bR hroom
  rcases bestL_range L n with e | ⟨i, hi, hne, e⟩
  · obtain ⟨e1, e2, e3, e4⟩ := pop_none (B := B) e
    rw [e1, e2, e3, e4]
    rw [e] at hf
    unfold It.val
    clear e e1 e2 e3 e4 h
    go_enter Tryz.func36, Tryz.ntmps36
    go_wp2_with fail
    refine hf.mono ?_
    rintro e w2 ⟨rfl, o2⟩
    have b2 := H.out.2.2.only o2 (by simp)
    have y0 := b2.c0
    have y1 := b2.c1
    have f0 := b2.fr 0
    have f1 := b2.fr 1
    have O2 := Lib.hid (H.out.2.1.trans' o2)
    clear o2 b2 hf
    generalize hN : w.heap.size = N at *
    go_wp2_with fail
    (try simp only [Exit.inBlock, Exit.then])
    refine bodyPost_ret (v := .tuple #[.agg #[.int .u64 0, .int .i64 0], .bool false]) (by rw [results_cell_tmp rfl]; go_simp) rfl ?_
    have o6 : Only [N] w2 ((w2.setCell ⟨N, 0, none⟩ (.int .u64 0)).setCell ⟨N, 1, none⟩ (.int .i64 0)) := ((Only.refl _ _).setCell (by simp) _).setCell (by simp) _
    have o7 := O2.out.trans o6 (by simp; omega)
    exact ⟨rfl, _, ⟨ab, cap, P, TT, rfl, H.out.1.only0 o7⟩, Moved.of_only o7⟩
  · obtain ⟨e1, e2, e3, e4⟩ := pop_some (B := B) e
    rw [e1, e2, e3, e4]
    rw [e] at hf
    have hem : (L i).isEmpty = false := by simpa using hne
    have hpo : Hid (∀ W, Only [] w W → Calls Tryz.prog 63 #[.pointer (some ⟨P i, 0, none⟩)] W fun e w' => e = .returned (.tuple #[.agg #[.int .u64 (first (L i)).k, .int .i64 (first (L i)).i], .bool true]) ∧ ∃ S', RefOf w' (P i) S' wd (first (L i)).k (L i).tail ∧ Moved W (TT i) w' S') := fun W o => by
      have := rPop W (P i) (TT i) wd (B i) (L i) ((h.only0 o).sh i hi)
      rw [hem] at this
      exact this
    have hI : (0 : Int) ≤ (i : Int) ∧ (i : Int) < (n : Int) := by omega
    have hi0 : ¬ ((i : Int) < 0) := by omega
    unfold It.val
    generalize (L i).tail = l' at *
    generalize first (L i) = x at *
    clear e e1 e2 e3 e4 h hem hne
    go_enter Tryz.func36, Tryz.ntmps36
    go_wp2_with fail
    refine hf.mono ?_
    rintro e w2 ⟨rfl, o2⟩
    have o3 := H.out.2.1.trans' o2
    have hQ := H.out.1.only0 o3
    have d0 := hQ.c0
    have di := hQ.at_ hi
    have hm := hpo.out _ o3
    have R2 := Lib.hid (And.intro o3 (And.intro (H.out.2.2.only o2 (by simp)) hQ))
    clear o2 o3 hQ hf
    go_wp2_with fail
    refine hm.mono ?_
    rintro e w3 ⟨rfl, T3, q1, q2⟩
    have hQ3 := R2.out.2.2.wheel hi q1 q2
    have b2 := R2.out.2.1.moved hQ3.2 hNS.out
    have y0 := b2.1.c0
    have y1 := b2.1.c1
    have f0 := b2.1.fr 0
    have f1 := b2.1.fr 1
    have R3 := Lib.hid (And.intro hQ3 b2.2)
    clear q1 q2 b2 hm d0 di hQ3
    generalize hN : w.heap.size = N at *
    go_wp2_with fail
    (try simp only [Exit.inBlock, Exit.then])
    refine bodyPost_ret (v := .tuple #[.agg #[.int .u64 x.k, .int .i64 x.i], .bool true]) (by rw [results_cell_tmp rfl]; go_simp) rfl ?_
    have o6 : Only [N] w3 ((w3.setCell ⟨N, 0, none⟩ (.int .u64 x.k)).setCell ⟨N, 1, none⟩ (.int .i64 x.i)) := ((Only.refl _ _).setCell (by simp) _).setCell (by simp) _
    have m6 := (Moved.of_only R2.out.1).trans R3.out.1.2
    refine ⟨rfl, _, ⟨ab, cap, P, _, rfl, R3.out.1.1.only o6 (fun b hb e => R3.out.2 (by simp at e; rw [← e]; exact hb))⟩, m6.1.trans o6 (by simp; exact .inr (by omega)), m6.2⟩

set_option maxHeartbeats 4000000 in
theorem rqDrop (w : World) (xb : Nat) (T : List Nat) (n wd : Nat) (B : Nat → Int) (L : Nat → List It) (h : RQOf w xb T n wd B L) (hids : ∀ i, i < n → Ids (L i)) (id : Int) :
    Calls Tryz.prog 37 #[.pointer (some ⟨xb, 0, none⟩), .int .i64 id] w fun e w' => e = .returned (.tuple #[((dropF L n id).getD ⟨0, 0⟩).val, .bool (dropF L n id).isSome]) ∧ ∃ T', RQOf w' xb T' n wd B (dropL L n id) ∧ Moved w T w' T' := by
  obtain ⟨ab, cap, P, TT, rfl, h⟩ := h
  have oA : Only [] w (w.alloc (.cells #[.int .u64 0, .int .i64 0] 40)) := (Only.refl [] w).alloc _
  have bR : Box _ w.heap.size ⟨0, 0⟩ := Box.new w ⟨0, 0⟩
  have n1 := h.n1
  have n16 := h.n16
  have hNS : Hid (w.heap.size ∉ rown xb ab n TT) := fun hc => by have := h.lt _ hc; omega
  have H := Lib.hid (And.intro h (And.intro oA bR))
  have y0 := bR.c0
  have y1 := bR.c1
  have f0 := bR.fr 0
  have f1 := bR.fr 1
  by_cases h0 : 0 ≤ id
  · obtain ⟨i, hi, hm, ht⟩ := home_at h0 n1
    have eh : homeN id n = i := homeN_at hm
    have e1 : dropF L n id = findId id (L i) := by unfold dropF; rw [if_pos h0, eh]
    have e2 : dropL L n id = fup L i (dropId id (L i)) := by unfold dropL; rw [if_pos h0, eh]
    rw [e1, e2]
    obtain ⟨V, eV⟩ : ∃ V, w.alloc (.cells #[.int .u64 0, .int .i64 0] 40) = V := ⟨_, rfl⟩
    rw [eV] at oA y0 y1 f0 f1 H
    have hQ := h.only0 oA
    have hQ2 := hQ.only0 (Only.refl [] V).drew
    have hP : Calls Tryz.prog 27 #[.pointer (some ⟨P i, 0, none⟩), .int .i64 id] V.drew fun e w' => e = .returned (.tuple #[((findId id (L i)).getD ⟨0, 0⟩).val, .bool (findId id (L i)).isSome]) ∧ ∃ S', RefOf w' (P i) S' wd (B i) (dropId id (L i)) ∧ Moved V.drew (TT i) w' S' := xDrop (Rw wd (B i)) V.drew (P i) (TT i) (L i) (hQ2.sh i hi) (hids i hi) id
    have d0 := hQ.c0
    have di := hQ.at_ hi
    have hI : (0 : Int) ≤ (i : Int) ∧ (i : Int) < (n : Int) := by omega
    have hneg : ¬ id < 0 := by omega
    have hn0 : ¬ (n : Int) = 0 := by omega
    have hn0' : ¬ n = 0 := by omega
    unfold It.val at hP ⊢
    generalize dropId id (L i) = l' at *
    generalize (findId id (L i)).getD ⟨0, 0⟩ = x at *
    generalize (findId id (L i)).isSome = ok at *
    have HQ := Lib.hid hQ2
    clear h oA bR hQ hQ2 e1 e2 hm eh hids
    obtain ⟨N, eN⟩ : ∃ N, w.heap.size = N := ⟨_, rfl⟩
    rw [eN] at y0 y1 f0 f1 H hNS
    have EN := Lib.hid eN
    go_enter Tryz.func37, Tryz.ntmps37
    go_wp2_with (simp only [eV, eN])
    clear eV eN
    have nx : ¬ xb = N := fun e => hNS.out (mem_rown.2 (.inl (by simp [e])))
    have na : ¬ ab = N := fun e => hNS.out (mem_rown.2 (.inl (by simp [e])))
    have nx' : ¬ N = xb := fun e => nx e.symm
    have na' : ¬ N = ab := fun e => na e.symm
    go_region_held3 (fun w' => w'.cell? ⟨xb, 0, none⟩ = some (.slice (some ⟨ab, 0, none⟩) n cap) ∧ w'.cell? ⟨ab, i, none⟩ = some (.pointer (some ⟨P i, 0, none⟩)))
      (first | go_keep | (exact ⟨k3, k4⟩))
      (first | (go_at_call 27; refine hP.mono ?_; rintro e w3 ⟨rfl, T3, q1, q2⟩; have hQ3 := HQ.out.wheel hi q1 q2; rw [fup_id] at hQ3; have b2 := (H.out.2.2.only (Only.refl [] V).drew (by simp)).moved hQ3.2 hNS.out; have z0 := b2.1.c0; have z1 := b2.1.c1; have k0 := b2.1.fr 0; have k1 := b2.1.fr 1; have k3 := hQ3.1.c0; have k4 := hQ3.1.at_ hi; have R3 := Lib.hid (And.intro hQ3 b2.2); clear q1 q2 b2 hP hQ3))
    all_goals
      go_wp2_with fail
      (try simp only [Exit.inBlock, Exit.then])
      refine bodyPost_ret (v := .tuple #[.agg #[.int .u64 x.k, .int .i64 x.i], .bool ok]) (by rw [results_cell_tmp rfl]; go_simp) rfl ?_
      have o6 : Only [N] w3 ((w3.setCell ⟨N, 0, none⟩ (.int .u64 x.k)).setCell ⟨N, 1, none⟩ (.int .i64 x.i)) := ((Only.refl _ _).setCell (by simp) _).setCell (by simp) _
      have m6 := (Moved.of_only H.out.2.1.drew).trans R3.out.1.2
      have hN := EN.out
      refine ⟨rfl, _, ⟨ab, cap, P, _, rfl, R3.out.1.1.only o6 (fun b hb e => R3.out.2 (by simp at e; rw [← e]; exact hb))⟩, m6.1.trans o6 (by simp; exact .inr (by omega)), m6.2⟩
  · have e1 : dropF L n id = none := by unfold dropF; rw [if_neg h0]
    have e2 : dropL L n id = L := by unfold dropL; rw [if_neg h0]
    rw [e1, e2]
    have hneg : id < 0 := by omega
    simp only [Option.getD_none, Option.isSome_none]
    unfold It.val
    obtain ⟨V, eV⟩ : ∃ V, w.alloc (.cells #[.int .u64 0, .int .i64 0] 40) = V := ⟨_, rfl⟩
    rw [eV] at oA y0 y1 f0 f1 H
    clear h oA bR e1 e2 hids
    obtain ⟨N, eN⟩ : ∃ N, w.heap.size = N := ⟨_, rfl⟩
    rw [eN] at y0 y1 f0 f1 H hNS
    have EN := Lib.hid eN
    go_enter Tryz.func37, Tryz.ntmps37
    go_wp2_with (simp only [eV, eN])
    (try simp only [Exit.inBlock, Exit.then])
    refine bodyPost_ret (v := .tuple #[.agg #[.int .u64 0, .int .i64 0], .bool false]) (by rw [results_cell_tmp rfl]; go_simp) rfl ?_
    have hN := EN.out
    have o6 : Only [N] V ((V.setCell ⟨N, 0, none⟩ (.int .u64 0)).setCell ⟨N, 1, none⟩ (.int .i64 0)) := ((Only.refl _ _).setCell (by simp) _).setCell (by simp) _
    have o7 := H.out.2.1.trans o6 (by simp; omega)
    exact ⟨rfl, _, ⟨ab, cap, P, TT, rfl, H.out.1.only0 o7⟩, Moved.of_only o7⟩
end Go.Proofs.YtajhkdbldbifeaaGreatDoor
