/-
  Contracts of the queue: Push, Drop, Has.
-/
import Derived.Test.YtajhkdbldbifeaaGreatDoorQueueQ
namespace Go.Proofs.YtajhkdbldbifeaaGreatDoor
set_option maxRecDepth 100000
open Go.RowKit Go.ChangeMaps Go.MapKept
set_option linter.unusedVariables false
set_option linter.unusedSimpArgs false

theorem homeN_at {id : Int} {n i : Nat} (h : id % (n : Int) = (i : Int)) : homeN id n = i := by unfold homeN; rw [h]; exact Int.toNat_natCast i

set_option maxHeartbeats 4000000 in
theorem qPush (w : World) (qb : Nat) (S : List Nat) (n wd : Nat) (B : Nat → Int) (L : Nat → List It) (h : QueueOf w qb S n wd B L) (hT : Tab w) (hg : 0 ∉ S) (x : It) (hx : x.ok) (hroom : ∀ i, i < n → (L i).length < 200000) :
    Calls Tryz.prog 22 #[.pointer (some ⟨qb, 0, none⟩), .agg #[.int .u64 x.k, .int .i64 x.i]] w fun e w' => e = .returned (.bool (pushB L n B x)) ∧ ∃ S', QueueOf w' qb S' n wd B (pushL L n B x) ∧ Moved w S w' S' := by
  obtain ⟨ab, tb, ib, nb, P, SS, rfl, h⟩ := h
  have oA : Only [] w (w.alloc (.cells #[.int .u64 x.k, .int .i64 x.i] 40)) := (Only.refl [] w).alloc _
  have bX : Box _ w.heap.size x := Box.new w x
  obtain ⟨n1, n16⟩ := h.n1
  obtain ⟨V, eV⟩ : ∃ V, w.alloc (.cells #[.int .u64 x.k, .int .i64 x.i] 40) = V := ⟨_, rfl⟩
  rw [eV] at oA bX
  have x0 := bX.c0
  have x1 := bX.c1
  have H := Lib.hid (And.intro h (And.intro oA (And.intro hT hg)))
  by_cases h0 : 0 ≤ x.i
  · obtain ⟨i, hi, hm, ht⟩ := home_at h0 n1
    have eh : homeN x.i n = i := homeN_at hm
    have hQ := h.only0 oA
    have hho := qHomeIn V qb ab n hQ.c0 n1 n16 x.i i h0 ht
    have hQ2 := hQ.only0 (Only.refl [] V).drew
    have hpu := sPush V.drew (P i) (SS i) wd (B i) (L i) (hQ2.sh i hi) x hx (hroom i hi)
    have d0 := hQ.c0
    have di := hQ.at_ hi
    have hI : (0 : Int) ≤ (i : Int) ∧ (i : Int) < (n : Int) := by omega
    obtain ⟨bb, ebb⟩ : ∃ bb, (!hasId x.i (L i) && decide (B i ≤ x.k)) = bb := ⟨_, rfl⟩
    have epb : pushB L n B x = bb := by unfold pushB; rw [eh, decide_eq_true h0, Bool.true_and, ebb]
    rw [ebb] at hpu
    rcases bb with _ | _
    · have epl : pushL L n B x = L := by unfold pushL; rw [epb]; rfl
      rw [epb, epl]
      simp only [Bool.false_eq_true, if_false] at hpu
      have HQ := Lib.hid hQ2
      clear h hT hg oA bX hQ hQ2 epb epl ebb hm ht eh hroom
      go_enter Tryz.func22, Tryz.ntmps22
      go_wp2_with (simp only [eV])
      refine hho.mono ?_
      rintro e V ⟨rfl, rfl⟩
      go_wp2_with fail
      go_still_tail 11, (by kernel_rfl)
      change wpList _ _ _ _ _ V.drew
      go_wp2_with fail
      refine hpu.mono ?_
      rintro e w3 ⟨rfl, S3, q1, q2⟩
      have q3 := HQ.out.shard hi q1 q2 (by rw [fup_id]; exact H.out.1.homes)
      rw [fup_id, fup_id] at q3
      have Q3 := Lib.hid q3
      clear q1 q2 q3 hpu
      go_wp2_with fail
      go_ret
      exact ⟨rfl, _, ⟨ab, tb, ib, nb, P, _, rfl, Q3.out.1⟩, (Moved.of_only H.out.2.1.drew).trans Q3.out.2⟩
    · have hno : hasId x.i (L i) = false := by
        simp only [Bool.and_eq_true, Bool.not_eq_true'] at ebb
        exact ebb.1
      have hin := h.homes.ins hi ⟨h0, hm⟩ hno
      have epl : pushL L n B x = fup L i (ins x (L i)) := by unfold pushL; rw [epb, eh]; rfl
      rw [epb, epl]
      simp only [if_true] at hpu
      have HQ := Lib.hid (And.intro hQ2 hin)
      clear h hT hg oA bX hQ hQ2 epb epl ebb hm ht eh hroom hin hno
      generalize ins x (L i) = l' at *
      go_enter Tryz.func22, Tryz.ntmps22
      go_wp2_with (simp only [eV])
      refine hho.mono ?_
      rintro e V ⟨rfl, rfl⟩
      go_wp2_with fail
      go_still_tail 11, (by kernel_rfl)
      change wpList _ _ _ _ _ V.drew
      go_wp2_with fail
      refine hpu.mono ?_
      rintro e w3 ⟨rfl, S3, q1, q2⟩
      have q3 := HQ.out.1.shard hi q1 q2 HQ.out.2
      rw [fup_id] at q3
      have hT3 := (H.out.2.2.1.only0 H.out.2.1.drew).only q3.2.1 H.out.2.2.2
      have hre := qRenew w3 qb ab tb ib nb n P _ wd B _ (hasL L) (firL L) q3.1 hT3 i hi (keep_hs L i l').1 (keep_hs L i l').2
      have Q3 := Lib.hid q3
      clear q1 q2 q3 hpu hT3
      go_wp2_with fail
      refine hre.mono ?_
      rintro e w4 ⟨rfl, q1, q2⟩
      have Q4 := Lib.hid (And.intro q1 q2)
      clear q1 q2 hre
      go_wp2_with fail
      go_ret
      exact ⟨rfl, _, ⟨ab, tb, ib, nb, P, _, rfl, Q4.out.1⟩, ((Moved.of_only H.out.2.1.drew).trans Q3.out.2).trans Q4.out.2⟩
  · have epb : pushB L n B x = false := by unfold pushB; rw [decide_eq_false h0]; rfl
    have epl : pushL L n B x = L := by unfold pushL; rw [epb]; rfl
    rw [epb, epl]
    have hho := qHomeNeg V qb x.i (by omega)
    clear h hT hg oA bX epb epl hroom
    go_enter Tryz.func22, Tryz.ntmps22
    go_wp2_with (simp only [eV])
    refine hho.mono ?_
    rintro e V ⟨rfl, rfl⟩
    go_wp2_with fail
    go_quiet (fail)
    have o5 : Hid (Only [] w (V.drewN nq)) := H.out.2.1.drewN nq
    generalize V.drewN nq = V5 at *
    go_wp2_with fail
    go_ret
    exact ⟨rfl, _, ⟨ab, tb, ib, nb, P, SS, rfl, H.out.1.only0 o5.out⟩, Moved.of_only o5.out⟩

theorem qHas (w : World) (qb : Nat) (S : List Nat) (n wd : Nat) (B : Nat → Int) (L : Nat → List It) (h : QueueOf w qb S n wd B L) (id : Int) (hid : i64ok id) :
    Calls Tryz.prog 39 #[.pointer (some ⟨qb, 0, none⟩), .int .i64 id] w fun e w' => e = .returned (.bool (hasB8 L n id)) ∧ w' = w := by
  obtain ⟨ab, tb, ib, nb, P, SS, rfl, h⟩ := h
  obtain ⟨n1, n16⟩ := h.n1
  by_cases h0 : 0 ≤ id
  · obtain ⟨i, hi, hm, ht⟩ := home_at h0 n1
    have eh : homeN id n = i := homeN_at hm
    have hho := qHomeIn w qb ab n h.c0 n1 n16 id i h0 ht
    have hha := sHasOf w (P i) (SS i) wd (B i) (L i) (h.sh i hi) id hid
    have d0 := h.c0
    have di := h.at_ hi
    have hI : (0 : Int) ≤ (i : Int) ∧ (i : Int) < (n : Int) := by omega
    have e : hasB8 L n id = hasId id (L i) := by unfold hasB8; rw [eh, decide_eq_true h0, Bool.true_and]
    rw [e]
    generalize hasId id (L i) = b at *
    clear h e hm ht eh
    go_enter Tryz.func39, Tryz.ntmps39
    go_wp2_with fail
    refine hho.mono ?_
    rintro e w ⟨rfl, rfl⟩
    go_wp2_with fail
    refine hha.mono ?_
    rintro e w ⟨rfl, rfl⟩
    go_wp2_with fail
    go_ret
    exact ⟨rfl, rfl⟩
  · have e : hasB8 L n id = false := by unfold hasB8; rw [decide_eq_false h0]; rfl
    rw [e]
    have hho := qHomeNeg w qb id (by omega)
    clear h e
    go_enter Tryz.func39, Tryz.ntmps39
    go_wp2_with fail
    refine hho.mono ?_
    rintro e w ⟨rfl, rfl⟩
    go_wp2_with fail
    go_ret
    exact ⟨rfl, rfl⟩

set_option maxHeartbeats 4000000 in
theorem qDrop (w : World) (qb : Nat) (S : List Nat) (n wd : Nat) (B : Nat → Int) (L : Nat → List It) (h : QueueOf w qb S n wd B L) (hT : Tab w) (hg : 0 ∉ S) (id : Int) (hid : i64ok id) :
    Calls Tryz.prog 26 #[.pointer (some ⟨qb, 0, none⟩), .int .i64 id] w fun e w' => e = .returned (.tuple #[((dropF L n id).getD ⟨0, 0⟩).val, .bool (dropF L n id).isSome]) ∧ ∃ S', QueueOf w' qb S' n wd B (dropL L n id) ∧ Moved w S w' S' := by
  obtain ⟨ab, tb, ib, nb, P, SS, rfl, h⟩ := h
  have oA : Only [] w (w.alloc (.cells #[.int .u64 0, .int .i64 0] 40)) := (Only.refl [] w).alloc _
  have bR : Box _ w.heap.size ⟨0, 0⟩ := Box.new w ⟨0, 0⟩
  obtain ⟨n1, n16⟩ := h.n1
  have hNS : Hid (w.heap.size ∉ qown qb ab tb ib nb n SS) := fun hc => by have := h.lt _ hc; omega
  have H := Lib.hid (And.intro h (And.intro oA (And.intro bR (And.intro hT hg))))
  by_cases h0 : 0 ≤ id
  · obtain ⟨i, hi, hm, ht⟩ := home_at h0 n1
    have eh : homeN id n = i := homeN_at hm
    have e1 : dropF L n id = findId id (L i) := by unfold dropF; rw [if_pos h0, eh]
    have e2 : dropL L n id = fup L i (dropId id (L i)) := by unfold dropL; rw [if_pos h0, eh]
    rw [e1, e2]
    have hQ := h.only0 oA
    have hho := qHomeIn _ qb ab n hQ.c0 n1 n16 id i h0 ht
    have hP := sDrop _ (P i) (SS i) wd (B i) (L i) (hQ.sh i hi) id hid
    have d0 := hQ.c0
    have di := hQ.at_ hi
    have hI : (0 : Int) ≤ (i : Int) ∧ (i : Int) < (n : Int) := by omega
    have hdr := Lib.hid (h.homes.drop hi id)
    unfold It.val at hP ⊢
    generalize dropId id (L i) = l' at *
    generalize (findId id (L i)).getD ⟨0, 0⟩ = x at *
    generalize (findId id (L i)).isSome = ok at *
    have HQ := Lib.hid hQ
    clear h hT hg oA bR hQ e1 e2 hm ht eh
    go_enter Tryz.func26, Tryz.ntmps26
    go_wp2_with fail
    refine hho.mono ?_
    rintro e V ⟨rfl, rfl⟩
    go_wp2_with fail
    refine hP.mono ?_
    rintro e w4 ⟨rfl, S4, q1, q2⟩
    have hQ4 := HQ.out.shard hi q1 q2 hdr.out
    rw [fup_id] at hQ4
    have b4' := H.out.2.2.1.moved hQ4.2 hNS.out
    have oY : Only [] w4 (w4.alloc (.cells #[.int .u64 x.k, .int .i64 x.i] 40)) := (Only.refl [] w4).alloc _
    have bY := Box.new w4 x
    have hT4 := ((H.out.2.2.2.1.only0 H.out.2.1).only hQ4.2.1 H.out.2.2.2.2).only0 oY
    have hre := qRenew _ qb ab tb ib nb n P _ wd _ _ (hasL L) (firL L) (hQ4.1.only0 oY) hT4 i hi (keep_hs L i l').1 (keep_hs L i l').2
    have hYS : Hid (w4.heap.size ∉ qown qb ab tb ib nb n (fup SS i S4)) := fun hc => by have := hQ4.1.lt _ hc; omega
    have R4 := Lib.hid (And.intro hQ4 (And.intro b4' (And.intro oY bY)))
    clear q1 q2 hQ4 b4' oY bY hT4 hP d0 di
    go_wp2_with fail
    refine hre.mono ?_
    rintro e w6 ⟨rfl, q1, q2⟩
    have b6 := (R4.out.2.1.1.only R4.out.2.2.1 (by simp)).moved q2 R4.out.2.1.2
    have bY6 := R4.out.2.2.2.moved q2 hYS.out
    have y0 := b6.1.c0
    have y1 := b6.1.c1
    have f0 := b6.1.fr 0
    have f1 := b6.1.fr 1
    have hlt := b6.1.lt
    have z0 := bY6.1.c0
    have z1 := bY6.1.c1
    have R6 := Lib.hid (And.intro q1 (And.intro q2 b6.2))
    clear q1 q2 b6 bY6 hre
    generalize hN : w.heap.size = N at *
    generalize w4.heap.size = N4 at *
    go_wp2_with fail
    (try simp only [Exit.inBlock, Exit.then])
    refine bodyPost_ret (v := .tuple #[.agg #[.int .u64 x.k, .int .i64 x.i], .bool ok]) (by rw [results_cell_tmp rfl]; go_simp) rfl ?_
    have o6 : Only [N] w6 ((w6.setCell ⟨N, 0, none⟩ (.int .u64 x.k)).setCell ⟨N, 1, none⟩ (.int .i64 x.i)) := ((Only.refl _ _).setCell (by simp) _).setCell (by simp) _
    have m6 := (((Moved.of_only H.out.2.1).trans R4.out.1.2).still R4.out.2.2.1).trans R6.out.2.1
    refine ⟨rfl, _, ⟨ab, tb, ib, nb, P, _, rfl, R6.out.1.only o6 (fun b hb e => R6.out.2.2 (by simp at e; rw [← e]; exact hb))⟩, m6.1.trans o6 (by simp; exact .inr (by omega)), m6.2⟩
  · have e1 : dropF L n id = none := by unfold dropF; rw [if_neg h0]
    have e2 : dropL L n id = L := by unfold dropL; rw [if_neg h0]
    rw [e1, e2]
    have hho := qHomeNeg (w.alloc (.cells #[.int .u64 0, .int .i64 0] 40)) qb id (by omega)
    have y0 := bR.c0
    have y1 := bR.c1
    have f0 := bR.fr 0
    have f1 := bR.fr 1
    have hlt := bR.lt
    obtain ⟨V, eV⟩ : ∃ V, w.alloc (.cells #[.int .u64 0, .int .i64 0] 40) = V := ⟨_, rfl⟩
    rw [eV] at hho y0 y1 f0 f1 hlt H
    simp only [Option.getD_none, Option.isSome_none]
    unfold It.val
    clear h hT hg oA bR e1 e2
    go_enter Tryz.func26, Tryz.ntmps26
    go_wp2_with (simp only [eV])
    refine hho.mono ?_
    rintro e V ⟨rfl, rfl⟩
    clear eV
    generalize hN : w.heap.size = N at *
    go_wp2_with fail
    (try simp only [Exit.inBlock, Exit.then])
    refine bodyPost_ret (v := .tuple #[.agg #[.int .u64 0, .int .i64 0], .bool false]) (by rw [results_cell_tmp rfl]; go_simp) rfl ?_
    have o6 : Only [N] V ((V.setCell ⟨N, 0, none⟩ (.int .u64 0)).setCell ⟨N, 1, none⟩ (.int .i64 0)) := ((Only.refl _ _).setCell (by simp) _).setCell (by simp) _
    have o7 := H.out.2.1.trans o6 (by simp; omega)
    exact ⟨rfl, _, ⟨ab, tb, ib, nb, P, SS, rfl, H.out.1.only0 o7⟩, Moved.of_only o7⟩
end Go.Proofs.YtajhkdbldbifeaaGreatDoor
