/-
  Contracts of the queue: Min, Pop, Push, Drop, Has.
-/
import Derived.Test.YtajhkdbldbifeaaGreatDoorQueueP
namespace Go.Proofs.YtajhkdbldbifeaaGreatDoor
set_option maxRecDepth 100000
open Go.RowKit Go.ChangeMaps Go.MapKept
set_option linter.unusedVariables false
set_option linter.unusedSimpArgs false

/-- What Min tells; what Pop leaves. -/
def minX (L : Nat → List It) (n : Nat) : It := winX (bestL L n) (firL L)
def minB (L : Nat → List It) (n : Nat) : Bool := winB (bestL L n)
def popB (L : Nat → List It) (n : Nat) (B : Nat → Int) : Nat → Int := if bestL L n = -1 then B else fup B (bestL L n).toNat (first (L (bestL L n).toNat)).k
def popL (L : Nat → List It) (n : Nat) : Nat → List It := if bestL L n = -1 then L else fup L (bestL L n).toNat (L (bestL L n).toNat).tail
theorem pop_none {L : Nat → List It} {n : Nat} {B : Nat → Int} (e : bestL L n = -1) : minX L n = ⟨0, 0⟩ ∧ minB L n = false ∧ popB L n B = B ∧ popL L n = L := by
  unfold minX minB popB popL winX winB; rw [e]; simp
theorem pop_some {L : Nat → List It} {n : Nat} {B : Nat → Int} {i : Nat} (e : bestL L n = i) : minX L n = first (L i) ∧ minB L n = true ∧ popB L n B = fup B i (first (L i)).k ∧ popL L n = fup L i (L i).tail := by
  unfold minX minB popB popL winX winB firL; rw [e]
  have h : ¬ ((i : Int) = -1) := by omega
  simp [h]
/-- The home of an ID. -/
def homeN (id : Int) (n : Nat) : Nat := (id % (n : Int)).toNat
def pushB (L : Nat → List It) (n : Nat) (B : Nat → Int) (x : It) : Bool := decide (0 ≤ x.i) && (!hasId x.i (L (homeN x.i n)) && decide (B (homeN x.i n) ≤ x.k))
def pushL (L : Nat → List It) (n : Nat) (B : Nat → Int) (x : It) : Nat → List It := if pushB L n B x = true then fup L (homeN x.i n) (ins x (L (homeN x.i n))) else L
def dropF (L : Nat → List It) (n : Nat) (id : Int) : Option It := if 0 ≤ id then findId id (L (homeN id n)) else none
def dropL (L : Nat → List It) (n : Nat) (id : Int) : Nat → List It := if 0 ≤ id then fup L (homeN id n) (dropId id (L (homeN id n))) else L
def hasB8 (L : Nat → List It) (n : Nat) (id : Int) : Bool := decide (0 ≤ id) && hasId id (L (homeN id n))

set_option maxHeartbeats 2000000 in
theorem qMin (w : World) (qb : Nat) (S : List Nat) (n wd : Nat) (B : Nat → Int) (L : Nat → List It) (h : QueueOf w qb S n wd B L) :
    Calls Tryz.prog 28 #[.pointer (some ⟨qb, 0, none⟩)] w fun e w' => e = .returned (.tuple #[(minX L n).val, .bool (minB L n)]) ∧ Only [] w w' := by
  obtain ⟨ab, tb, ib, nb, P, SS, rfl, h⟩ := h
  have oA : Only [] w (w.alloc (.cells #[.int .u64 0, .int .i64 0] 40)) := (Only.refl [] w).alloc _
  have bR : Box _ w.heap.size ⟨0, 0⟩ := Box.new w ⟨0, 0⟩
  have hw := tWin _ tb ib nb n _ _ (h.tr.only0 oA)
  rw [nodeM_one h.n1.2] at hw
  have c1 := (h.only0 oA).c1
  have hqb := h.blk.lt
  unfold minX minB bestL It.val
  generalize winX (refBest (hasL L) (firL L) n) (firL L) = x at *
  generalize winI (refBest (hasL L) (firL L) n) = i at *
  generalize winB (refBest (hasL L) (firL L) n) = b at *
  clear h
  have HA := Lib.hid (And.intro oA bR)
  clear oA bR
  go_enter Tryz.func28, Tryz.ntmps28
  go_wp2_with fail
  refine hw.mono ?_
  rintro e w2 ⟨rfl, o2⟩
  have b2 := HA.out.2.only o2 (by simp)
  have y0 := b2.c0
  have y1 := b2.c1
  have f0 := b2.fr 0
  have f1 := b2.fr 1
  have hlt := b2.lt
  have O2 := Lib.hid (HA.out.1.trans' o2)
  clear o2 b2 hw
  generalize hN : w.heap.size = N at *
  go_wp2_with fail
  (try simp only [Exit.inBlock, Exit.then])
  refine bodyPost_ret (v := .tuple #[.agg #[.int .u64 x.k, .int .i64 x.i], .bool b]) (by rw [results_cell_tmp rfl]; go_simp) rfl ?_
  have o6 : Only [N] w2 (((w2.setCell ⟨N, 0, none⟩ (.int .u64 x.k)).setCell ⟨N, 1, none⟩ (.int .i64 x.i)).alloc (.cells #[.int .u64 x.k, .int .i64 x.i] 40)) := (((Only.refl _ _).setCell (by simp) _).setCell (by simp) _).alloc _
  exact ⟨rfl, O2.out.trans o6 (by simp; omega)⟩

theorem keep_hs (L : Nat → List It) (i : Nat) (l : List It) : (∀ k, k ≠ i → hasL L k = hasL (fup L i l) k) ∧ ∀ k, k ≠ i → firL L k = firL (fup L i l) k := by
  refine ⟨fun k hk => ?_, fun k hk => ?_⟩
  · rw [hasL_fup, fup_other _ _ hk]
  · rw [firL_fup, fup_other _ _ hk]

set_option maxHeartbeats 4000000 in
theorem qPop (w : World) (qb : Nat) (S : List Nat) (n wd : Nat) (B : Nat → Int) (L : Nat → List It) (h : QueueOf w qb S n wd B L) (hT : Tab w) (hg : 0 ∉ S) :
    Calls Tryz.prog 24 #[.pointer (some ⟨qb, 0, none⟩)] w fun e w' => e = .returned (.tuple #[(minX L n).val, .bool (minB L n)]) ∧ ∃ S', QueueOf w' qb S' n wd (popB L n B) (popL L n) ∧ Moved w S w' S' := by
  obtain ⟨ab, tb, ib, nb, P, SS, rfl, h⟩ := h
  have oA : Only [] w (w.alloc (.cells #[.int .u64 0, .int .i64 0] 40)) := (Only.refl [] w).alloc _
  have bR : Box _ w.heap.size ⟨0, 0⟩ := Box.new w ⟨0, 0⟩
  have hw := tWin _ tb ib nb n _ _ (h.tr.only0 oA)
  rw [nodeM_one h.n1.2] at hw
  have c1 := (h.only0 oA).c1
  have n16 := h.n1.2
  have hNS : Hid (w.heap.size ∉ qown qb ab tb ib nb n SS) := fun hc => by have := h.lt _ hc; omega
  have H := Lib.hid (And.intro h (And.intro oA (And.intro bR (And.intro hT hg))))
  clear oA bR hT hg
  rcases bestL_range L n with e | ⟨i, hi, hne, e⟩
  · obtain ⟨e1, e2, e3, e4⟩ := pop_none (B := B) e
    rw [e1, e2, e3, e4]
    have e' : refBest (hasL L) (firL L) n = -1 := e
    rw [e'] at hw
    have q1 : winI (-1) = 0 := rfl
    have q2 : winX (-1) (firL L) = ⟨0, 0⟩ := rfl
    have q3 : winB (-1) = false := rfl
    rw [q1, q2, q3] at hw
    clear q1 q2 q3 e e' e1 e2 e3 e4 h
    unfold It.val
    go_enter Tryz.func24, Tryz.ntmps24
    go_wp2_with fail
    refine hw.mono ?_
    rintro e w2 ⟨rfl, o2⟩
    have b2 := H.out.2.2.1.only o2 (by simp)
    have y0 := b2.c0
    have y1 := b2.c1
    have f0 := b2.fr 0
    have f1 := b2.fr 1
    have hlt := b2.lt
    have O2 := Lib.hid (H.out.2.1.trans' o2)
    clear o2 b2 hw
    generalize hN : w.heap.size = N at *
    go_wp2_with fail
    (try simp only [Exit.inBlock, Exit.then])
    refine bodyPost_ret (v := .tuple #[.agg #[.int .u64 0, .int .i64 0], .bool false]) (by rw [results_cell_tmp rfl]; go_simp) rfl ?_
    have o6 : Only [N] w2 (((w2.setCell ⟨N, 0, none⟩ (.int .u64 0)).setCell ⟨N, 1, none⟩ (.int .i64 0)).alloc (.cells #[.int .u64 0, .int .i64 0] 40)) := (((Only.refl _ _).setCell (by simp) _).setCell (by simp) _).alloc _
    have o7 := O2.out.trans o6 (by simp; omega)
    exact ⟨rfl, _, ⟨ab, tb, ib, nb, P, SS, rfl, H.out.1.only0 o7⟩, Moved.of_only o7⟩
  · obtain ⟨e1, e2, e3, e4⟩ := pop_some (B := B) e
    rw [e1, e2, e3, e4]
    have e' : refBest (hasL L) (firL L) n = (i : Int) := e
    rw [e'] at hw
    have q1 : winI (i : Int) = i := by unfold winI; rw [if_neg (by omega)]
    have q2 : winX (i : Int) (firL L) = first (L i) := by unfold winX firL; rw [if_neg (by omega), Int.toNat_natCast]
    have q3 : winB (i : Int) = true := by simp [winB]
    rw [q1, q2, q3] at hw
    have hem : (L i).isEmpty = false := by simpa using hne
    have hpo : Hid (∀ W, Only [] w W → Calls Tryz.prog 56 #[.pointer (some ⟨P i, 0, none⟩)] W fun e w' => e = .returned (.tuple #[.agg #[.int .u64 (first (L i)).k, .int .i64 (first (L i)).i], .bool true]) ∧ ∃ S', ShardOf w' (P i) S' wd (first (L i)).k (L i).tail ∧ Moved W (SS i) w' S') := fun W o => by
      have := sPop W (P i) (SS i) wd (B i) (L i) ((h.only0 o).sh i hi) (H.out.2.2.2.1.only0 o) (fun hc => H.out.2.2.2.2 (mem_qown.2 (.inr ⟨i, hi, hc⟩)))
      rw [hem] at this
      exact this
    have hho : Hid (Homes n (fup L i (L i).tail)) := h.homes.sub hi (List.tail_sublist _)
    clear q1 q2 q3 e e' e1 e2 e3 e4 hem hne
    have hI : (0 : Int) ≤ (i : Int) ∧ (i : Int) < (n : Int) := by omega
    unfold It.val
    generalize (L i).tail = l' at *
    generalize first (L i) = x at *
    clear h
    go_enter Tryz.func24, Tryz.ntmps24
    go_wp2_with fail
    refine hw.mono ?_
    rintro e w2 ⟨rfl, o2⟩
    have o3 := (H.out.2.1.trans' o2).alloc (.cells #[.int .u64 x.k, .int .i64 x.i] 40)
    have hQ3 := H.out.1.only0 o3
    have d0 := hQ3.c0
    have di := hQ3.at_ hi
    have b3 := (H.out.2.2.1.only o2 (by simp)).only ((Only.refl [] w2).alloc (.cells #[.int .u64 x.k, .int .i64 x.i] 40)) (by simp)
    have hP := hpo.out _ o3
    have R3 := Lib.hid (And.intro o3 (And.intro hQ3 b3))
    clear o2 o3 hQ3 b3 hw c1 hpo
    go_wp2_with fail
    refine hP.mono ?_
    rintro e w4 ⟨rfl, S4, q1, q2⟩
    have hQ4 := R3.out.2.1.shard hi q1 q2 hho.out
    have b4 := R3.out.2.2.moved q2 (fun hc => hNS.out (mem_qown.2 (.inr ⟨i, hi, hc⟩)))
    have b4' := R3.out.2.2.moved hQ4.2 hNS.out
    have oY : Only [] w4 (w4.alloc (.cells #[.int .u64 x.k, .int .i64 x.i] 40)) := (Only.refl [] w4).alloc _
    have bY := Box.new w4 x
    have hT4 := ((H.out.2.2.2.1.only0 R3.out.1).only hQ4.2.1 H.out.2.2.2.2).only0 oY
    have hre := qRenew _ qb ab tb ib nb n P _ wd _ _ (hasL L) (firL L) (hQ4.1.only0 oY) hT4 i hi (keep_hs L i l').1 (keep_hs L i l').2
    have hYS : Hid (w4.heap.size ∉ qown qb ab tb ib nb n (fup SS i S4)) := fun hc => by have := hQ4.1.lt _ hc; omega
    have R4 := Lib.hid (And.intro hQ4 (And.intro b4' (And.intro oY bY)))
    clear q1 q2 hQ4 b4 b4' oY bY hT4 hP d0 di
    go_wp2_with fail
    refine hre.mono ?_
    rintro e w6 ⟨rfl, q1, q2⟩
    have b6 := (R4.out.2.1.1.only R4.out.2.2.1 (by simp)).moved q2 R4.out.2.1.2
    have bY6 := R4.out.2.2.2.moved q2 hYS.out
    have y0 := b6.1.c0
    have y1 := b6.1.c1
    have f0 := b6.1.fr 0
    have f1 := b6.1.fr 1
    have hlt := b6.1.lt
    have z0 := bY6.1.c0
    have z1 := bY6.1.c1
    have R6 := Lib.hid (And.intro q1 (And.intro q2 b6.2))
    clear q1 q2 b6 bY6 hre
    generalize hN : w.heap.size = N at *
    generalize w4.heap.size = N4 at *
    go_wp2_with fail
    (try simp only [Exit.inBlock, Exit.then])
    refine bodyPost_ret (v := .tuple #[.agg #[.int .u64 x.k, .int .i64 x.i], .bool true]) (by rw [results_cell_tmp rfl]; go_simp) rfl ?_
    have o6 : Only [N] w6 ((w6.setCell ⟨N, 0, none⟩ (.int .u64 x.k)).setCell ⟨N, 1, none⟩ (.int .i64 x.i)) := ((Only.refl _ _).setCell (by simp) _).setCell (by simp) _
    have m6 := (((Moved.of_only R3.out.1).trans R4.out.1.2).still R4.out.2.2.1).trans R6.out.2.1
    refine ⟨rfl, _, ⟨ab, tb, ib, nb, P, _, rfl, R6.out.1.only o6 (fun b hb e => R6.out.2.2 (by simp at e; rw [← e]; exact hb))⟩, m6.1.trans o6 (by simp; exact .inr (by omega)), m6.2⟩
end Go.Proofs.YtajhkdbldbifeaaGreatDoor
