/-
  Three calls in boxes; what Parts tells of a batch between two others (HistBatch).
-/
import Derived.Test.YtaaolacfhdfagaaHsZ
import Derived.Test.YtaaolacfhdfagaaHsU
namespace Go.Proofs.Ytaaolacfhdfagaa
set_option maxRecDepth 100000
open Go.RowKit
set_option linter.unusedVariables false
set_option linter.unusedSimpArgs false
set_option maxRecDepth 100000

set_option maxHeartbeats 2000000
theorem wrL_all (x y : Dn) : wrL #[.int .i64 x.who, .int .i64 x.place, .int .i64 x.op, .int .i64 x.f, .int .i64 x.a, .int .i64 x.b, .int .i64 x.e, .slice x.A x.m x.c, .int .i64 x.n, .int .u64 x.v, .int .i64 x.fr, .int .i64 x.to] 0 y.cs = #[.int .i64 y.who, .int .i64 y.place, .int .i64 y.op, .int .i64 y.f, .int .i64 y.a, .int .i64 y.b, .int .i64 y.e, .slice y.A y.m y.c, .int .i64 y.n, .int .u64 y.v, .int .i64 y.fr, .int .i64 y.to] := by simp [wrL, Dn.cs]
structure BT (w V : World) (ga gd gb : Nat) (xa xd xb : Dn) : Prop where
  only : Only [] w V
  ge : w.heap.size ≤ ga ∧ w.heap.size ≤ gd ∧ w.heap.size ≤ gb
  ne : ga ≠ gd ∧ ga ≠ gb ∧ gd ≠ gb
  ha : V.heap[ga]? = some (.cells #[.int .i64 xa.who, .int .i64 xa.place, .int .i64 xa.op, .int .i64 xa.f, .int .i64 xa.a, .int .i64 xa.b, .int .i64 xa.e, .slice xa.A xa.m xa.c, .int .i64 xa.n, .int .u64 xa.v, .int .i64 xa.fr, .int .i64 xa.to] 30 (0, 0))
  hd : V.heap[gd]? = some (.cells #[.int .i64 xd.who, .int .i64 xd.place, .int .i64 xd.op, .int .i64 xd.f, .int .i64 xd.a, .int .i64 xd.b, .int .i64 xd.e, .slice xd.A xd.m xd.c, .int .i64 xd.n, .int .u64 xd.v, .int .i64 xd.fr, .int .i64 xd.to] 30 (0, 0))
  hb : V.heap[gb]? = some (.cells #[.int .i64 xb.who, .int .i64 xb.place, .int .i64 xb.op, .int .i64 xb.f, .int .i64 xb.a, .int .i64 xb.b, .int .i64 xb.e, .slice xb.A xb.m xb.c, .int .i64 xb.n, .int .u64 xb.v, .int .i64 xb.fr, .int .i64 xb.to] 30 (0, 0))
section
variable {w V V' : World} {ga gd gb : Nat} {xa xd xb : Dn}
theorem BT.start (w : World) (xa xd xb : Dn) : BT w (((w.alloc (.cells #[.int .i64 xa.who, .int .i64 xa.place, .int .i64 xa.op, .int .i64 xa.f, .int .i64 xa.a, .int .i64 xa.b, .int .i64 xa.e, .slice xa.A xa.m xa.c, .int .i64 xa.n, .int .u64 xa.v, .int .i64 xa.fr, .int .i64 xa.to] 30)).alloc (.cells #[.int .i64 xd.who, .int .i64 xd.place, .int .i64 xd.op, .int .i64 xd.f, .int .i64 xd.a, .int .i64 xd.b, .int .i64 xd.e, .slice xd.A xd.m xd.c, .int .i64 xd.n, .int .u64 xd.v, .int .i64 xd.fr, .int .i64 xd.to] 30)).alloc (.cells #[.int .i64 xb.who, .int .i64 xb.place, .int .i64 xb.op, .int .i64 xb.f, .int .i64 xb.a, .int .i64 xb.b, .int .i64 xb.e, .slice xb.A xb.m xb.c, .int .i64 xb.n, .int .u64 xb.v, .int .i64 xb.fr, .int .i64 xb.to] 30)) w.heap.size (w.heap.size + 1) (w.heap.size + 1 + 1) xa xd xb := by
  have h1 := heap_alloc_new w (.cells #[.int .i64 xa.who, .int .i64 xa.place, .int .i64 xa.op, .int .i64 xa.f, .int .i64 xa.a, .int .i64 xa.b, .int .i64 xa.e, .slice xa.A xa.m xa.c, .int .i64 xa.n, .int .u64 xa.v, .int .i64 xa.fr, .int .i64 xa.to] 30)
  have h2 := heap_alloc_new (w.alloc (.cells #[.int .i64 xa.who, .int .i64 xa.place, .int .i64 xa.op, .int .i64 xa.f, .int .i64 xa.a, .int .i64 xa.b, .int .i64 xa.e, .slice xa.A xa.m xa.c, .int .i64 xa.n, .int .u64 xa.v, .int .i64 xa.fr, .int .i64 xa.to] 30)) (.cells #[.int .i64 xd.who, .int .i64 xd.place, .int .i64 xd.op, .int .i64 xd.f, .int .i64 xd.a, .int .i64 xd.b, .int .i64 xd.e, .slice xd.A xd.m xd.c, .int .i64 xd.n, .int .u64 xd.v, .int .i64 xd.fr, .int .i64 xd.to] 30)
  have h3 := heap_alloc_new ((w.alloc (.cells #[.int .i64 xa.who, .int .i64 xa.place, .int .i64 xa.op, .int .i64 xa.f, .int .i64 xa.a, .int .i64 xa.b, .int .i64 xa.e, .slice xa.A xa.m xa.c, .int .i64 xa.n, .int .u64 xa.v, .int .i64 xa.fr, .int .i64 xa.to] 30)).alloc (.cells #[.int .i64 xd.who, .int .i64 xd.place, .int .i64 xd.op, .int .i64 xd.f, .int .i64 xd.a, .int .i64 xd.b, .int .i64 xd.e, .slice xd.A xd.m xd.c, .int .i64 xd.n, .int .u64 xd.v, .int .i64 xd.fr, .int .i64 xd.to] 30)) (.cells #[.int .i64 xb.who, .int .i64 xb.place, .int .i64 xb.op, .int .i64 xb.f, .int .i64 xb.a, .int .i64 xb.b, .int .i64 xb.e, .slice xb.A xb.m xb.c, .int .i64 xb.n, .int .u64 xb.v, .int .i64 xb.fr, .int .i64 xb.to] 30)
  have a2 := Only.alloc (Only.refl [] (w.alloc (.cells #[.int .i64 xa.who, .int .i64 xa.place, .int .i64 xa.op, .int .i64 xa.f, .int .i64 xa.a, .int .i64 xa.b, .int .i64 xa.e, .slice xa.A xa.m xa.c, .int .i64 xa.n, .int .u64 xa.v, .int .i64 xa.fr, .int .i64 xa.to] 30))) (.cells #[.int .i64 xd.who, .int .i64 xd.place, .int .i64 xd.op, .int .i64 xd.f, .int .i64 xd.a, .int .i64 xd.b, .int .i64 xd.e, .slice xd.A xd.m xd.c, .int .i64 xd.n, .int .u64 xd.v, .int .i64 xd.fr, .int .i64 xd.to] 30)
  have a3 := Only.alloc (Only.refl [] ((w.alloc (.cells #[.int .i64 xa.who, .int .i64 xa.place, .int .i64 xa.op, .int .i64 xa.f, .int .i64 xa.a, .int .i64 xa.b, .int .i64 xa.e, .slice xa.A xa.m xa.c, .int .i64 xa.n, .int .u64 xa.v, .int .i64 xa.fr, .int .i64 xa.to] 30)).alloc (.cells #[.int .i64 xd.who, .int .i64 xd.place, .int .i64 xd.op, .int .i64 xd.f, .int .i64 xd.a, .int .i64 xd.b, .int .i64 xd.e, .slice xd.A xd.m xd.c, .int .i64 xd.n, .int .u64 xd.v, .int .i64 xd.fr, .int .i64 xd.to] 30))) (.cells #[.int .i64 xb.who, .int .i64 xb.place, .int .i64 xb.op, .int .i64 xb.f, .int .i64 xb.a, .int .i64 xb.b, .int .i64 xb.e, .slice xb.A xb.m xb.c, .int .i64 xb.n, .int .u64 xb.v, .int .i64 xb.fr, .int .i64 xb.to] 30)
  have g1 := a3.get (a2.get h1 (by simp)) (by simp)
  have g2 := a3.get h2 (by simp)
  rw [World.size_alloc] at g2 h3
  rw [World.size_alloc] at h3
  exact ⟨(((Only.refl [] w).alloc _).alloc _).alloc _, ⟨by omega, by omega, by omega⟩, ⟨by omega, by omega, by omega⟩, g1, g2, h3⟩
theorem BT.only0 (h : BT w V ga gd gb xa xd xb) (ho : Only [] V V') : BT w V' ga gd gb xa xd xb := ⟨h.only.trans' ho, h.ge, h.ne, ho.get h.ha (by simp), ho.get h.hd (by simp), ho.get h.hb (by simp)⟩
theorem BT.storeA (h : BT w V ga gd gb xa xd xb) (y : Dn) : BT w (V.setCells ga 0 y.cs) ga gd gb y xd xb := by
  have o := Only.setCells ga y.cs 0 V
  refine ⟨h.only.trans o (fun k hk => by simp at hk; subst hk; exact .inr h.ge.1), h.ge, h.ne, ?_, o.get h.hd (by simp; exact fun e => h.ne.1 e.symm), o.get h.hb (by simp; exact fun e => h.ne.2.1 e.symm)⟩
  have h9 := setCells_blk ga y.cs 0 V _ h.ha
  rw [wrL_all] at h9
  exact h9
theorem BT.storeB (h : BT w V ga gd gb xa xd xb) (y : Dn) : BT w (V.setCells gb 0 y.cs) ga gd gb xa xd y := by
  have o := Only.setCells gb y.cs 0 V
  refine ⟨h.only.trans o (fun k hk => by simp at hk; subst hk; exact .inr h.ge.2.2), h.ge, h.ne, o.get h.ha (by simp; exact h.ne.2.1), o.get h.hd (by simp; exact h.ne.2.2), ?_⟩
  have h9 := setCells_blk gb y.cs 0 V _ h.hb
  rw [wrL_all] at h9
  exact h9
theorem BT.setA (h : BT w V ga gd gb xa xd xb) (k : Nat) (v : Value) (y : Dn) (hy : (#[.int .i64 xa.who, .int .i64 xa.place, .int .i64 xa.op, .int .i64 xa.f, .int .i64 xa.a, .int .i64 xa.b, .int .i64 xa.e, .slice xa.A xa.m xa.c, .int .i64 xa.n, .int .u64 xa.v, .int .i64 xa.fr, .int .i64 xa.to]).setIfInBounds k v = #[.int .i64 y.who, .int .i64 y.place, .int .i64 y.op, .int .i64 y.f, .int .i64 y.a, .int .i64 y.b, .int .i64 y.e, .slice y.A y.m y.c, .int .i64 y.n, .int .u64 y.v, .int .i64 y.fr, .int .i64 y.to]) : BT w (V.setCell ⟨ga, k, none⟩ v) ga gd gb y xd xb :=
  ⟨h.only.setCell (.inr h.ge.1) v, h.ge, h.ne, by rw [heap_set_same h.ha, hy], by rw [heap_set h.ne.1]; exact h.hd, by rw [heap_set h.ne.2.1]; exact h.hb⟩
theorem BT.setD (h : BT w V ga gd gb xa xd xb) (k : Nat) (v : Value) (y : Dn) (hy : (#[.int .i64 xd.who, .int .i64 xd.place, .int .i64 xd.op, .int .i64 xd.f, .int .i64 xd.a, .int .i64 xd.b, .int .i64 xd.e, .slice xd.A xd.m xd.c, .int .i64 xd.n, .int .u64 xd.v, .int .i64 xd.fr, .int .i64 xd.to]).setIfInBounds k v = #[.int .i64 y.who, .int .i64 y.place, .int .i64 y.op, .int .i64 y.f, .int .i64 y.a, .int .i64 y.b, .int .i64 y.e, .slice y.A y.m y.c, .int .i64 y.n, .int .u64 y.v, .int .i64 y.fr, .int .i64 y.to]) : BT w (V.setCell ⟨gd, k, none⟩ v) ga gd gb xa y xb :=
  ⟨h.only.setCell (.inr h.ge.2.1) v, h.ge, h.ne, by rw [heap_set (fun e => h.ne.1 e.symm)]; exact h.ha, by rw [heap_set_same h.hd, hy], by rw [heap_set h.ne.2.2]; exact h.hb⟩
theorem BT.setB (h : BT w V ga gd gb xa xd xb) (k : Nat) (v : Value) (y : Dn) (hy : (#[.int .i64 xb.who, .int .i64 xb.place, .int .i64 xb.op, .int .i64 xb.f, .int .i64 xb.a, .int .i64 xb.b, .int .i64 xb.e, .slice xb.A xb.m xb.c, .int .i64 xb.n, .int .u64 xb.v, .int .i64 xb.fr, .int .i64 xb.to]).setIfInBounds k v = #[.int .i64 y.who, .int .i64 y.place, .int .i64 y.op, .int .i64 y.f, .int .i64 y.a, .int .i64 y.b, .int .i64 y.e, .slice y.A y.m y.c, .int .i64 y.n, .int .u64 y.v, .int .i64 y.fr, .int .i64 y.to]) : BT w (V.setCell ⟨gb, k, none⟩ v) ga gd gb xa xd y :=
  ⟨h.only.setCell (.inr h.ge.2.2) v, h.ge, h.ne, by rw [heap_set (fun e => h.ne.2.1 e.symm)]; exact h.ha, by rw [heap_set (fun e => h.ne.2.2 e.symm)]; exact h.hd, by rw [heap_set_same h.hb, hy]⟩
theorem BT.atA (h : BT w V ga gd gb xa xd xb) : DnAt V ga 0 xa := DnAt.of_cells h.ha
theorem BT.atD (h : BT w V ga gd gb xa xd xb) : DnAt V gd 0 xd := DnAt.of_cells h.hd
theorem BT.atB (h : BT w V ga gd gb xa xd xb) : DnAt V gb 0 xb := DnAt.of_cells h.hb
theorem BT.fz (h : BT w V ga gd gb xa xd xb) : ∀ k, V.frozen? ⟨ga, k, none⟩ = false ∧ V.frozen? ⟨gd, k, none⟩ = false ∧ V.frozen? ⟨gb, k, none⟩ = false := fun k => ⟨frozen_of h.ha k, frozen_of h.hd k, frozen_of h.hb k⟩
end
theorem cells_some {w : World} {g : Nat} {x : Dn} {t : TypeId} (hb : w.heap[g]? = some (.cells #[.int .i64 x.who, .int .i64 x.place, .int .i64 x.op, .int .i64 x.f, .int .i64 x.a, .int .i64 x.b, .int .i64 x.e, .slice x.A x.m x.c, .int .i64 x.n, .int .u64 x.v, .int .i64 x.fr, .int .i64 x.to] t (0, 0))) : ∀ j, j < 12 → (w.cell? ⟨g, 0 + j, none⟩).isSome = true ∧ w.frozen? ⟨g, 0 + j, none⟩ = false := fun j hj => by
  refine ⟨?_, frozen_of hb _⟩
  rw [cell_of_row _ _ _ _ _ (0, 0) hb, Nat.zero_add, Array.getElem?_eq_getElem (by simpa using hj)]
  rfl
/-- The error that a batch is given. -/
def errB (x : Int) : Int := if x = 0 then 0 else if x = 1 then 10 else 1
theorem errsB_at (W : World) (t : Nat) (ht : t < 3) : (W.alloc (.cells #[.int .i64 0, .int .i64 10, .int .i64 1] 24)).cell? ⟨W.heap.size, t, none⟩ = some (.int .i64 (errB (t : Int))) := by
  rw [cell_of_row _ _ _ _ _ (0, 0) (heap_alloc_new W _)]
  match t, ht with
  | 0, _ => rfl
  | 1, _ => rfl
  | 2, _ => rfl
theorem errB_is (x : Int) : errB x = 0 ∨ errB x = 10 ∨ errB x = 1 := by unfold errB; split <;> (try split) <;> simp
theorem divB_op {x : Dn} (h : x.op ≠ 5) : divB x = false := by unfold divB; simp [h]
/-- Parts of a call that is not a batch, of one, of one that is not. -/
theorem parts3 {a d b : Da} (ha : a.1.op ≠ 5) (hb : b.1.op ≠ 5) : partsL [a, d, b] = a :: (partsD d ++ [b]) := by
  have e1 : partsD a = [a] := by unfold partsD; rw [divB_op ha]; rfl
  have e2 : partsD b = [b] := by unfold partsD; rw [divB_op hb]; rfl
  simp [partsL, e1, e2]
/-- A part, but for where its packets lie. -/
theorem part_is {x r : Dn} {e : Int} {ps : List Pk} (h : r.strip = (partA x.strip e ps).1) : r = partD x e r.A r.m r.c := by
  obtain ⟨_, _, _, _, _, _, _, _, _, _, _, _, _, _⟩ := r
  obtain ⟨_, _, _, _, _, _, _, _, _, _, _, _, _, _⟩ := x
  simp only [Dn.strip, partA, partD, Dn.mk.injEq] at h ⊢
  simp [h]
theorem cl_neq (p q r s : Int) (w : World) : (binOp .neq 23 (.agg #[.int .i64 p, .int .i64 q, .int .i64 r, .int .i64 s]) (.agg #[.int .i64 p, .int .i64 q, .int .i64 r, .int .i64 s])).run Try.prog w = .ok (.bool false) w := by
  have u1 := Try.underlying3
  have a1 := Try.isAgg3
  have z1 := Try.sizeOf3
  rw [run_neq_struct, show (10000 : Nat) = 9999 + 1 from rfl, run_equalIn_agg w 9999 23 _ _ cl_struct cl_held]
  simp only [Program.fieldsOf, Try.underlying23]
  go_simp
/-- One of the packets that a slice's address leads to. -/
theorem src_sub {w : World} {ad : Addr} {ps : List Pk} (h : pE.Src w (some ad) ps) {k : Nat} {p : Pk} (hk : ps[k]? = some p) : pE.Src w (some (ad.add (k * 3))) [p] := fun _ => by
  obtain ⟨ad', b, o, s, e, eA, c0, c1, c2⟩ := src_at h hk
  injection e with e
  subst e
  refine ⟨_, rfl, fun j u hu => ?_⟩
  have hj : j < 3 := by
    have := (List.getElem?_eq_some_iff.1 hu).1
    rw [pE.flat_length] at this
    simpa using this
  have hf : pE.flat [p] = [.int .i64 p.f, .int .i64 p.l, .int .i64 p.m] := by simp [El.flat, pE]
  rw [hf] at hu
  rw [Go.Deep.add_add]
  match j, hj with
  | 0, _ => rw [Nat.add_zero, eA, c0]; exact hu
  | 1, _ => rw [add_atP ad (k * 3) 1 (by omega) eA, c1]; exact hu
  | 2, _ => rw [add_atP ad (k * 3) 2 (by omega) eA, c2]; exact hu
end Go.Proofs.Ytaaolacfhdfagaa
