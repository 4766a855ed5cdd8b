/-
  slices.Delete (the first packet) and slices.Clone, at packets.
-/
import Derived.Test.YtjmnklmomdfpfaaFlowW
namespace Go.Proofs.Ytjmnklmomdfpfaa
set_option maxRecDepth 100000
open Go.RowKit
set_option linter.unusedVariables false
set_option linter.unusedSimpArgs false

/-- What comes of a row that was turned. -/
def PPut (w : World) (v : Value) (zs : List Pk) (e : Ending) (w' : World) : Prop :=
  ∃ v', e = .returned v' ∧ PRow w' v' zs ∧ Only v.ownBlock.toList w w' ∧ (v'.ownBlock = v.ownBlock ∨ ∃ g, v'.ownBlock = some g ∧ w.heap.size ≤ g)

def layC (cur : Array Value) (o : Nat) (cs : List Value) : Array Value := (cur.toList.take o ++ cs ++ cur.toList.drop (o + cs.length)).toArray
theorem layC_size {cur : Array Value} {o : Nat} {cs : List Value} (h : o + cs.length ≤ cur.size) : (layC cur o cs).size = cur.size := by simp [layC]; omega
theorem Only.setRowC (w : World) (g : Nat) (cs : Array Value) : Only [g] w (w.setRow g cs) := ⟨rfl, rfl, rfl, by simp [World.setRow], fun k _ hk => setRow_other w g k cs (by simpa using hk)⟩
theorem setCells_rowC (w : World) (g o : Nat) (cur : Array Value) (vs : List Value) (hg : w.heap[g]? = some (.cells cur 34 (0, 0))) (hfit : o + vs.length ≤ cur.size) (h1 : ∀ v ∈ vs, v.oneCell' = true) : w.setCells g o vs = w.setRow g (layC cur o vs) := by
  have a := run_storeCells_cells (P := Try.prog) g o vs 0 w (fun j hj => by rw [cell_of_row w g _ cur _ (0, 0) hg, Array.getElem?_eq_getElem (by omega)]; rfl) (fun j hj => by simp [World.frozen?, hg]) h1
  have b := run_storeCells_at Try.prog g o 34 vs 0 cur w hg (by simpa using hfit) h1
  rw [a] at b
  injection b with _ b
theorem pk_zero : (Builtin.zeroCells (Value.agg #[.int .i64 0, .int .i64 0, .int .i64 0]).cells 1).toList = [.int .i64 0, .int .i64 0, .int .i64 0] := by kernel_rfl
theorem zero_pk (w : World) : (zeroValue 34).run Try.prog w = .ok (.agg #[.int .i64 0, .int .i64 0, .int .i64 0]) w := by kernel_rfl
def zero3 : List Value := [.int .i64 0, .int .i64 0, .int .i64 0]
theorem zero3_one : ∀ v ∈ zero3, v.oneCell' = true := by
  intro v hv
  simp [zero3] at hv
  subst hv
  rfl
section
variable {T : TypeId} (hT : Try.prog.underlying T = some (.slice 34))
include hT
theorem run_clear3 (w : World) (ty : TypeId) (g o c : Nat) (cur : Array Value) (hg : w.heap[g]? = some (.cells cur 34 (0, 0))) (hfit : o + 3 ≤ cur.size) :
    (Builtin.clear_ #[T] ty #[.slice (some ⟨g, o, none⟩) 1 c]).run Try.prog w = .ok (.tuple #[]) (w.setRow g (layC cur o zero3)) := by
  have b := run_storeCells_at Try.prog g o 34 zero3 0 cur w hg (by simpa [zero3] using hfit) zero3_one
  simp only [Nat.add_zero] at b
  unfold layC
  unfold zero3 at b ⊢
  simp [Builtin.clear_, run_underlying hT, zero_pk, pk_zero, b]

variable {w : World} {ops : Array Oper} {o : Oper} {a : Act} {K : Act → World → Prop} {Q : Exit → Act → World → Prop}
theorem wpList_clear3 {rest : List Oper} (hgd : o.guard = none) (d : Operand) (ho : o.op = .call { callee := .builtin .clear, args := #[d], argTypes := #[T] })
    (g off k c : Nat) (hk : k = 1) (hd : a.eval d = .slice (some ⟨g, off, none⟩) k c) (cur : Array Value) (hg : w.heap[g]? = some (.cells cur 34 (0, 0))) (hfit : off + 3 ≤ cur.size)
    (hK : ∀ w', w'.heap[g]? = some (.cells (layC cur off zero3) 34 (0, 0)) → Only [g] w w' → wpList Try.prog ops Q rest (a.put o.dst (.tuple #[])) w') : wpList Try.prog ops Q (o :: rest) a w := by
  subst hk
  refine wpList_plain hgd fun K hK' => ?_
  have r1 := run_clear3 hT w o.type g off c cur hg hfit
  unfold Oper.wp execOp
  simp only [ho, resolve, invoke, builtin, Sem.run_bind, Sem.run_pure, Result.andThen_ok, List.map_toArray, List.map_cons, List.map_nil, hd, r1]
  exact hK' _ _ (hK _ (setRow_heap w g _ _ _ _ hg) (Only.setRowC w g _))
theorem step_append3 {E : Prop} (hgd : o.guard = none) (s x : Operand) (ho : o.op = .call { callee := .builtin .append, args := #[s, x], argTypes := #[T, T] })
    (g n cap : Nat) (hs : a.eval s = .slice (some ⟨g, 0, none⟩) n cap) (ad : Addr) (m c : Nat) (hx : a.eval x = .slice (some ad) m c) (cur : Array Value) (hg : w.heap[g]? = some (.cells cur 34 (0, 0)))
    (cs : List Value) (hl : cs.length = m * 3) (hsrc : ∀ j v, cs[j]? = some v → w.cell? (ad.add j) = some v) (h1 : ∀ v ∈ cs, v.oneCell' = true) (N : Nat) (hN : n + m = N) (hroom : N ≤ cap) (hsz : cur.size = cap * 3)
    (hK : ∀ w', w'.heap[g]? = some (.cells (layC cur (n * 3) cs) 34 (0, 0)) → Only [g] w w' → K (a.put o.dst (.slice (some ⟨g, 0, none⟩) N cap)) w') :
    if Region.wanted o (yielded ops a.tmps) = true then Oper.wp Try.prog o a w K Q else E := by
  subst hN
  obtain ⟨i0, hi0, hz0, hz1, hz2⟩ := info_parts pk_info
  refine step_append_room hgd s x T ho 34 i0 3 hT hi0 hz1 g 0 n cap hs ad m c cs hx hl hsrc h1 hroom (fun j hj => ⟨?_, ?_⟩) ?_
  · rw [cell_of_row w g _ cur _ (0, 0) hg, Array.getElem?_eq_getElem (by omega)]; rfl
  · simp [World.frozen?, hg]
  · rw [Nat.zero_add, setCells_rowC w g (n * 3) cur cs hg (by omega) h1]
    exact hK _ (setRow_heap w g _ _ _ _ hg) (Only.setRowC w g _)
end
/-- The cells of the packets behind the first one, laid in front, and one packet's cells behind them put to nought. -/
theorem row_shorter {cur : Array Value} {x : Pk} {xs : List Pk} {cap : Nat} (hs : cur.size = cap * 3) (hc : cur.toList.take ((x :: xs).length * 3) = pflat (x :: xs)) (hr : xs.length + 1 ≤ cap) :
    (layC (layC cur 0 (pflat xs)) (xs.length * 3) zero3).size = cap * 3 ∧ (layC (layC cur 0 (pflat xs)) (xs.length * 3) zero3).toList.take (xs.length * 3) = pflat xs := by
  have hl1 : (pflat xs).length = xs.length * 3 := by simp
  have hsz : (layC cur 0 (pflat xs)).size = cur.size := layC_size (by rw [hl1]; omega)
  refine ⟨by rw [layC_size (by simp [zero3]; omega), hsz, hs], ?_⟩
  have e0 : (layC (layC cur 0 (pflat xs)) (xs.length * 3) zero3).toList.take (xs.length * 3) = (layC cur 0 (pflat xs)).toList.take (xs.length * 3) := by
    generalize hL : layC cur 0 (pflat xs) = L at *
    unfold layC
    rw [List.toList_toArray, List.append_assoc, List.take_append_of_le_length (by simp; omega), List.take_take, Nat.min_self]
  rw [e0]
  unfold layC
  rw [List.toList_toArray, List.take_zero, List.nil_append, List.take_append_of_le_length (by omega), List.take_of_length_le (by omega)]

set_option maxRecDepth 100000 in
set_option maxHeartbeats 4000000 in
theorem pdelete (w : World) (v : Value) (x : Pk) (xs : List Pk) (h : PRow w v (x :: xs)) (hl : xs.length ≤ 1000000) :
    Calls Try.prog 94 #[v, .int .i64 0, .int .i64 1] w (PPut w v xs) := by
  rcases h.2 with ⟨rfl, e⟩ | ⟨g, cap, cur, rfl, h0, hg, hn, hcm, hs, hc⟩
  · simp at e
  have hn1 : xs.length + 1 ≤ cap := by simpa using hn
  have hRow := Lib.hid (row_shorter hs hc hn1)
  have hfl : Hid ((pflat xs).length = xs.length * 3) := by show _ = _; simp
  obtain ⟨ad, hA, hsrc⟩ : ∃ ad : Addr, (if cap = 1 then (⟨g, 0, none⟩ : Addr) else ⟨g, 3, none⟩) = ad ∧ Hid (∀ j v, (pflat xs)[j]? = some v → w.drew.cell? (ad.add j) = some v) := by
    refine ⟨_, rfl, fun j v hj => ?_⟩
    have hne : xs ≠ [] := by rintro rfl; simp [pflat] at hj
    have hlt : 0 < xs.length := List.length_pos_iff.2 hne
    rw [if_neg (by omega)]
    obtain ⟨ad, e, h8⟩ := PSrc.drop h 1 (by simpa using hne)
    injection e with e
    subst e
    exact h8 j v (by simpa using hj)
  have HG := Lib.hid hg
  have HS := Lib.hid hs
  have i6 : cap ≤ 9223372036854775807 := by unfold maxLen at hcm; omega
  have HN : Hid ((x :: xs).length = xs.length + 1) := by show _ = _; simp
  rw [HN.out]
  clear hg hs hc h hn
  generalize hn' : xs.length = n at *
  have i3 : ¬ (cap = 0) := by omega
  have i7 : ¬ (cap = n) := by omega
  have i8 : 1 ≤ cap := by omega
  have i2 : (1 : Int) ≤ (n : Int) + 1 := by omega
  rcases Decidable.em (cap = 1) with rfl | hca
  · rw [if_pos rfl] at hA
    subst hA
    go_enter Try.func94, Try.ntmps94
    go_wp2_with fail
    go_region_law (refine step_append3 Try.underlying115 rfl (.tmp 22) (.tmp 25) rfl g 0 1 (by simp [Act.eval, Act.put]) _ 0 0 (by simp [Act.eval, Act.put]) cur HG.out (pflat xs) (by rw [hfl.out]; omega) hsrc.out (pflat_one _) n (by omega) (by omega) HS.out ?_; intro w2 h2 o2; have R2 := Lib.hid (And.intro h2 o2); clear h2 o2)
    go_wp2_with (refine wpList_clear3 Try.underlying115 rfl (.tmp 31) rfl g (n * 3) _ _ (by omega) rfl _ R2.out.1 (by rw [layC_size (by rw [hfl.out, HS.out]; omega), HS.out]; omega) ?_; intro w3 h3 o3; have R3 := Lib.hid (And.intro h3 o3); clear h3 o3)
    go_ret
    obtain ⟨h3, o3⟩ := R3.out
    have o9 : Only [g] w w3 := ((Only.refl [g] w).drew.trans' R2.out.2).trans' o3
    exact ⟨_, rfl, ⟨pflat_length _, .inr ⟨g, 1, _, congrArg (fun m => Value.slice _ m _) hn'.symm, Nat.zero_le _, h3, by omega, hcm, hRow.out.1, by rw [hn']; exact hRow.out.2⟩⟩, o9, .inl rfl⟩
  · rw [if_neg hca] at hA
    subst hA
    go_enter Try.func94, Try.ntmps94
    go_wp2_with fail
    go_region_law (refine step_append3 Try.underlying115 rfl (.tmp 22) (.tmp 25) rfl g 0 cap (by simp [Act.eval, Act.put]) _ n (cap - 1) (by simp [Act.eval, Act.put]) cur HG.out (pflat xs) hfl.out hsrc.out (pflat_one _) n (by omega) (by omega) HS.out ?_; intro w2 h2 o2; have R2 := Lib.hid (And.intro h2 o2); clear h2 o2)
    go_wp2_with (refine wpList_clear3 Try.underlying115 rfl (.tmp 31) rfl g (n * 3) _ _ (by omega) rfl _ R2.out.1 (by rw [layC_size (by rw [hfl.out, HS.out]; omega), HS.out]; omega) ?_; intro w3 h3 o3; have R3 := Lib.hid (And.intro h3 o3); clear h3 o3)
    go_ret
    obtain ⟨h3, o3⟩ := R3.out
    have o9 : Only [g] w w3 := ((Only.refl [g] w).drew.trans' R2.out.2).trans' o3
    exact ⟨_, rfl, ⟨pflat_length _, .inr ⟨g, cap, _, congrArg (fun m => Value.slice _ m _) hn'.symm, Nat.zero_le _, h3, by omega, hcm, hRow.out.1, by rw [hn']; exact hRow.out.2⟩⟩, o9, .inl rfl⟩
end Go.Proofs.Ytjmnklmomdfpfaa
