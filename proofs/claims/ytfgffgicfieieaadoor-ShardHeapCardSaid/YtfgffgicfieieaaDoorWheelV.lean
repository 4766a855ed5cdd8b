/-
  Contract of slices.Delete (one item), at items.
-/
import Derived.Test.YtfgffgicfieieaaDoorWheelT
namespace Go.Proofs.YtfgffgicfieieaaDoor
set_option maxRecDepth 100000
open Go.RowKit
set_option linter.unusedVariables false
set_option linter.unusedSimpArgs false

theorem setCells_row (w : World) (g o : Nat) (cur : Array Value) (vs : List Value) (hg : w.heap[g]? = some (.cells cur 35 (0, 0))) (hfit : o + vs.length ≤ cur.size) (h1 : ∀ v ∈ vs, v.oneCell' = true) : w.setCells g o vs = w.setRow g (lay2 cur o vs) := by
  have a := run_storeCells_cells (P := Tryd.prog) g o vs 0 w (fun j hj => by rw [cell_of_row w g _ cur _ (0, 0) hg, Array.getElem?_eq_getElem (by omega)]; rfl) (fun j hj => by simp [World.frozen?, hg]) h1
  have b := run_storeCells_at Tryd.prog g o 35 vs 0 cur w hg (by simpa using hfit) h1
  rw [a] at b
  injection b with _ b
theorem item_zero : (Builtin.zeroCells (Value.agg #[.int .u64 0, .int .i64 0]).cells 1).toList = [.int .u64 0, .int .i64 0] := by kernel_rfl
theorem zero_item (w : World) : (zeroValue 35).run Tryd.prog w = .ok (.agg #[.int .u64 0, .int .i64 0]) w := by kernel_rfl
theorem run_clear2 (w : World) (ty : TypeId) (g o c : Nat) (cur : Array Value) (hg : w.heap[g]? = some (.cells cur 35 (0, 0))) (hfit : o + 2 ≤ cur.size) :
    (Builtin.clear_ #[38] ty #[.slice (some ⟨g, o, none⟩) 1 c]).run Tryd.prog w = .ok (.tuple #[]) (w.setRow g (lay2 cur o [.int .u64 0, .int .i64 0])) := by
  have b := run_storeCells_at Tryd.prog g o 35 [.int .u64 0, .int .i64 0] 0 cur w hg (by simpa using hfit) (item_cells ⟨0, 0⟩)
  simp only [Nat.add_zero] at b
  unfold lay2
  simp [Builtin.clear_, run_underlying Tryd.underlying38, zero_item, item_zero, b]

section
variable {w : World} {ops : Array Oper} {o : Oper} {a : Act} {K : Act → World → Prop} {Q : Exit → Act → World → Prop}
theorem wpList_clear2 {rest : List Oper} (hgd : o.guard = none) (d : Operand) (ho : o.op = .call { callee := .builtin .clear, args := #[d], argTypes := #[38] })
    (g off k c : Nat) (hk : k = 1) (hd : a.eval d = .slice (some ⟨g, off, none⟩) k c) (cur : Array Value) (hg : w.heap[g]? = some (.cells cur 35 (0, 0))) (hfit : off + 2 ≤ cur.size)
    (hK : ∀ w', w'.heap[g]? = some (.cells (lay2 cur off [.int .u64 0, .int .i64 0]) 35 (0, 0)) → Only [g] w w' → wpList Tryd.prog ops Q rest (a.put o.dst (.tuple #[])) w') : wpList Tryd.prog ops Q (o :: rest) a w := by
  subst hk
  refine wpList_plain hgd fun K hK' => ?_
  have r1 := run_clear2 w o.type g off c cur hg hfit
  unfold Oper.wp execOp
  simp only [ho, resolve, invoke, builtin, Sem.run_bind, Sem.run_pure, Result.andThen_ok, List.map_toArray, List.map_cons, List.map_nil, hd, r1]
  exact hK' _ _ (hK _ (setRow_heap w g _ _ _ _ hg) (Only.setRow w g _))
theorem step_append2 {E : Prop} (hgd : o.guard = none) (s x : Operand) (ho : o.op = .call { callee := .builtin .append, args := #[s, x], argTypes := #[38, 38] })
    (g n cap : Nat) (hs : a.eval s = .slice (some ⟨g, 0, none⟩) n cap) (ad : Addr) (m c : Nat) (hx : a.eval x = .slice (some ad) m c) (cur : Array Value) (hg : w.heap[g]? = some (.cells cur 35 (0, 0)))
    (cs : List Value) (hl : cs.length = m * 2) (hsrc : ∀ j v, cs[j]? = some v → w.cell? (ad.add j) = some v) (h1 : ∀ v ∈ cs, v.oneCell' = true) (N : Nat) (hN : n + m = N) (hroom : N ≤ cap) (hsz : cur.size = cap * 2)
    (hK : ∀ w', w'.heap[g]? = some (.cells (lay2 cur (n * 2) cs) 35 (0, 0)) → Only [g] w w' → K (a.put o.dst (.slice (some ⟨g, 0, none⟩) N cap)) w') :
    if Region.wanted o (yielded ops a.tmps) = true then Oper.wp Tryd.prog o a w K Q else E := by
  subst hN
  obtain ⟨i0, hi0, hz0, hz1, hz2⟩ := info_parts item_info
  refine step_append_room hgd s x 38 ho 35 i0 2 Tryd.underlying38 hi0 hz1 g 0 n cap hs ad m c cs hx hl hsrc h1 hroom (fun j hj => ⟨?_, ?_⟩) ?_
  · rw [cell_of_row w g _ cur _ (0, 0) hg, Array.getElem?_eq_getElem (by omega)]; rfl
  · simp [World.frozen?, hg]
  · rw [Nat.zero_add, setCells_row w g (n * 2) cur cs hg (by omega) h1]
    exact hK _ (setRow_heap w g _ _ _ _ hg) (Only.setRow w g _)
end
theorem row_less {cur : Array Value} {xs : List It} {cap i : Nat} (hs : cur.size = cap * 2) (hc : cur.toList.take (xs.length * 2) = flat xs) (hr : xs.length ≤ cap) (hi : i < xs.length) :
    (lay2 (lay2 cur (i * 2) (flat (xs.drop (i + 1)))) ((xs.length - 1) * 2) [Value.int .u64 0, Value.int .i64 0]).size = cap * 2 ∧
    (lay2 (lay2 cur (i * 2) (flat (xs.drop (i + 1)))) ((xs.length - 1) * 2) [Value.int .u64 0, Value.int .i64 0]).toList.take ((xs.length - 1) * 2) = flat (xs.eraseIdx i) := by
  have hl1 : (flat (xs.drop (i + 1))).length = (xs.length - (i + 1)) * 2 := by simp
  have hsz : (lay2 cur (i * 2) (flat (xs.drop (i + 1)))).size = cur.size := lay2_size (by rw [hl1]; omega)
  refine ⟨by rw [lay2_size (by simp; omega), hsz, hs], ?_⟩
  have e0 : (lay2 (lay2 cur (i * 2) (flat (xs.drop (i + 1)))) ((xs.length - 1) * 2) [Value.int .u64 0, Value.int .i64 0]).toList.take ((xs.length - 1) * 2) = (lay2 cur (i * 2) (flat (xs.drop (i + 1)))).toList.take ((xs.length - 1) * 2) := by
    generalize hL : lay2 cur (i * 2) (flat (xs.drop (i + 1))) = L at *
    unfold lay2
    rw [List.toList_toArray, List.append_assoc, List.take_append_of_le_length (by simp; omega), List.take_take, Nat.min_self]
  rw [e0]
  obtain ⟨T, hT⟩ : ∃ T, cur.toList = flat xs ++ T := ⟨cur.toList.drop (xs.length * 2), by rw [← hc, List.take_append_drop]⟩
  have hx : flat xs = flat (xs.take i) ++ flat (xs.drop i) := by rw [← flat_append, List.take_append_drop]
  have hlA : (flat (xs.take i)).length = i * 2 := by simp; omega
  have ecur : cur = (flat (xs.take i) ++ (flat (xs.drop i) ++ T)).toArray := by
    apply Array.ext'
    rw [hT, hx]
    simp
  have e1 : lay2 cur (i * 2) (flat (xs.drop (i + 1))) = (flat (xs.take i) ++ flat (xs.drop (i + 1)) ++ (flat (xs.drop i) ++ T).drop (flat (xs.drop (i + 1))).length).toArray := by
    conv => lhs; rw [ecur]
    rw [lay2_behind hlA]
  rw [e1, List.toList_toArray, List.take_append_of_le_length (by simp; omega), List.take_of_length_le (by simp; omega), ← flat_append, ← List.eraseIdx_eq_take_drop_succ]

set_option maxRecDepth 100000 in
set_option maxHeartbeats 4000000 in
theorem delete_any (w : World) (v : Value) (xs : List It) (h : RowIs w v xs) (i : Nat) (hi : i < xs.length) (hl : xs.length ≤ 1000000) :
    Calls Tryd.prog 85 #[v, .int .i64 (i : Int), .int .i64 ((i : Int) + 1)] w (Put w v (xs.eraseIdx i)) := by
  rcases h.2 with ⟨rfl, e⟩ | ⟨g, cap, cur, rfl, h0, hg, hn, hcm, hs, hc⟩
  · omega
  have hRow := Lib.hid (row_less hs hc hn hi)
  have hfl : Hid ((flat (xs.drop (i + 1))).length = (xs.length - (i + 1)) * 2) := by show _ = _; simp
  obtain ⟨ad, hA, hsrc⟩ : ∃ ad : Addr, (if cap = i + 1 then (⟨g, 0, none⟩ : Addr) else ⟨g, (i + 1) * 2, none⟩) = ad ∧ Hid (∀ j v, (flat (xs.drop (i + 1)))[j]? = some v → w.drew.cell? (ad.add j) = some v) := by
    refine ⟨_, rfl, fun j v hj => ?_⟩
    have hne : xs.drop (i + 1) ≠ [] := by intro e; rw [e] at hj; simp [flat] at hj
    have hlt : i + 1 < xs.length := by
      rcases Nat.lt_or_ge (i + 1) xs.length with h1 | h1
      · exact h1
      · exact absurd (List.drop_eq_nil_of_le h1) hne
    rw [if_neg (by omega)]
    obtain ⟨ad, e, h8⟩ := Src.drop h (i + 1) hne
    injection e with e
    subst e
    exact h8 j v hj
  have HG := Lib.hid hg
  have HS := Lib.hid hs
  have i1 : (i : Int) < (xs.length : Int) := by omega
  have i2 : (i : Int) + 1 ≤ (xs.length : Int) := by omega
  have i3 : ¬ (cap = i) := by omega
  have i6 : cap ≤ 9223372036854775807 := by unfold maxLen at hcm; omega
  clear hg hs hc h
  generalize hn' : xs.length = n at *
  have i7 : ¬ (cap = n - 1) := by omega
  have hw1 : IntKind.i64.wrap ((i : Int) + 1) = (i : Int) + 1 := by rw [IntKind.wrap_i64]; omega
  have hb1 : (0 : Int) ≤ (i : Int) + 1 := by omega
  have hin : i ≤ n := by omega
  have htn : ((i : Int) + 1).toNat = i + 1 := by omega
  have hic : i ≤ cap := by omega
  have hic2 : i + 1 ≤ cap := by omega
  have hne : ¬ ((i : Int) = (i : Int) + 1) := by omega
  have hii : (i : Int) ≤ (i : Int) + 1 := by omega
  rcases Decidable.em (cap = i + 1) with rfl | hca
  · rw [if_pos rfl] at hA
    subst hA
    go_enter Tryd.func85, Tryd.ntmps85
    go_wp2_with fail
    go_region_law (refine step_append2 rfl (.tmp 22) (.tmp 25) rfl g i (i + 1) (by simp [Act.eval, Act.put]) _ 0 0 (by simp [Act.eval, Act.put]) cur HG.out (flat (xs.drop (i + 1))) (by rw [hfl.out]; omega) hsrc.out (flat_one _) (n - 1) (by omega) (by omega) HS.out ?_; intro w2 h2 o2; have R2 := Lib.hid (And.intro h2 o2); clear h2 o2)
    go_wp2_with (refine wpList_clear2 rfl (.tmp 31) rfl g ((n - 1) * 2) (n - (n - 1)) _ (by omega) rfl _ R2.out.1 (by rw [lay2_size (by rw [hfl.out, HS.out]; omega), HS.out]; omega) ?_; intro w3 h3 o3; have R3 := Lib.hid (And.intro h3 o3); clear h3 o3)
    go_ret
    obtain ⟨h3, o3⟩ := R3.out
    have o9 : Only [g] w w3 := ((Only.refl [g] w).drew.trans' R2.out.2).trans' o3
    have el : (xs.eraseIdx i).length = n - 1 := by rw [List.length_eraseIdx_of_lt (by omega)]; omega
    exact ⟨_, rfl, ⟨flat_length _, .inr ⟨g, i + 1, _, congrArg (fun m => Value.slice _ m _) el.symm, Nat.zero_le _, h3, by rw [el]; omega, hcm, hRow.out.1, by rw [el]; exact hRow.out.2⟩⟩, o9, .inl rfl⟩
  · rw [if_neg hca] at hA
    subst hA
    go_enter Tryd.func85, Tryd.ntmps85
    go_wp2_with fail
    go_region_law (refine step_append2 rfl (.tmp 22) (.tmp 25) rfl g i cap (by simp [Act.eval, Act.put]) _ (n - (i + 1)) (cap - (i + 1)) (by simp [Act.eval, Act.put]) cur HG.out (flat (xs.drop (i + 1))) hfl.out hsrc.out (flat_one _) (n - 1) (by omega) (by omega) HS.out ?_; intro w2 h2 o2; have R2 := Lib.hid (And.intro h2 o2); clear h2 o2)
    go_wp2_with (refine wpList_clear2 rfl (.tmp 31) rfl g ((n - 1) * 2) (n - (n - 1)) _ (by omega) rfl _ R2.out.1 (by rw [lay2_size (by rw [hfl.out, HS.out]; omega), HS.out]; omega) ?_; intro w3 h3 o3; have R3 := Lib.hid (And.intro h3 o3); clear h3 o3)
    go_ret
    obtain ⟨h3, o3⟩ := R3.out
    have o9 : Only [g] w w3 := ((Only.refl [g] w).drew.trans' R2.out.2).trans' o3
    have el : (xs.eraseIdx i).length = n - 1 := by rw [List.length_eraseIdx_of_lt (by omega)]; omega
    exact ⟨_, rfl, ⟨flat_length _, .inr ⟨g, cap, _, congrArg (fun m => Value.slice _ m _) el.symm, Nat.zero_le _, h3, by rw [el]; omega, hcm, hRow.out.1, by rw [el]; exact hRow.out.2⟩⟩, o9, .inl rfl⟩
end Go.Proofs.YtfgffgicfieieaaDoor
