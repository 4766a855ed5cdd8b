/-
  Contracts of compare, slices.BinarySearchFunc, slices.Insert (one item), slices.Delete (one item), at items.
-/
import Derived.Test.YtfgffgicfieieaaDoorWheelI
import Derived.Laws.CopyRow
import Derived.Laws.NewBlocks
import Derived.Lib.Overlaps
import Derived.Lib.AppendZerosOnto
import Derived.Laws.Externs
import Derived.Deep.RegionHeld3
namespace Go.Proofs.YtfgffgicfieieaaDoor
set_option maxRecDepth 100000
open Go.RowKit
set_option linter.unusedVariables false
set_option linter.unusedSimpArgs false

/-- How two items compare. -/
def cmpI (x y : It) : Int := if x.lt y then -1 else if y.lt x then 1 else 0
set_option maxHeartbeats 400000 in
theorem compare_any (x y : It) (w : World) : Calls Tryd.prog 74 #[.agg #[.int .u64 x.k, .int .i64 x.i], .agg #[.int .u64 y.k, .int .i64 y.i]] w fun e w' => e = .returned (.int .i64 (cmpI x y)) ∧ Only [] w w' := by
  unfold cmpI
  have oA : Only [] w ((w.alloc (.cells #[.int .u64 x.k, .int .i64 x.i] 35)).alloc (.cells #[.int .u64 y.k, .int .i64 y.i] 35)) := ((Only.refl [] w).alloc _).alloc _
  have bx : Box ((w.alloc (.cells #[.int .u64 x.k, .int .i64 x.i] 35)).alloc (.cells #[.int .u64 y.k, .int .i64 y.i] 35)) w.heap.size x := (Box.new w x).only ((Only.refl [] _).alloc _) (by simp)
  have by_ : Box ((w.alloc (.cells #[.int .u64 x.k, .int .i64 x.i] 35)).alloc (.cells #[.int .u64 y.k, .int .i64 y.i] 35)) (w.heap.size + 1) y := by
    have := Box.new (w.alloc (.cells #[.int .u64 x.k, .int .i64 x.i] 35)) y
    simpa using this
  rcases h1 : x.lt y with _ | _
  · rcases h2 : y.lt x with _ | _
    all_goals
      go_enter Tryd.func74, Tryd.ntmps74
      go_wp2_with fail
      refine (ahead_only x y _).mono ?_
      rintro e w1 ⟨rfl, o1⟩
      have b1 := bx.only o1 (by simp)
      have b2 := by_.only o1 (by simp)
      have c0 := b1.c0
      have c1 := b1.c1
      have d0 := b2.c0
      have d1 := b2.c1
      have o2 := Lib.hid (oA.trans' o1)
      rw [h1]
      clear b1 b2 bx by_ oA o1
      go_wp2_with fail
      refine (ahead_only y x _).mono ?_
      rintro e w2 ⟨rfl, o3⟩
      rw [h2]
      go_wp2_with fail
      go_ret
      exact ⟨rfl, o2.out.trans' o3⟩
  · go_enter Tryd.func74, Tryd.ntmps74
    go_wp2_with fail
    refine (ahead_only x y _).mono ?_
    rintro e w1 ⟨rfl, o1⟩
    rw [h1]
    go_wp2_with fail
    go_ret
    exact ⟨rfl, oA.trans' o1⟩

/-! ### looking for an item's place -/
/-- The place of y in a row that rises. -/
def at_ (xs : List It) (y : It) : Nat := (xs.takeWhile fun x => x.lt y).length
theorem at_le (xs : List It) (y : It) : at_ xs y ≤ xs.length := (List.takeWhile_sublist _).length_le
theorem at_of {xs : List It} {y : It} {p : Nat} (hp : p ≤ xs.length) (h1 : ∀ j, j < p → (gOf xs j).lt y = true) (h2 : p < xs.length → (gOf xs p).lt y = false) : at_ xs y = p := by
  unfold at_
  rw [(takeWhile_of hp h1 h2).1]
  simp [hp]
theorem rises_lt {xs : List It} (h : Rises xs) {a b : Nat} (hab : a < b) (hb : b < xs.length) : (gOf xs a).lt (gOf xs b) = true := by
  have := List.pairwise_iff_getElem.1 h a b (by omega) hb hab
  rw [gOf_get (by omega : a < xs.length), gOf_get hb]
  exact this

set_option maxRecDepth 100000 in
set_option maxHeartbeats 2000000 in
theorem search_any (w : World) (v : Value) (xs : List It) (h : RowIs w v xs) (hr : Rises xs) (y : It) (hl : xs.length ≤ 1000000) :
    Calls Tryd.prog 73 #[v, .agg #[.int .u64 y.k, .int .i64 y.i], .func (.func 74) #[] #[]] w fun e w' => (∃ b, e = .returned (.tuple #[.int .i64 (at_ xs y : Int), .bool b])) ∧ Only [] w w' := by
  obtain ⟨A, cap, ev⟩ := h.form
  have row : Hid (∀ W, Only [] w W → ∀ k, k < xs.length → ∃ g, A = some ⟨g, 0, none⟩ ∧ W.cell? ⟨g, k * 2, none⟩ = some (.int .u64 (gOf xs k).k) ∧ W.cell? ⟨g, k * 2 + 1, none⟩ = some (.int .i64 (gOf xs k).i)) := by
    intro W hW k hk
    have h9 := h.keep (w' := W) (fun g hg => hW.block g (h.lt hg) (by simp))
    obtain ⟨g, cap', e, -, -, -, -, hc⟩ := h9.at_ (by omega)
    rw [ev] at e
    injection e with e1 e2 e3
    exact ⟨g, e1, (hc k hk).1, (hc k hk).2.1⟩
  have oA : Only [] w (w.alloc (.cells #[.int .u64 y.k, .int .i64 y.i] 35)) := (Only.refl [] w).alloc _
  have bY : Box _ w.heap.size y := Box.new w y
  have HR := Lib.hid hr
  subst ev
  clear h hr
  generalize hn : xs.length = n at *
  have HN := Lib.hid hn
  clear hn
  generalize hW0 : w.alloc (.cells #[.int .u64 y.k, .int .i64 y.i] 35) = W0 at *
  go_enter Tryd.func73, Tryd.ntmps73
  go_wp2_with fail
  obtain ⟨N, eN⟩ : ∃ N, w.heap.size = N := ⟨_, rfl⟩
  rw [eN] at bY ⊢
  clear hW0 eN
  go_loopg [9, 10] (n + 1) (fun gk si sj wr => ∃ a b : Nat, si = .int .i64 (a : Int) ∧ sj = .int .i64 (b : Int) ∧ a ≤ b ∧ b ≤ n ∧ b + 1 ≤ gk + a ∧ Hid (Only [] w wr) ∧ Hid (Box wr N y) ∧ Hid (∀ k, k < a → (gOf xs k).lt y = true) ∧ Hid (∀ k, b ≤ k → k < n → (gOf xs k).lt y = false))
  case atStart => exact ⟨0, n, rfl, rfl, by omega, by omega, by omega, oA, bY, fun k hk => absurd hk (by omega), fun k h1 h2 => absurd h1 (by omega)⟩
  case round =>
    obtain ⟨a, b, rfl, rfl, hab, hbn, hg, ho, hB, HL, HU⟩ := hrel
    clear oA bY
    have y0 := hB.out.c0
    have y1 := hB.out.c1
    by_cases hlt : a < b
    · obtain ⟨m, em⟩ : ∃ m : Nat, (a + b) / 2 = m := ⟨_, rfl⟩
      have hm1 : a ≤ m := by omega
      have hm2 : m < b := by omega
      have hm : ((a : Int) + (b : Int)) / 2 = (m : Int) := by omega
      have hmn : (m : Int) < (n : Int) := by omega
      obtain ⟨g, rfl, d0, d1⟩ := row.out wr ho.out m (by omega)
      obtain ⟨z, ez⟩ : ∃ z, gOf xs m = z := ⟨_, rfl⟩
      rw [ez] at d0 d1
      have HZ := Lib.hid ez
      clear ez em
      go_wp2_with fail
      go_still_tail 6, (by kernel_rfl)
      change wpList _ _ _ _ _ wr.drew
      go_wp2_with fail
      refine (compare_any z y _).mono ?_
      rintro e w2 ⟨rfl, o2⟩
      have ho2 : Hid (Only [] w w2) := ho.out.drew.trans' o2
      have hB2 : Hid (Box w2 N y) := hB.out.only ((Only.refl [] wr).drew.trans' o2) (by simp)
      clear o2 y0 y1 d0 d1
      rcases hz : z.lt y with _ | _
      · have hc : cmpI z y = if y.lt z then 1 else 0 := by unfold cmpI; rw [hz]; rfl
        have hc2 : 0 ≤ cmpI z y := by rw [hc]; split <;> omega
        clear hc
        generalize cmpI z y = c at *
        go_wp2_with fail
        go_roundg (m + 1 - a)
        case measure => omega
        case rel => exact ⟨a, m, rfl, rfl, by omega, by omega, by omega, ho2, hB2, HL, fun k h1 h2 => by
          have hxl := HN.out
          rcases Nat.lt_or_ge m k with h3 | h3
          · rcases h4 : (gOf xs k).lt y with _ | _
            · rfl
            · have h5 := rises_lt HR.out h3 (by omega)
              rw [HZ.out] at h5
              rw [It.trans h5 h4] at hz; cases hz
          · obtain rfl : k = m := by omega
            rw [HZ.out]; exact hz⟩
      · have hc : cmpI z y = -1 := by unfold cmpI; rw [hz]; rfl
        rw [hc]
        clear hc
        go_wp2_with fail
        go_roundg (b + 1 - (m + 1))
        case measure => omega
        case rel => exact ⟨m + 1, b, by simp, rfl, by omega, by omega, by omega, ho2, hB2, fun k h1 => by
          have hxl := HN.out
          rcases Nat.lt_or_ge k m with h3 | h3
          · have h5 := rises_lt HR.out h3 (by omega)
            rw [HZ.out] at h5
            exact It.trans h5 hz
          · obtain rfl : k = m := by omega
            rw [HZ.out]; exact hz, HU⟩
    · obtain rfl : a = b := by omega
      have hat : at_ xs y = a := at_of (by rw [HN.out]; omega) HL.out (fun h => HU.out a (Nat.le_refl _) (by rw [← HN.out]; exact h))
      have HAT := Lib.hid hat
      clear hat
      by_cases hal : a < n
      · have hal' : (a : Int) < (n : Int) := by omega
        obtain ⟨g, rfl, d0, d1⟩ := row.out wr ho.out a hal
        generalize gOf xs a = z at *
        have hc := compare_any z y
        generalize cmpI z y = c at *
        go_wp2_with fail
        go_region_held3 (fun w' => w'.cell? ⟨N, 0, none⟩ = some (.int .u64 y.k) ∧ w'.cell? ⟨N, 1, none⟩ = some (.int .i64 y.i) ∧ w'.cell? ⟨g, a * 2, none⟩ = some (.int .u64 z.k) ∧ w'.cell? ⟨g, a * 2 + 1, none⟩ = some (.int .i64 z.i))
          (first | go_keep | (go_split_ands; refine ⟨?_, ?_, ?_, ?_⟩ <;> (apply hk.stay; assumption)))
          (first | (go_at_call 74; refine (hc _).mono ?_; rintro e w' ⟨rfl, hk⟩))
        go_wp2_with fail
        go_ret2
        exact ⟨⟨c == 0, by rw [HAT.out]; rfl⟩, ho.out.drew.trans' hk⟩
      · have hal' : decide ((a : Int) < (n : Int)) = false := decide_eq_false (by omega)
        go_wp2_with fail
        go_quiet (fail)
        go_wp2_with fail
        go_ret2
        exact ⟨⟨false, by rw [HAT.out]; rfl⟩, ho.out.drewN nq⟩

/-! ### copying items -/
/-- A row with cells laid over it from a place on. -/
def lay2 (cur : Array Value) (o : Nat) (cs : List Value) : Array Value := (cur.toList.take o ++ cs ++ cur.toList.drop (o + cs.length)).toArray
theorem lay2_size {cur : Array Value} {o : Nat} {cs : List Value} (h : o + cs.length ≤ cur.size) : (lay2 cur o cs).size = cur.size := by simp [lay2]; omega
theorem run_copy2 (w : World) (ty : TypeId) (g o dLen dCap : Nat) (ad : Addr) (sLen sCap : Nat) (cur : Array Value) (cs : List Value) (n : Nat)
    (hg : w.heap[g]? = some (.cells cur 35 (0, 0))) (hn : Nat.min sLen dLen = n) (hl : cs.length = n * 2)
    (hsrc : ∀ j v, cs[j]? = some v → w.cell? (ad.add j) = some v) (hfit : o + cs.length ≤ cur.size) (h1 : ∀ v ∈ cs, v.oneCell' = true) :
    (Builtin.copy_ #[38, 38] ty #[.slice (some ⟨g, o, none⟩) dLen dCap, .slice (some ad) sLen sCap]).run Tryd.prog w = .ok (goInt n) (w.setRow g (lay2 cur o cs)) := by
  obtain ⟨i0, hi0, hz0, hz1, hz2⟩ := info_parts item_info
  have hl' := run_loadCells_list (P := Tryd.prog) w ad cs hsrc
  have hst := run_storeCells_at Tryd.prog g o 35 cs 0 cur w hg (by simpa using hfit) h1
  rw [hl] at hl'
  simp only [Nat.add_zero] at hst
  unfold lay2
  simp [Builtin.copy_, run_underlying Tryd.underlying38, Builtin.lenOf, Builtin.firstCells, sizeOf, typeInfo, hi0, hz1, hn, hl', hst]
theorem Only.setRow (w : World) (g : Nat) (cs : Array Value) : Only [g] w (w.setRow g cs) := ⟨rfl, rfl, rfl, by simp [World.setRow], fun k _ hk => setRow_other w g k cs (by simpa using hk)⟩

section
variable {w : World} {ops : Array Oper} {o : Oper} {a : Act} {K : Act → World → Prop} {Q : Exit → Act → World → Prop}
theorem wp_copy2 (d s : Operand) (ho : o.op = .call { callee := .builtin .copy, args := #[d, s], argTypes := #[38, 38] })
    (g off dLen dCap : Nat) (ad : Addr) (sLen sCap : Nat) (hd : a.eval d = .slice (some ⟨g, off, none⟩) dLen dCap) (hs : a.eval s = .slice (some ad) sLen sCap) (cur : Array Value) (hg : w.heap[g]? = some (.cells cur 35 (0, 0)))
    (cs : List Value) (n : Nat) (hn : Nat.min sLen dLen = n) (hl : cs.length = n * 2) (hsrc : ∀ j v, cs[j]? = some v → w.cell? (ad.add j) = some v) (hfit : off + cs.length ≤ cur.size) (h1 : ∀ v ∈ cs, v.oneCell' = true)
    (hK : ∀ w', w'.heap[g]? = some (.cells (lay2 cur off cs) 35 (0, 0)) → Only [g] w w' → K (a.put o.dst (goInt n)) w') : o.wp Tryd.prog a w K Q := by
  have r1 := run_copy2 w o.type g off dLen dCap ad sLen sCap cur cs n hg hn hl hsrc hfit h1
  unfold Oper.wp execOp
  simp only [ho, resolve, invoke, builtin, Sem.run_bind, Sem.run_pure, Result.andThen_ok, List.map_toArray, List.map_cons, List.map_nil, hd, hs, r1]
  exact hK _ (setRow_heap w g _ _ _ _ hg) (Only.setRow w g _)
theorem wpList_copy2 {rest : List Oper} (hgd : o.guard = none) (d s : Operand) (ho : o.op = .call { callee := .builtin .copy, args := #[d, s], argTypes := #[38, 38] })
    (g off dLen dCap : Nat) (ad : Addr) (sLen sCap : Nat) (hd : a.eval d = .slice (some ⟨g, off, none⟩) dLen dCap) (hs : a.eval s = .slice (some ad) sLen sCap) (cur : Array Value) (hg : w.heap[g]? = some (.cells cur 35 (0, 0)))
    (cs : List Value) (n : Nat) (hn : Nat.min sLen dLen = n) (hl : cs.length = n * 2) (hsrc : ∀ j v, cs[j]? = some v → w.cell? (ad.add j) = some v) (hfit : off + cs.length ≤ cur.size) (h1 : ∀ v ∈ cs, v.oneCell' = true)
    (hK : ∀ w', w'.heap[g]? = some (.cells (lay2 cur off cs) 35 (0, 0)) → Only [g] w w' → wpList Tryd.prog ops Q rest (a.put o.dst (goInt n)) w') : wpList Tryd.prog ops Q (o :: rest) a w :=
  wpList_plain hgd fun _ hK' => wp_copy2 d s ho g off dLen dCap ad sLen sCap hd hs cur hg cs n hn hl hsrc hfit h1 fun w' h2 h3 => hK' _ _ (hK w' h2 h3)
theorem step_copy2 {E : Prop} (hgd : o.guard = none) (d s : Operand) (ho : o.op = .call { callee := .builtin .copy, args := #[d, s], argTypes := #[38, 38] })
    (g off dLen dCap : Nat) (ad : Addr) (sLen sCap : Nat) (hd : a.eval d = .slice (some ⟨g, off, none⟩) dLen dCap) (hs : a.eval s = .slice (some ad) sLen sCap) (cur : Array Value) (hg : w.heap[g]? = some (.cells cur 35 (0, 0)))
    (cs : List Value) (n : Nat) (hn : Nat.min sLen dLen = n) (hl : cs.length = n * 2) (hsrc : ∀ j v, cs[j]? = some v → w.cell? (ad.add j) = some v) (hfit : off + cs.length ≤ cur.size) (h1 : ∀ v ∈ cs, v.oneCell' = true)
    (hK : ∀ w', w'.heap[g]? = some (.cells (lay2 cur off cs) 35 (0, 0)) → Only [g] w w' → K (a.put o.dst (goInt n)) w') :
    if Region.wanted o (yielded ops a.tmps) = true then Oper.wp Tryd.prog o a w K Q else E := by
  have hw : Region.wanted o (yielded ops a.tmps) = true := by simp [Region.wanted, hgd]
  rw [if_pos hw]
  exact wp_copy2 d s ho g off dLen dCap ad sLen sCap hd hs cur hg cs n hn hl hsrc hfit h1 hK
end
/-- Laid behind a known head. -/
theorem lay2_behind {P R cs : List Value} {o : Nat} (h : P.length = o) : lay2 (P ++ R).toArray o cs = (P ++ cs ++ R.drop cs.length).toArray := by
  subst h
  unfold lay2
  congr 1
  simp [List.drop_append]
theorem item_cells (x : It) : ∀ v ∈ [Value.int .u64 x.k, Value.int .i64 x.i], v.oneCell' = true := by
  intro v hv
  simp at hv
  rcases hv with rfl | rfl <;> rfl
theorem box_src {w : World} {b : Nat} {x : It} (h : Box w b x) : ∀ j v, [Value.int .u64 x.k, Value.int .i64 x.i][j]? = some v → w.cell? ((⟨b, 0, none⟩ : Addr).add j) = some v := by
  intro j v hj
  match j, hj with
  | 0, hj => simp at hj; subst hj; exact h.c0
  | 1, hj => simp at hj; subst hj; exact h.c1
end Go.Proofs.YtfgffgicfieieaaDoor
