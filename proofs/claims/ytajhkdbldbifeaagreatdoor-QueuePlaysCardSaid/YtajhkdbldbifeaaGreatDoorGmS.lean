/-
  Contracts of compare, slices.BinarySearchFunc, slices.Insert (one item), slices.Delete (one item), at items.
  Contracts of slices.Insert (one item) and slices.Delete (one item), at items.
  Contract of slices.Delete (one item), at items.
-/
import Derived.Test.YtajhkdbldbifeaaGreatDoorGmI
import Derived.Laws.CopyRow
import Derived.Laws.NewBlocks
import Derived.Lib.Overlaps
import Derived.Lib.AppendZerosOnto
import Derived.Laws.Externs
import Derived.Deep.RegionHeld3
namespace Go.Proofs.YtajhkdbldbifeaaGreatDoor
set_option maxRecDepth 100000
open Go.RowKit
set_option linter.unusedVariables false
set_option linter.unusedSimpArgs false

/-- How two items compare. -/
def cmpI (x y : It) : Int := if x.lt y then -1 else if y.lt x then 1 else 0
set_option maxHeartbeats 400000 in
theorem compare_any (x y : It) (w : World) : Calls Tryz.prog 115 #[.agg #[.int .u64 x.k, .int .i64 x.i], .agg #[.int .u64 y.k, .int .i64 y.i]] w fun e w' => e = .returned (.int .i64 (cmpI x y)) ∧ Only [] w w' := by
  unfold cmpI
  have oA : Only [] w ((w.alloc (.cells #[.int .u64 x.k, .int .i64 x.i] 40)).alloc (.cells #[.int .u64 y.k, .int .i64 y.i] 40)) := ((Only.refl [] w).alloc _).alloc _
  have bx : Box ((w.alloc (.cells #[.int .u64 x.k, .int .i64 x.i] 40)).alloc (.cells #[.int .u64 y.k, .int .i64 y.i] 40)) w.heap.size x := (Box.new w x).only ((Only.refl [] _).alloc _) (by simp)
  have by_ : Box ((w.alloc (.cells #[.int .u64 x.k, .int .i64 x.i] 40)).alloc (.cells #[.int .u64 y.k, .int .i64 y.i] 40)) (w.heap.size + 1) y := by
    have := Box.new (w.alloc (.cells #[.int .u64 x.k, .int .i64 x.i] 40)) y
    simpa using this
  rcases h1 : x.lt y with _ | _
  · rcases h2 : y.lt x with _ | _
    all_goals
      go_enter Tryz.func115, Tryz.ntmps115
      go_wp2_with fail
      refine (ahead_only x y _).mono ?_
      rintro e w1 ⟨rfl, o1⟩
      have b1 := bx.only o1 (by simp)
      have b2 := by_.only o1 (by simp)
      have c0 := b1.c0
      have c1 := b1.c1
      have d0 := b2.c0
      have d1 := b2.c1
      have o2 := Lib.hid (oA.trans' o1)
      rw [h1]
      clear b1 b2 bx by_ oA o1
      go_wp2_with fail
      refine (ahead_only y x _).mono ?_
      rintro e w2 ⟨rfl, o3⟩
      rw [h2]
      go_wp2_with fail
      go_ret
      exact ⟨rfl, o2.out.trans' o3⟩
  · go_enter Tryz.func115, Tryz.ntmps115
    go_wp2_with fail
    refine (ahead_only x y _).mono ?_
    rintro e w1 ⟨rfl, o1⟩
    rw [h1]
    go_wp2_with fail
    go_ret
    exact ⟨rfl, oA.trans' o1⟩

/-! ### looking for an item's place -/
/-- The place of y in a row that rises. -/
def at_ (xs : List It) (y : It) : Nat := (xs.takeWhile fun x => x.lt y).length
theorem at_le (xs : List It) (y : It) : at_ xs y ≤ xs.length := (List.takeWhile_sublist _).length_le
theorem at_of {xs : List It} {y : It} {p : Nat} (hp : p ≤ xs.length) (h1 : ∀ j, j < p → (gOf xs j).lt y = true) (h2 : p < xs.length → (gOf xs p).lt y = false) : at_ xs y = p := by
  unfold at_
  rw [(takeWhile_of hp h1 h2).1]
  simp [hp]
theorem rises_lt {xs : List It} (h : Rises xs) {a b : Nat} (hab : a < b) (hb : b < xs.length) : (gOf xs a).lt (gOf xs b) = true := by
  have := List.pairwise_iff_getElem.1 h a b (by omega) hb hab
  rw [gOf_get (by omega : a < xs.length), gOf_get hb]
  exact this

set_option maxRecDepth 100000 in
set_option maxHeartbeats 2000000 in
theorem search_any (w : World) (v : Value) (xs : List It) (h : RowIs w v xs) (hr : Rises xs) (y : It) (hl : xs.length ≤ 1000000) :
    Calls Tryz.prog 114 #[v, .agg #[.int .u64 y.k, .int .i64 y.i], .func (.func 115) #[] #[]] w fun e w' => (∃ b, e = .returned (.tuple #[.int .i64 (at_ xs y : Int), .bool b])) ∧ Only [] w w' := by
  obtain ⟨A, cap, ev⟩ := h.form
  have row : Hid (∀ W, Only [] w W → ∀ k, k < xs.length → ∃ g, A = some ⟨g, 0, none⟩ ∧ W.cell? ⟨g, k * 2, none⟩ = some (.int .u64 (gOf xs k).k) ∧ W.cell? ⟨g, k * 2 + 1, none⟩ = some (.int .i64 (gOf xs k).i)) := by
    intro W hW k hk
    have h9 := h.keep (w' := W) (fun g hg => hW.block g (h.lt hg) (by simp))
    obtain ⟨g, cap', e, -, -, -, -, hc⟩ := h9.at_ (by omega)
    rw [ev] at e
    injection e with e1 e2 e3
    exact ⟨g, e1, (hc k hk).1, (hc k hk).2.1⟩
  have oA : Only [] w (w.alloc (.cells #[.int .u64 y.k, .int .i64 y.i] 40)) := (Only.refl [] w).alloc _
  have bY : Box _ w.heap.size y := Box.new w y
  have HR := Lib.hid hr
  subst ev
  clear h hr
  generalize hn : xs.length = n at *
  have HN := Lib.hid hn
  clear hn
  generalize hW0 : w.alloc (.cells #[.int .u64 y.k, .int .i64 y.i] 40) = W0 at *
  go_enter Tryz.func114, Tryz.ntmps114
  go_wp2_with fail
  obtain ⟨N, eN⟩ : ∃ N, w.heap.size = N := ⟨_, rfl⟩
  rw [eN] at bY ⊢
  clear hW0 eN
  go_loopg [9, 10] (n + 1) (fun gk si sj wr => ∃ a b : Nat, si = .int .i64 (a : Int) ∧ sj = .int .i64 (b : Int) ∧ a ≤ b ∧ b ≤ n ∧ b + 1 ≤ gk + a ∧ Hid (Only [] w wr) ∧ Hid (Box wr N y) ∧ Hid (∀ k, k < a → (gOf xs k).lt y = true) ∧ Hid (∀ k, b ≤ k → k < n → (gOf xs k).lt y = false))
  case atStart => exact ⟨0, n, rfl, rfl, by omega, by omega, by omega, oA, bY, fun k hk => absurd hk (by omega), fun k h1 h2 => absurd h1 (by omega)⟩
  case round =>
    obtain ⟨a, b, rfl, rfl, hab, hbn, hg, ho, hB, HL, HU⟩ := hrel
    clear oA bY
    have y0 := hB.out.c0
    have y1 := hB.out.c1
    by_cases hlt : a < b
    · obtain ⟨m, em⟩ : ∃ m : Nat, (a + b) / 2 = m := ⟨_, rfl⟩
      have hm1 : a ≤ m := by omega
      have hm2 : m < b := by omega
      have hm : ((a : Int) + (b : Int)) / 2 = (m : Int) := by omega
      have hmn : (m : Int) < (n : Int) := by omega
      obtain ⟨g, rfl, d0, d1⟩ := row.out wr ho.out m (by omega)
      obtain ⟨z, ez⟩ : ∃ z, gOf xs m = z := ⟨_, rfl⟩
      rw [ez] at d0 d1
      have HZ := Lib.hid ez
      clear ez em
      go_wp2_with fail
      go_still_tail 6, (by kernel_rfl)
      change wpList _ _ _ _ _ wr.drew
      go_wp2_with fail
      refine (compare_any z y _).mono ?_
      rintro e w2 ⟨rfl, o2⟩
      have ho2 : Hid (Only [] w w2) := ho.out.drew.trans' o2
      have hB2 : Hid (Box w2 N y) := hB.out.only ((Only.refl [] wr).drew.trans' o2) (by simp)
      clear o2 y0 y1 d0 d1
      rcases hz : z.lt y with _ | _
      · have hc : cmpI z y = if y.lt z then 1 else 0 := by unfold cmpI; rw [hz]; rfl
        have hc2 : 0 ≤ cmpI z y := by rw [hc]; split <;> omega
        clear hc
        generalize cmpI z y = c at *
        go_wp2_with fail
        go_roundg (m + 1 - a)
        case measure => omega
        case rel => exact ⟨a, m, rfl, rfl, by omega, by omega, by omega, ho2, hB2, HL, fun k h1 h2 => by
          have hxl := HN.out
          rcases Nat.lt_or_ge m k with h3 | h3
          · rcases h4 : (gOf xs k).lt y with _ | _
            · rfl
            · have h5 := rises_lt HR.out h3 (by omega)
              rw [HZ.out] at h5
              rw [It.trans h5 h4] at hz; cases hz
          · obtain rfl : k = m := by omega
            rw [HZ.out]; exact hz⟩
      · have hc : cmpI z y = -1 := by unfold cmpI; rw [hz]; rfl
        rw [hc]
        clear hc
        go_wp2_with fail
        go_roundg (b + 1 - (m + 1))
        case measure => omega
        case rel => exact ⟨m + 1, b, by simp, rfl, by omega, by omega, by omega, ho2, hB2, fun k h1 => by
          have hxl := HN.out
          rcases Nat.lt_or_ge k m with h3 | h3
          · have h5 := rises_lt HR.out h3 (by omega)
            rw [HZ.out] at h5
            exact It.trans h5 hz
          · obtain rfl : k = m := by omega
            rw [HZ.out]; exact hz, HU⟩
    · obtain rfl : a = b := by omega
      have hat : at_ xs y = a := at_of (by rw [HN.out]; omega) HL.out (fun h => HU.out a (Nat.le_refl _) (by rw [← HN.out]; exact h))
      have HAT := Lib.hid hat
      clear hat
      by_cases hal : a < n
      · have hal' : (a : Int) < (n : Int) := by omega
        obtain ⟨g, rfl, d0, d1⟩ := row.out wr ho.out a hal
        generalize gOf xs a = z at *
        have hc := compare_any z y
        generalize cmpI z y = c at *
        go_wp2_with fail
        go_region_held3 (fun w' => w'.cell? ⟨N, 0, none⟩ = some (.int .u64 y.k) ∧ w'.cell? ⟨N, 1, none⟩ = some (.int .i64 y.i) ∧ w'.cell? ⟨g, a * 2, none⟩ = some (.int .u64 z.k) ∧ w'.cell? ⟨g, a * 2 + 1, none⟩ = some (.int .i64 z.i))
          (first | go_keep | (go_split_ands; refine ⟨?_, ?_, ?_, ?_⟩ <;> (apply hk.stay; assumption)))
          (first | (go_at_call 115; refine (hc _).mono ?_; rintro e w' ⟨rfl, hk⟩))
        go_wp2_with fail
        go_ret2
        exact ⟨⟨c == 0, by rw [HAT.out]; rfl⟩, ho.out.drew.trans' hk⟩
      · have hal' : decide ((a : Int) < (n : Int)) = false := decide_eq_false (by omega)
        go_wp2_with fail
        go_quiet (fail)
        go_wp2_with fail
        go_ret2
        exact ⟨⟨false, by rw [HAT.out]; rfl⟩, ho.out.drewN nq⟩

/-! ### copying items -/
/-- A row with cells laid over it from a place on. -/
def lay2 (cur : Array Value) (o : Nat) (cs : List Value) : Array Value := (cur.toList.take o ++ cs ++ cur.toList.drop (o + cs.length)).toArray
theorem lay2_size {cur : Array Value} {o : Nat} {cs : List Value} (h : o + cs.length ≤ cur.size) : (lay2 cur o cs).size = cur.size := by simp [lay2]; omega
theorem run_copy2 (w : World) (ty : TypeId) (g o dLen dCap : Nat) (ad : Addr) (sLen sCap : Nat) (cur : Array Value) (cs : List Value) (n : Nat)
    (hg : w.heap[g]? = some (.cells cur 40 (0, 0))) (hn : Nat.min sLen dLen = n) (hl : cs.length = n * 2)
    (hsrc : ∀ j v, cs[j]? = some v → w.cell? (ad.add j) = some v) (hfit : o + cs.length ≤ cur.size) (h1 : ∀ v ∈ cs, v.oneCell' = true) :
    (Builtin.copy_ #[33, 33] ty #[.slice (some ⟨g, o, none⟩) dLen dCap, .slice (some ad) sLen sCap]).run Tryz.prog w = .ok (goInt n) (w.setRow g (lay2 cur o cs)) := by
  obtain ⟨i0, hi0, hz0, hz1, hz2⟩ := info_parts item_info
  have hl' := run_loadCells_list (P := Tryz.prog) w ad cs hsrc
  have hst := run_storeCells_at Tryz.prog g o 40 cs 0 cur w hg (by simpa using hfit) h1
  rw [hl] at hl'
  simp only [Nat.add_zero] at hst
  unfold lay2
  simp [Builtin.copy_, run_underlying Tryz.underlying33, Builtin.lenOf, Builtin.firstCells, sizeOf, typeInfo, hi0, hz1, hn, hl', hst]
theorem Only.setRow (w : World) (g : Nat) (cs : Array Value) : Only [g] w (w.setRow g cs) := ⟨rfl, rfl, rfl, by simp [World.setRow], fun k _ hk => setRow_other w g k cs (by simpa using hk)⟩

section
variable {w : World} {ops : Array Oper} {o : Oper} {a : Act} {K : Act → World → Prop} {Q : Exit → Act → World → Prop}
theorem wp_copy2 (d s : Operand) (ho : o.op = .call { callee := .builtin .copy, args := #[d, s], argTypes := #[33, 33] })
    (g off dLen dCap : Nat) (ad : Addr) (sLen sCap : Nat) (hd : a.eval d = .slice (some ⟨g, off, none⟩) dLen dCap) (hs : a.eval s = .slice (some ad) sLen sCap) (cur : Array Value) (hg : w.heap[g]? = some (.cells cur 40 (0, 0)))
    (cs : List Value) (n : Nat) (hn : Nat.min sLen dLen = n) (hl : cs.length = n * 2) (hsrc : ∀ j v, cs[j]? = some v → w.cell? (ad.add j) = some v) (hfit : off + cs.length ≤ cur.size) (h1 : ∀ v ∈ cs, v.oneCell' = true)
    (hK : ∀ w', w'.heap[g]? = some (.cells (lay2 cur off cs) 40 (0, 0)) → Only [g] w w' → K (a.put o.dst (goInt n)) w') : o.wp Tryz.prog a w K Q := by
  have r1 := run_copy2 w o.type g off dLen dCap ad sLen sCap cur cs n hg hn hl hsrc hfit h1
  unfold Oper.wp execOp
  simp only [ho, resolve, invoke, builtin, Sem.run_bind, Sem.run_pure, Result.andThen_ok, List.map_toArray, List.map_cons, List.map_nil, hd, hs, r1]
  exact hK _ (setRow_heap w g _ _ _ _ hg) (Only.setRow w g _)
theorem wpList_copy2 {rest : List Oper} (hgd : o.guard = none) (d s : Operand) (ho : o.op = .call { callee := .builtin .copy, args := #[d, s], argTypes := #[33, 33] })
    (g off dLen dCap : Nat) (ad : Addr) (sLen sCap : Nat) (hd : a.eval d = .slice (some ⟨g, off, none⟩) dLen dCap) (hs : a.eval s = .slice (some ad) sLen sCap) (cur : Array Value) (hg : w.heap[g]? = some (.cells cur 40 (0, 0)))
    (cs : List Value) (n : Nat) (hn : Nat.min sLen dLen = n) (hl : cs.length = n * 2) (hsrc : ∀ j v, cs[j]? = some v → w.cell? (ad.add j) = some v) (hfit : off + cs.length ≤ cur.size) (h1 : ∀ v ∈ cs, v.oneCell' = true)
    (hK : ∀ w', w'.heap[g]? = some (.cells (lay2 cur off cs) 40 (0, 0)) → Only [g] w w' → wpList Tryz.prog ops Q rest (a.put o.dst (goInt n)) w') : wpList Tryz.prog ops Q (o :: rest) a w :=
  wpList_plain hgd fun _ hK' => wp_copy2 d s ho g off dLen dCap ad sLen sCap hd hs cur hg cs n hn hl hsrc hfit h1 fun w' h2 h3 => hK' _ _ (hK w' h2 h3)
theorem step_copy2 {E : Prop} (hgd : o.guard = none) (d s : Operand) (ho : o.op = .call { callee := .builtin .copy, args := #[d, s], argTypes := #[33, 33] })
    (g off dLen dCap : Nat) (ad : Addr) (sLen sCap : Nat) (hd : a.eval d = .slice (some ⟨g, off, none⟩) dLen dCap) (hs : a.eval s = .slice (some ad) sLen sCap) (cur : Array Value) (hg : w.heap[g]? = some (.cells cur 40 (0, 0)))
    (cs : List Value) (n : Nat) (hn : Nat.min sLen dLen = n) (hl : cs.length = n * 2) (hsrc : ∀ j v, cs[j]? = some v → w.cell? (ad.add j) = some v) (hfit : off + cs.length ≤ cur.size) (h1 : ∀ v ∈ cs, v.oneCell' = true)
    (hK : ∀ w', w'.heap[g]? = some (.cells (lay2 cur off cs) 40 (0, 0)) → Only [g] w w' → K (a.put o.dst (goInt n)) w') :
    if Region.wanted o (yielded ops a.tmps) = true then Oper.wp Tryz.prog o a w K Q else E := by
  have hw : Region.wanted o (yielded ops a.tmps) = true := by simp [Region.wanted, hgd]
  rw [if_pos hw]
  exact wp_copy2 d s ho g off dLen dCap ad sLen sCap hd hs cur hg cs n hn hl hsrc hfit h1 hK
end
/-- Laid behind a known head. -/
theorem lay2_behind {P R cs : List Value} {o : Nat} (h : P.length = o) : lay2 (P ++ R).toArray o cs = (P ++ cs ++ R.drop cs.length).toArray := by
  subst h
  unfold lay2
  congr 1
  simp [List.drop_append]
theorem item_cells (x : It) : ∀ v ∈ [Value.int .u64 x.k, Value.int .i64 x.i], v.oneCell' = true := by
  intro v hv
  simp at hv
  rcases hv with rfl | rfl <;> rfl
theorem box_src {w : World} {b : Nat} {x : It} (h : Box w b x) : ∀ j v, [Value.int .u64 x.k, Value.int .i64 x.i][j]? = some v → w.cell? ((⟨b, 0, none⟩ : Addr).add j) = some v := by
  intro j v hj
  match j, hj with
  | 0, hj => simp at hj; subst hj; exact h.c0
  | 1, hj => simp at hj; subst hj; exact h.c1
end Go.Proofs.YtajhkdbldbifeaaGreatDoor

namespace Go.Proofs.YtajhkdbldbifeaaGreatDoor
set_option maxRecDepth 100000
open Go.RowKit
set_option linter.unusedVariables false
set_option linter.unusedSimpArgs false

theorem Src.box {w : World} {b : Nat} {x : It} (h : Box w b x) : Src w (some ⟨b, 0, none⟩) [x] := fun _ => ⟨_, rfl, fun j u hu => box_src h j u (by simpa [flat, It.cs] using hu)⟩

/-- What comes of an item put into a row. -/
def Put (w : World) (v : Value) (zs : List It) (e : Ending) (w' : World) : Prop :=
  ∃ v', e = .returned v' ∧ RowIs w' v' zs ∧ Only v.ownBlock.toList w w' ∧ (v'.ownBlock = v.ownBlock ∨ ∃ g, v'.ownBlock = some g ∧ w.heap.size ≤ g)

set_option maxRecDepth 100000 in
set_option maxHeartbeats 2000000 in
theorem insert_end (w : World) (v : Value) (xs : List It) (h : RowIs w v xs) (vb : Nat) (x : It) (hb : Box w vb x) (hl : xs.length ≤ 1000000) :
    Calls Tryz.prog 116 #[v, .int .i64 (xs.length : Int), .slice (some ⟨vb, 0, none⟩) 1 1] w (Put w v (xs ++ [x])) := by
  obtain ⟨A, cap, ev⟩ := h.form
  have hcap : xs.length ≤ cap := by
    rcases h.2 with ⟨e, e2⟩ | ⟨g, cap', cur, e, _, _, hn, _⟩
    · rw [ev] at e; injection e; omega
    · rw [ev] at e; injection e; omega
  subst ev
  have hA : A = none ∨ ∃ g, A = some ⟨g, 0, none⟩ := by
    rcases h.2 with ⟨e, e2⟩ | ⟨g, cap', cur, e, _, _, hn, _⟩
    · injection e with e; exact .inl e
    · injection e with e; exact .inr ⟨g, e⟩
  have H := Lib.hid h
  have HB := Lib.hid hb
  clear h hb
  generalize hn : xs.length = n at *
  have HN := Lib.hid hn
  clear hn
  rcases hA with rfl | ⟨g, rfl⟩
  all_goals
    go_enter Tryz.func116, Tryz.ntmps116
    go_wp2_with (at_builtin
                 refine wpList_append_row rfl (.tmp 23) (.tmp 24) rfl _ xs rfl H.out _ 1 _ [x] rfl rfl (Src.box HB.out) (n + 1) (by rw [HN.out]) (by omega) ?_
                 intro A2 cap2 w2 r2 g2 l2
                 have R2 := Lib.hid (And.intro r2 (And.intro g2 l2))
                 clear r2 g2 l2)
    all_goals
      go_ret
      obtain ⟨r2, g2, l2⟩ := R2.out
      refine ⟨_, rfl, r2, (Only.refl _ _).grown g2 (fun k hk => .inl (Option.mem_toList.2 hk)), ?_⟩
      rcases l2 with l2 | l2
      · exact .inl l2
      · exact .inr ⟨_, l2, Nat.le_refl _⟩

/-! ### rows with one more, one less -/
theorem row_shift {cur : Array Value} {xs : List It} {cap i : Nat} (x : It) (hs : cur.size = cap * 2) (hc : cur.toList.take (xs.length * 2) = flat xs) (hr : xs.length + 1 ≤ cap) (hi : i < xs.length) :
    (lay2 (lay2 cur ((i + 1) * 2) (flat (xs.drop i))) (i * 2) [Value.int .u64 x.k, Value.int .i64 x.i]).size = cap * 2 ∧
    (lay2 (lay2 cur ((i + 1) * 2) (flat (xs.drop i))) (i * 2) [Value.int .u64 x.k, Value.int .i64 x.i]).toList.take ((xs.length + 1) * 2) = flat (xs.take i ++ x :: xs.drop i) := by
  have hl1 : (flat (xs.drop i)).length = (xs.length - i) * 2 := by simp
  have hsz : (lay2 cur ((i + 1) * 2) (flat (xs.drop i))).size = cur.size := lay2_size (by rw [hl1]; omega)
  refine ⟨by rw [lay2_size (by simp; omega), hsz, hs], ?_⟩
  obtain ⟨T, hT⟩ : ∃ T, cur.toList = flat xs ++ T := ⟨cur.toList.drop (xs.length * 2), by rw [← hc, List.take_append_drop]⟩
  have hx : flat xs = flat (xs.take i) ++ flat (xs.drop i) := by rw [← flat_append, List.take_append_drop]
  have hlA : (flat (xs.take i)).length = i * 2 := by simp; omega
  have hD : flat (xs.drop i) = Value.int .u64 (xs[i]).k :: Value.int .i64 (xs[i]).i :: flat (xs.drop (i + 1)) := by rw [List.drop_eq_getElem_cons hi, flat_cons]
  have ecur : cur = ((flat (xs.take i) ++ [Value.int .u64 (xs[i]).k, Value.int .i64 (xs[i]).i]) ++ (flat (xs.drop (i + 1)) ++ T)).toArray := by
    apply Array.ext'
    rw [hT, hx, hD]
    simp
  have e1 : lay2 cur ((i + 1) * 2) (flat (xs.drop i)) = (flat (xs.take i) ++ ([Value.int .u64 (xs[i]).k, Value.int .i64 (xs[i]).i] ++ (flat (xs.drop i) ++ (flat (xs.drop (i + 1)) ++ T).drop (flat (xs.drop i)).length))).toArray := by
    conv => lhs; rw [ecur]
    rw [lay2_behind (by simp [hlA]; omega)]
    congr 1
    simp
  rw [e1, lay2_behind hlA]
  have e2 : flat (xs.take i ++ x :: xs.drop i) = flat (xs.take i) ++ ([Value.int .u64 x.k, Value.int .i64 x.i] ++ flat (xs.drop i)) := by rw [flat_append, flat_cons]; simp
  rw [e2]
  have e3 : ([Value.int .u64 (xs[i]).k, Value.int .i64 (xs[i]).i] ++ (flat (xs.drop i) ++ (flat (xs.drop (i + 1)) ++ T).drop (flat (xs.drop i)).length)).drop [Value.int .u64 x.k, Value.int .i64 x.i].length = flat (xs.drop i) ++ (flat (xs.drop (i + 1)) ++ T).drop (flat (xs.drop i)).length := by simp
  rw [e3]
  generalize (flat (xs.drop (i + 1)) ++ T).drop (flat (xs.drop i)).length = U
  rw [List.toList_toArray, ← List.append_assoc, List.take_append_of_le_length (by simp; omega)]
  rw [List.take_of_length_le (by simp; omega)]
  simp
theorem row_grown {ROW : Array Value} {Z : List Value} {xs : List It} {G i : Nat} (x : It) (hR : ROW = (flat (xs.take i) ++ Z).toArray) (hZ : Z.length = (G - i) * 2) (hr : xs.length + 1 ≤ G) (hi : i < xs.length) :
    (lay2 (lay2 ROW (i * 2) [Value.int .u64 x.k, Value.int .i64 x.i]) ((i + 1) * 2) (flat (xs.drop i))).size = G * 2 ∧
    (lay2 (lay2 ROW (i * 2) [Value.int .u64 x.k, Value.int .i64 x.i]) ((i + 1) * 2) (flat (xs.drop i))).toList.take ((xs.length + 1) * 2) = flat (xs.take i ++ x :: xs.drop i) := by
  have hl1 : (flat (xs.drop i)).length = (xs.length - i) * 2 := by simp
  have hlA : (flat (xs.take i)).length = i * 2 := by simp; omega
  have hRs : ROW.size = G * 2 := by rw [hR]; simp [hZ]; omega
  have hsz : (lay2 ROW (i * 2) [Value.int .u64 x.k, Value.int .i64 x.i]).size = ROW.size := lay2_size (by simp; omega)
  refine ⟨by rw [lay2_size (by rw [hl1, hsz]; omega), hsz, hRs], ?_⟩
  have e1 : lay2 ROW (i * 2) [Value.int .u64 x.k, Value.int .i64 x.i] = ((flat (xs.take i) ++ [Value.int .u64 x.k, Value.int .i64 x.i]) ++ Z.drop 2).toArray := by
    rw [hR, lay2_behind hlA]
    rfl
  rw [e1, lay2_behind (by simp [hlA]; omega)]
  have e2 : flat (xs.take i ++ x :: xs.drop i) = flat (xs.take i) ++ [Value.int .u64 x.k, Value.int .i64 x.i] ++ flat (xs.drop i) := by rw [flat_append, flat_cons]; simp
  rw [e2, List.toList_toArray, List.take_append_of_le_length (by simp; omega), List.take_of_length_le (by simp; omega)]

set_option maxRecDepth 100000 in
set_option maxHeartbeats 4000000 in
theorem insert_room (w : World) (g cap : Nat) (cur : Array Value) (xs : List It) (hg : w.heap[g]? = some (.cells cur 40 (0, 0))) (hs : cur.size = cap * 2) (hc : cur.toList.take (xs.length * 2) = flat xs) (hcm : cap ≤ maxLen)
    (vb : Nat) (x : It) (hb : Box w vb x) (hne : vb ≠ g) (i : Nat) (hi : i < xs.length) (hr : xs.length + 1 ≤ cap) (hl : xs.length ≤ 1000000) :
    Calls Tryz.prog 116 #[.slice (some ⟨g, 0, none⟩) xs.length cap, .int .i64 (i : Int), .slice (some ⟨vb, 0, none⟩) 1 1] w (Put w (.slice (some ⟨g, 0, none⟩) xs.length cap) (xs.take i ++ x :: xs.drop i)) := by
  have hov : ∀ lb cb, (callFunc 136 #[.slice (some ⟨vb, 0, none⟩) 1 1, .slice (some ⟨g, (i + 1) * 2, none⟩) lb cb]).run Tryz.prog w = .ok (.value (.bool false)) w := fun lb cb => by
    rw [run_callFunc_extern Tryz.func136 (by kernel_rfl) (by kernel_rfl) (by kernel_rfl) (e := Extern.SlicesOverlaps.overlaps #[33, 33] #[4]) (by kernel_rfl),
      Lib.run_overlaps_apart w 33 4 40 Tryz.underlying33 2 Tryz.sizeOf40 ⟨vb, 0, none⟩ ⟨g, (i + 1) * 2, none⟩ 1 1 lb cb hne 40 40 2 cur.size (by unfold Box at hb; simp [World.shape?, hb]) (by simp [World.shape?, hg]) (by omega) (hb.fr 0) (by unfold Box at hb; simp [World.frozen?, hb])]
    rfl
  have hRow := Lib.hid (row_shift x hs hc hr hi)
  have hsrc : Hid (∀ j v, (flat (xs.drop i))[j]? = some v → w.drew.cell? ((⟨g, i * 2, none⟩ : Addr).add j) = some v) := by
    have h9 : RowIs w (.slice (some ⟨g, 0, none⟩) xs.length cap) xs := ⟨by simp, .inr ⟨g, cap, cur, rfl, Nat.zero_le _, hg, by omega, hcm, hs, hc⟩⟩
    intro j v hj
    obtain ⟨ad, e, h8⟩ := Src.drop h9 i (by intro e; rw [e] at hj; simp [flat] at hj)
    injection e with e
    subst e
    exact h8 j v hj
  have hfl : Hid ((flat (xs.drop i)).length = (xs.length - i) * 2) := by show _ = _; simp
  have HG := Lib.hid hg
  have HB := Lib.hid hb
  have HS := Lib.hid hs
  have i1 : (i : Int) < (xs.length : Int) := by omega
  have i2 : ¬ ((i : Int) = (xs.length : Int)) := by omega
  have i3 : ¬ (cap = i) := by omega
  have i4 : ¬ (cap = i + 1) := by omega
  have i5 : (xs.length : Int) + 1 ≤ (cap : Int) := by omega
  have i6 : cap ≤ 9223372036854775807 := by unfold maxLen at hcm; omega
  clear hg hb hs hc hcm
  generalize hn : xs.length = n at *
  have hw1 : IntKind.i64.wrap ((i : Int) + 1) = (i : Int) + 1 := by rw [IntKind.wrap_i64]; omega
  have hb1 : (0 : Int) ≤ (i : Int) + 1 := by omega
  have hin : i ≤ n := by omega
  have htn : ((i : Int) + 1).toNat = i + 1 := by omega
  have hb3 : (i : Int) ≤ (n : Int) + 1 := by omega
  have hb5 : (i : Int) + 1 ≤ (n : Int) + 1 := by omega
  go_enter Tryz.func116, Tryz.ntmps116
  go_wp2_with (simp only [hov])
  go_region_law (refine step_copy2 rfl (.tmp 73) (.tmp 76) rfl g ((i + 1) * 2) (n + 1 - (i + 1)) (cap - (i + 1)) ⟨g, i * 2, none⟩ (n + 1 - i) (cap - i) (by simp [Act.eval, Act.put]) (by simp [Act.eval, Act.put]) cur HG.out (flat (xs.drop i)) (n - i) (by simp only [Nat.min_def]; split <;> omega) hfl.out hsrc.out (by rw [hfl.out, HS.out]; omega) (flat_one _) ?_; intro w2 h2 o2; have R2 := Lib.hid (And.intro h2 o2); clear h2 o2)
  go_wp2_with (refine wpList_copy2 rfl (.tmp 80) (.tmp 81) rfl g (i * 2) (n + 1 - i) (cap - i) ⟨vb, 0, none⟩ 1 1 rfl rfl _ R2.out.1 [.int .u64 x.k, .int .i64 x.i] 1 (by simp only [Nat.min_def]; split <;> omega) rfl (box_src (HB.out.only ((Only.refl [g] w).drew.trans' R2.out.2) (by simpa using hne))) (by rw [lay2_size (by rw [hfl.out, HS.out]; omega), HS.out]; simp; omega) (item_cells x) ?_; intro w3 h3 o3; have R3 := Lib.hid (And.intro h3 o3); clear h3 o3)
  go_ret
  obtain ⟨h3, o3⟩ := R3.out
  have o9 : Only [g] w w3 := ((Only.refl [g] w).drew.trans' R2.out.2).trans' o3
  have el : (xs.take i ++ x :: xs.drop i).length = n + 1 := by simp; omega
  refine ⟨_, rfl, ⟨flat_length _, .inr ⟨g, cap, _, congrArg (fun m => Value.slice _ m _) el.symm, Nat.zero_le _, h3, by rw [el]; omega, by unfold maxLen; omega, hRow.out.1, by rw [el]; exact hRow.out.2⟩⟩, o9, .inl rfl⟩

set_option maxRecDepth 100000 in
set_option maxHeartbeats 4000000 in
theorem insert_grow (w : World) (g cap : Nat) (cur : Array Value) (xs : List It) (hg : w.heap[g]? = some (.cells cur 40 (0, 0))) (hs : cur.size = cap * 2) (hc : cur.toList.take (xs.length * 2) = flat xs) (hcm : cap ≤ maxLen)
    (vb : Nat) (x : It) (hb : Box w vb x) (hne : vb ≠ g) (i : Nat) (hi : i < xs.length) (hlc : xs.length ≤ cap) (hr : cap < xs.length + 1) (hl : xs.length ≤ 1000000) :
    Calls Tryz.prog 116 #[.slice (some ⟨g, 0, none⟩) xs.length cap, .int .i64 (i : Int), .slice (some ⟨vb, 0, none⟩) 1 1] w (Put w (.slice (some ⟨g, 0, none⟩) xs.length cap) (xs.take i ++ x :: xs.drop i)) := by
  obtain ⟨i0, hi0, hz0, hz1, hz2⟩ := info_parts item_info
  have h9 : RowIs w (.slice (some ⟨g, 0, none⟩) xs.length cap) xs := ⟨by simp, .inr ⟨g, cap, cur, rfl, Nat.zero_le _, hg, by omega, hcm, hs, hc⟩⟩
  have hsrc : ∀ j v, (flat (xs.drop i))[j]? = some v → w.cell? ((⟨g, i * 2, none⟩ : Addr).add j) = some v := by
    intro j v hj
    obtain ⟨ad, e, h8⟩ := Src.drop h9 i (by intro e; rw [e] at hj; simp [flat] at hj)
    injection e with e
    subst e
    exact h8 j v hj
  have hold : (Builtin.firstCells i0.size i (.slice (some ⟨g, 0, none⟩) i cap)).run Tryz.prog w.drew = .ok (flat (xs.take i)).toArray w.drew := by
    rw [hz1]
    refine run_firstCells_some w.drew 2 i ⟨g, 0, none⟩ i cap (flat (xs.take i)) (by simp; omega) (fun j v hj => ?_)
    obtain ⟨ad, e, h8⟩ := Src.take h9 i (by intro e; rw [e] at hj; simp [flat] at hj)
    injection e with e
    subst e
    exact h8 j v hj
  have hkk : (xs.length : Int) + 1 - (i : Int) = ((xs.length + 1 - i : Nat) : Int) := by omega
  have hik : i + (xs.length + 1 - i) = xs.length + 1 := by omega
  obtain ⟨G, hG⟩ : ∃ G, G = grownCap w (xs.length + 1) cap 40 := ⟨_, rfl⟩
  obtain ⟨ROW, hROW⟩ : ∃ ROW : Array Value, ROW = (flat (xs.take i)).toArray ++ Builtin.zeroCells (Value.agg #[.int .u64 0, .int .i64 0]).cells (xs.length + 1 - i) ++ Builtin.zeroCells (Value.agg #[.int .u64 0, .int .i64 0]).cells (G - (xs.length + 1)) := ⟨_, rfl⟩
  have hrz : ∀ ty, (Builtin.append_ #[33, 3] ty #[.slice (some ⟨g, 0, none⟩) i cap, .int .i64 ((xs.length : Int) + 1 - (i : Int))]).run Tryz.prog w = .ok (.slice (some ⟨w.heap.size, 0, none⟩) (xs.length + 1) G) (w.drew.alloc (.cells ROW 40)) := fun ty => by
    have h := Lib.run_append_grow_zeros (P := Tryz.prog) w 33 3 ty 40 i0 _ .i64 .i64 Tryz.underlying33 Tryz.underlying3 hi0 hz0 (some ⟨g, 0, none⟩) i cap (flat (xs.take i)) hold (xs.length + 1 - i) (by omega) (by rw [hz1]; omega) (by omega) (by omega) (by rw [hz2]; omega) (by rw [hz2, hik]; exact growslice_fits hr (by omega))
    rw [hik] at h
    rw [hkk, hROW, hG]
    exact h
  have hGn : xs.length + 1 ≤ G := by rw [hG]; exact grownCap_ge w _ _ _
  have hGm : G ≤ maxLen := by rw [hG]; exact grownCap_le_maxLen w _ _ _ (by unfold maxLen; omega)
  have hG63 : G ≤ 9223372036854775807 := by unfold maxLen at hGm; omega
  obtain ⟨Z, hZ, hZl⟩ : ∃ Z : List Value, ROW = (flat (xs.take i) ++ Z).toArray ∧ Z.length = (G - i) * 2 :=
    ⟨(Builtin.zeroCells (Value.agg #[.int .u64 0, .int .i64 0]).cells (xs.length + 1 - i)).toList ++ (Builtin.zeroCells (Value.agg #[.int .u64 0, .int .i64 0]).cells (G - (xs.length + 1))).toList, by rw [hROW]; apply Array.ext'; simp, by
      have hz : ∀ n, (Builtin.zeroCells (Value.agg #[.int .u64 0, .int .i64 0]).cells n).size = n * 2 := fun n => by simp [Builtin.zeroCells, Value.cells]
      simp only [List.length_append, Array.length_toList, hz]; omega⟩
  have hRow := Lib.hid (row_grown x hZ hZl hGn hi)
  have hfl : Hid ((flat (xs.drop i)).length = (xs.length - i) * 2) := by show _ = _; simp
  have hgw : g < w.heap.size := (Array.getElem?_eq_some_iff.1 hg).1
  have hRs : Hid (ROW.size = G * 2) := by
    show _ = _
    rw [hZ]; simp [hZl]; omega
  have HG : Hid ((w.drew.alloc (.cells ROW 40)).heap[w.heap.size]? = some (.cells ROW 40 (0, 0))) := heap_alloc_new w.drew _
  have o1 : Hid (Only [] w (w.drew.alloc (.cells ROW 40))) := (Only.refl [] w).drew.alloc _
  have HB := Lib.hid hb
  have HC := Lib.hid hsrc
  have hS : Hid (w.heap.size ≤ (w.drew.alloc (.cells ROW 40)).heap.size) := o1.out.size
  obtain ⟨N, eN⟩ : ∃ N, w.heap.size = N := ⟨_, rfl⟩
  have HN := Lib.hid eN
  rw [eN] at hrz HG hgw hS
  have i1 : (i : Int) < (xs.length : Int) := by omega
  have i2 : ¬ ((i : Int) = (xs.length : Int)) := by omega
  have i3 : ¬ (cap = i) := by omega
  have i5 : (cap : Int) < (xs.length : Int) + 1 := by omega
  have hGi : ¬ (G = i) := by omega
  have hGim : ¬ (G = i + 1) := by omega
  have i6 : cap ≤ 9223372036854775807 := by unfold maxLen at hcm; omega
  clear hg hb hs hc hcm eN h9 hsrc hold hkk hik hROW hG hi0 hz0 hz1 hz2 hZ hZl
  generalize hn : xs.length = n at *
  have hw1 : IntKind.i64.wrap ((i : Int) + 1) = (i : Int) + 1 := by rw [IntKind.wrap_i64]; omega
  have hb1 : (0 : Int) ≤ (i : Int) + 1 := by omega
  have hin : i ≤ n := by omega
  have htn : ((i : Int) + 1).toNat = i + 1 := by omega
  have hb3 : (i : Int) ≤ (n : Int) := by omega
  have hb5 : (i : Int) + 1 ≤ (n : Int) + 1 := by omega
  go_enter Tryz.func116, Tryz.ntmps116
  go_wp2_with (first
    | (at_builtin; refine Lib.wpList_append_run _ rfl _ _ _ _ rfl _ _ rfl rfl _ _ (hrz _) ?_)
    | (refine wpList_copy2 rfl (.tmp 43) (.tmp 44) rfl N (i * 2) (n + 1 - i) (G - i) ⟨vb, 0, none⟩ 1 1 rfl rfl ROW HG.out [.int .u64 x.k, .int .i64 x.i] 1 (Nat.min_eq_left (by omega)) rfl (box_src (HB.out.only o1.out (by simp))) (by rw [hRs.out]; simp; omega) (item_cells x) ?_; intro w2 h2 o2; have R2 := Lib.hid (And.intro h2 o2); clear h2 o2))
  go_region_law (refine step_copy2 rfl (.tmp 50) (.tmp 53) rfl N ((i + 1) * 2) (n + 1 - (i + 1)) (G - (i + 1)) ⟨g, i * 2, none⟩ (n - i) (cap - i) (by simp [Act.eval, Act.put]) (by simp [Act.eval, Act.put]) _ R2.out.1 (flat (xs.drop i)) (n - i) (by simp only [Nat.min_def]; split <;> omega) hfl.out (fun j v hj => by
      have hb : ((⟨g, i * 2, none⟩ : Addr).add j).block = g := by unfold Addr.add; split <;> rfl
      have hw := HN.out
      have h5 := ((o1.out.mono (T := [N]) (by simp)).trans' (show Only [N] (w.drew.alloc (.cells ROW 40)) w2 from R2.out.2)).cell (p := (⟨g, i * 2, none⟩ : Addr).add j) (by rw [hb]; omega) (by rw [hb]; simp; omega)
      exact h5.trans (HC.out j v hj)) (by rw [hfl.out, lay2_size (by rw [hRs.out]; simp; omega), hRs.out]; omega) (flat_one _) ?_; intro w3 h3 o3; have R3 := Lib.hid (And.intro h3 o3); clear h3 o3)
  go_wp2_with fail
  go_ret
  obtain ⟨h3, o3⟩ := R3.out
  have o9 : Only [] w w3 := (o1.out.trans (show Only [N] (w.drew.alloc (.cells ROW 40)) w2 from R2.out.2) (by simp [HN.out])).trans ((Only.refl [N] w2).drew.trans' o3) (by simp [HN.out])
  have el : (xs.take i ++ x :: xs.drop i).length = n + 1 := by simp; omega
  refine ⟨_, rfl, ⟨flat_length _, .inr ⟨N, G, _, congrArg (fun m => Value.slice _ m _) el.symm, Nat.zero_le _, h3, by rw [el]; omega, hGm, hRow.out.1, by rw [el]; exact hRow.out.2⟩⟩, o9.mono (by simp), .inr ⟨N, rfl, by rw [HN.out]; exact Nat.le_refl _⟩⟩

/-- One item put into a row that rises, at its place. -/
theorem insert_any (w : World) (v : Value) (xs : List It) (h : RowIs w v xs) (vb : Nat) (x : It) (hb : Box w vb x) (hne : v.ownBlock ≠ some vb) (i : Nat) (hi : i ≤ xs.length) (hl : xs.length ≤ 1000000) :
    Calls Tryz.prog 116 #[v, .int .i64 (i : Int), .slice (some ⟨vb, 0, none⟩) 1 1] w (Put w v (xs.take i ++ x :: xs.drop i)) := by
  by_cases he : i = xs.length
  · subst he
    rw [List.take_length, List.drop_length]
    exact insert_end w v xs h vb x hb hl
  · rcases h.2 with ⟨rfl, e⟩ | ⟨g, cap, cur, rfl, h0, hg, hn, hcm, hs, hc⟩
    · omega
    · have hvg : vb ≠ g := fun e => hne (by rw [e]; rfl)
      by_cases hr : xs.length + 1 ≤ cap
      · exact insert_room w g cap cur xs hg hs hc hcm vb x hb hvg i (by omega) hr hl
      · exact insert_grow w g cap cur xs hg hs hc hcm vb x hb hvg i (by omega) hn (by omega) hl
theorem ins_at (xs : List It) (y : It) : xs.take (at_ xs y) ++ y :: xs.drop (at_ xs y) = ins y xs := by
  unfold ins at_
  have e : xs.takeWhile (fun x => x.lt y) ++ xs.dropWhile (fun x => x.lt y) = xs := List.takeWhile_append_dropWhile
  have e1 : xs.take (xs.takeWhile fun x => x.lt y).length = xs.takeWhile (fun x => x.lt y) := by
    have := List.take_left (l₁ := xs.takeWhile fun x => x.lt y) (l₂ := xs.dropWhile fun x => x.lt y)
    rw [e] at this; exact this
  have e2 : xs.drop (xs.takeWhile fun x => x.lt y).length = xs.dropWhile (fun x => x.lt y) := by
    have := List.drop_left (l₁ := xs.takeWhile fun x => x.lt y) (l₂ := xs.dropWhile fun x => x.lt y)
    rw [e] at this; exact this
  rw [e1, e2]
end Go.Proofs.YtajhkdbldbifeaaGreatDoor

namespace Go.Proofs.YtajhkdbldbifeaaGreatDoor
set_option maxRecDepth 100000
open Go.RowKit
set_option linter.unusedVariables false
set_option linter.unusedSimpArgs false

theorem setCells_row (w : World) (g o : Nat) (cur : Array Value) (vs : List Value) (hg : w.heap[g]? = some (.cells cur 40 (0, 0))) (hfit : o + vs.length ≤ cur.size) (h1 : ∀ v ∈ vs, v.oneCell' = true) : w.setCells g o vs = w.setRow g (lay2 cur o vs) := by
  have a := run_storeCells_cells (P := Tryz.prog) g o vs 0 w (fun j hj => by rw [cell_of_row w g _ cur _ (0, 0) hg, Array.getElem?_eq_getElem (by omega)]; rfl) (fun j hj => by simp [World.frozen?, hg]) h1
  have b := run_storeCells_at Tryz.prog g o 40 vs 0 cur w hg (by simpa using hfit) h1
  rw [a] at b
  injection b with _ b
theorem item_zero : (Builtin.zeroCells (Value.agg #[.int .u64 0, .int .i64 0]).cells 1).toList = [.int .u64 0, .int .i64 0] := by kernel_rfl
theorem zero_item (w : World) : (zeroValue 40).run Tryz.prog w = .ok (.agg #[.int .u64 0, .int .i64 0]) w := by kernel_rfl
theorem run_clear2 (w : World) (ty : TypeId) (g o c : Nat) (cur : Array Value) (hg : w.heap[g]? = some (.cells cur 40 (0, 0))) (hfit : o + 2 ≤ cur.size) :
    (Builtin.clear_ #[33] ty #[.slice (some ⟨g, o, none⟩) 1 c]).run Tryz.prog w = .ok (.tuple #[]) (w.setRow g (lay2 cur o [.int .u64 0, .int .i64 0])) := by
  have b := run_storeCells_at Tryz.prog g o 40 [.int .u64 0, .int .i64 0] 0 cur w hg (by simpa using hfit) (item_cells ⟨0, 0⟩)
  simp only [Nat.add_zero] at b
  unfold lay2
  simp [Builtin.clear_, run_underlying Tryz.underlying33, zero_item, item_zero, b]

section
variable {w : World} {ops : Array Oper} {o : Oper} {a : Act} {K : Act → World → Prop} {Q : Exit → Act → World → Prop}
theorem wpList_clear2 {rest : List Oper} (hgd : o.guard = none) (d : Operand) (ho : o.op = .call { callee := .builtin .clear, args := #[d], argTypes := #[33] })
    (g off k c : Nat) (hk : k = 1) (hd : a.eval d = .slice (some ⟨g, off, none⟩) k c) (cur : Array Value) (hg : w.heap[g]? = some (.cells cur 40 (0, 0))) (hfit : off + 2 ≤ cur.size)
    (hK : ∀ w', w'.heap[g]? = some (.cells (lay2 cur off [.int .u64 0, .int .i64 0]) 40 (0, 0)) → Only [g] w w' → wpList Tryz.prog ops Q rest (a.put o.dst (.tuple #[])) w') : wpList Tryz.prog ops Q (o :: rest) a w := by
  subst hk
  refine wpList_plain hgd fun K hK' => ?_
  have r1 := run_clear2 w o.type g off c cur hg hfit
  unfold Oper.wp execOp
  simp only [ho, resolve, invoke, builtin, Sem.run_bind, Sem.run_pure, Result.andThen_ok, List.map_toArray, List.map_cons, List.map_nil, hd, r1]
  exact hK' _ _ (hK _ (setRow_heap w g _ _ _ _ hg) (Only.setRow w g _))
theorem step_append2 {E : Prop} (hgd : o.guard = none) (s x : Operand) (ho : o.op = .call { callee := .builtin .append, args := #[s, x], argTypes := #[33, 33] })
    (g n cap : Nat) (hs : a.eval s = .slice (some ⟨g, 0, none⟩) n cap) (ad : Addr) (m c : Nat) (hx : a.eval x = .slice (some ad) m c) (cur : Array Value) (hg : w.heap[g]? = some (.cells cur 40 (0, 0)))
    (cs : List Value) (hl : cs.length = m * 2) (hsrc : ∀ j v, cs[j]? = some v → w.cell? (ad.add j) = some v) (h1 : ∀ v ∈ cs, v.oneCell' = true) (N : Nat) (hN : n + m = N) (hroom : N ≤ cap) (hsz : cur.size = cap * 2)
    (hK : ∀ w', w'.heap[g]? = some (.cells (lay2 cur (n * 2) cs) 40 (0, 0)) → Only [g] w w' → K (a.put o.dst (.slice (some ⟨g, 0, none⟩) N cap)) w') :
    if Region.wanted o (yielded ops a.tmps) = true then Oper.wp Tryz.prog o a w K Q else E := by
  subst hN
  obtain ⟨i0, hi0, hz0, hz1, hz2⟩ := info_parts item_info
  refine step_append_room hgd s x 33 ho 40 i0 2 Tryz.underlying33 hi0 hz1 g 0 n cap hs ad m c cs hx hl hsrc h1 hroom (fun j hj => ⟨?_, ?_⟩) ?_
  · rw [cell_of_row w g _ cur _ (0, 0) hg, Array.getElem?_eq_getElem (by omega)]; rfl
  · simp [World.frozen?, hg]
  · rw [Nat.zero_add, setCells_row w g (n * 2) cur cs hg (by omega) h1]
    exact hK _ (setRow_heap w g _ _ _ _ hg) (Only.setRow w g _)
end
theorem row_less {cur : Array Value} {xs : List It} {cap i : Nat} (hs : cur.size = cap * 2) (hc : cur.toList.take (xs.length * 2) = flat xs) (hr : xs.length ≤ cap) (hi : i < xs.length) :
    (lay2 (lay2 cur (i * 2) (flat (xs.drop (i + 1)))) ((xs.length - 1) * 2) [Value.int .u64 0, Value.int .i64 0]).size = cap * 2 ∧
    (lay2 (lay2 cur (i * 2) (flat (xs.drop (i + 1)))) ((xs.length - 1) * 2) [Value.int .u64 0, Value.int .i64 0]).toList.take ((xs.length - 1) * 2) = flat (xs.eraseIdx i) := by
  have hl1 : (flat (xs.drop (i + 1))).length = (xs.length - (i + 1)) * 2 := by simp
  have hsz : (lay2 cur (i * 2) (flat (xs.drop (i + 1)))).size = cur.size := lay2_size (by rw [hl1]; omega)
  refine ⟨by rw [lay2_size (by simp; omega), hsz, hs], ?_⟩
  have e0 : (lay2 (lay2 cur (i * 2) (flat (xs.drop (i + 1)))) ((xs.length - 1) * 2) [Value.int .u64 0, Value.int .i64 0]).toList.take ((xs.length - 1) * 2) = (lay2 cur (i * 2) (flat (xs.drop (i + 1)))).toList.take ((xs.length - 1) * 2) := by
    generalize hL : lay2 cur (i * 2) (flat (xs.drop (i + 1))) = L at *
    unfold lay2
    rw [List.toList_toArray, List.append_assoc, List.take_append_of_le_length (by simp; omega), List.take_take, Nat.min_self]
  rw [e0]
  obtain ⟨T, hT⟩ : ∃ T, cur.toList = flat xs ++ T := ⟨cur.toList.drop (xs.length * 2), by rw [← hc, List.take_append_drop]⟩
  have hx : flat xs = flat (xs.take i) ++ flat (xs.drop i) := by rw [← flat_append, List.take_append_drop]
  have hlA : (flat (xs.take i)).length = i * 2 := by simp; omega
  have ecur : cur = (flat (xs.take i) ++ (flat (xs.drop i) ++ T)).toArray := by
    apply Array.ext'
    rw [hT, hx]
    simp
  have e1 : lay2 cur (i * 2) (flat (xs.drop (i + 1))) = (flat (xs.take i) ++ flat (xs.drop (i + 1)) ++ (flat (xs.drop i) ++ T).drop (flat (xs.drop (i + 1))).length).toArray := by
    conv => lhs; rw [ecur]
    rw [lay2_behind hlA]
  rw [e1, List.toList_toArray, List.take_append_of_le_length (by simp; omega), List.take_of_length_le (by simp; omega), ← flat_append, ← List.eraseIdx_eq_take_drop_succ]

set_option maxRecDepth 100000 in
set_option maxHeartbeats 4000000 in
theorem delete_any (w : World) (v : Value) (xs : List It) (h : RowIs w v xs) (i : Nat) (hi : i < xs.length) (hl : xs.length ≤ 1000000) :
    Calls Tryz.prog 120 #[v, .int .i64 (i : Int), .int .i64 ((i : Int) + 1)] w (Put w v (xs.eraseIdx i)) := by
  rcases h.2 with ⟨rfl, e⟩ | ⟨g, cap, cur, rfl, h0, hg, hn, hcm, hs, hc⟩
  · omega
  have hRow := Lib.hid (row_less hs hc hn hi)
  have hfl : Hid ((flat (xs.drop (i + 1))).length = (xs.length - (i + 1)) * 2) := by show _ = _; simp
  obtain ⟨ad, hA, hsrc⟩ : ∃ ad : Addr, (if cap = i + 1 then (⟨g, 0, none⟩ : Addr) else ⟨g, (i + 1) * 2, none⟩) = ad ∧ Hid (∀ j v, (flat (xs.drop (i + 1)))[j]? = some v → w.drew.cell? (ad.add j) = some v) := by
    refine ⟨_, rfl, fun j v hj => ?_⟩
    have hne : xs.drop (i + 1) ≠ [] := by intro e; rw [e] at hj; simp [flat] at hj
    have hlt : i + 1 < xs.length := by
      rcases Nat.lt_or_ge (i + 1) xs.length with h1 | h1
      · exact h1
      · exact absurd (List.drop_eq_nil_of_le h1) hne
    rw [if_neg (by omega)]
    obtain ⟨ad, e, h8⟩ := Src.drop h (i + 1) hne
    injection e with e
    subst e
    exact h8 j v hj
  have HG := Lib.hid hg
  have HS := Lib.hid hs
  have i1 : (i : Int) < (xs.length : Int) := by omega
  have i2 : (i : Int) + 1 ≤ (xs.length : Int) := by omega
  have i3 : ¬ (cap = i) := by omega
  have i6 : cap ≤ 9223372036854775807 := by unfold maxLen at hcm; omega
  clear hg hs hc h
  generalize hn' : xs.length = n at *
  have i7 : ¬ (cap = n - 1) := by omega
  have hw1 : IntKind.i64.wrap ((i : Int) + 1) = (i : Int) + 1 := by rw [IntKind.wrap_i64]; omega
  have hb1 : (0 : Int) ≤ (i : Int) + 1 := by omega
  have hin : i ≤ n := by omega
  have htn : ((i : Int) + 1).toNat = i + 1 := by omega
  have hic : i ≤ cap := by omega
  have hic2 : i + 1 ≤ cap := by omega
  have hne : ¬ ((i : Int) = (i : Int) + 1) := by omega
  have hii : (i : Int) ≤ (i : Int) + 1 := by omega
  rcases Decidable.em (cap = i + 1) with rfl | hca
  · rw [if_pos rfl] at hA
    subst hA
    go_enter Tryz.func120, Tryz.ntmps120
    go_wp2_with fail
    go_region_law (refine step_append2 rfl (.tmp 22) (.tmp 25) rfl g i (i + 1) (by simp [Act.eval, Act.put]) _ 0 0 (by simp [Act.eval, Act.put]) cur HG.out (flat (xs.drop (i + 1))) (by rw [hfl.out]; omega) hsrc.out (flat_one _) (n - 1) (by omega) (by omega) HS.out ?_; intro w2 h2 o2; have R2 := Lib.hid (And.intro h2 o2); clear h2 o2)
    go_wp2_with (refine wpList_clear2 rfl (.tmp 31) rfl g ((n - 1) * 2) (n - (n - 1)) _ (by omega) rfl _ R2.out.1 (by rw [lay2_size (by rw [hfl.out, HS.out]; omega), HS.out]; omega) ?_; intro w3 h3 o3; have R3 := Lib.hid (And.intro h3 o3); clear h3 o3)
    go_ret
    obtain ⟨h3, o3⟩ := R3.out
    have o9 : Only [g] w w3 := ((Only.refl [g] w).drew.trans' R2.out.2).trans' o3
    have el : (xs.eraseIdx i).length = n - 1 := by rw [List.length_eraseIdx_of_lt (by omega)]; omega
    exact ⟨_, rfl, ⟨flat_length _, .inr ⟨g, i + 1, _, congrArg (fun m => Value.slice _ m _) el.symm, Nat.zero_le _, h3, by rw [el]; omega, hcm, hRow.out.1, by rw [el]; exact hRow.out.2⟩⟩, o9, .inl rfl⟩
  · rw [if_neg hca] at hA
    subst hA
    go_enter Tryz.func120, Tryz.ntmps120
    go_wp2_with fail
    go_region_law (refine step_append2 rfl (.tmp 22) (.tmp 25) rfl g i cap (by simp [Act.eval, Act.put]) _ (n - (i + 1)) (cap - (i + 1)) (by simp [Act.eval, Act.put]) cur HG.out (flat (xs.drop (i + 1))) hfl.out hsrc.out (flat_one _) (n - 1) (by omega) (by omega) HS.out ?_; intro w2 h2 o2; have R2 := Lib.hid (And.intro h2 o2); clear h2 o2)
    go_wp2_with (refine wpList_clear2 rfl (.tmp 31) rfl g ((n - 1) * 2) (n - (n - 1)) _ (by omega) rfl _ R2.out.1 (by rw [lay2_size (by rw [hfl.out, HS.out]; omega), HS.out]; omega) ?_; intro w3 h3 o3; have R3 := Lib.hid (And.intro h3 o3); clear h3 o3)
    go_ret
    obtain ⟨h3, o3⟩ := R3.out
    have o9 : Only [g] w w3 := ((Only.refl [g] w).drew.trans' R2.out.2).trans' o3
    have el : (xs.eraseIdx i).length = n - 1 := by rw [List.length_eraseIdx_of_lt (by omega)]; omega
    exact ⟨_, rfl, ⟨flat_length _, .inr ⟨g, cap, _, congrArg (fun m => Value.slice _ m _) el.symm, Nat.zero_le _, h3, by rw [el]; omega, hcm, hRow.out.1, by rw [el]; exact hRow.out.2⟩⟩, o9, .inl rfl⟩
end Go.Proofs.YtajhkdbldbifeaaGreatDoor
