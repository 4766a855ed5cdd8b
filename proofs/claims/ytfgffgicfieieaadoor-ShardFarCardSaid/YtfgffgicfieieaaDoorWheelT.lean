/-
  Contracts of slices.Insert (one item) and slices.Delete (one item), at items.
-/
import Derived.Test.YtfgffgicfieieaaDoorWheelS
namespace Go.Proofs.YtfgffgicfieieaaDoor
set_option maxRecDepth 100000
open Go.RowKit
set_option linter.unusedVariables false
set_option linter.unusedSimpArgs false

theorem Src.box {w : World} {b : Nat} {x : It} (h : Box w b x) : Src w (some ⟨b, 0, none⟩) [x] := fun _ => ⟨_, rfl, fun j u hu => box_src h j u (by simpa [flat, It.cs] using hu)⟩

/-- What comes of an item put into a row. -/
def Put (w : World) (v : Value) (zs : List It) (e : Ending) (w' : World) : Prop :=
  ∃ v', e = .returned v' ∧ RowIs w' v' zs ∧ Only v.ownBlock.toList w w' ∧ (v'.ownBlock = v.ownBlock ∨ ∃ g, v'.ownBlock = some g ∧ w.heap.size ≤ g)

set_option maxRecDepth 100000 in
set_option maxHeartbeats 2000000 in
theorem insert_end (w : World) (v : Value) (xs : List It) (h : RowIs w v xs) (vb : Nat) (x : It) (hb : Box w vb x) (hl : xs.length ≤ 1000000) :
    Calls Tryd.prog 75 #[v, .int .i64 (xs.length : Int), .slice (some ⟨vb, 0, none⟩) 1 1] w (Put w v (xs ++ [x])) := by
  obtain ⟨A, cap, ev⟩ := h.form
  have hcap : xs.length ≤ cap := by
    rcases h.2 with ⟨e, e2⟩ | ⟨g, cap', cur, e, _, _, hn, _⟩
    · rw [ev] at e; injection e; omega
    · rw [ev] at e; injection e; omega
  subst ev
  have hA : A = none ∨ ∃ g, A = some ⟨g, 0, none⟩ := by
    rcases h.2 with ⟨e, e2⟩ | ⟨g, cap', cur, e, _, _, hn, _⟩
    · injection e with e; exact .inl e
    · injection e with e; exact .inr ⟨g, e⟩
  have H := Lib.hid h
  have HB := Lib.hid hb
  clear h hb
  generalize hn : xs.length = n at *
  have HN := Lib.hid hn
  clear hn
  rcases hA with rfl | ⟨g, rfl⟩
  all_goals
    go_enter Tryd.func75, Tryd.ntmps75
    go_wp2_with (at_builtin
                 refine wpList_append_row rfl (.tmp 23) (.tmp 24) rfl _ xs rfl H.out _ 1 _ [x] rfl rfl (Src.box HB.out) (n + 1) (by rw [HN.out]) (by omega) ?_
                 intro A2 cap2 w2 r2 g2 l2
                 have R2 := Lib.hid (And.intro r2 (And.intro g2 l2))
                 clear r2 g2 l2)
    all_goals
      go_ret
      obtain ⟨r2, g2, l2⟩ := R2.out
      refine ⟨_, rfl, r2, (Only.refl _ _).grown g2 (fun k hk => .inl (Option.mem_toList.2 hk)), ?_⟩
      rcases l2 with l2 | l2
      · exact .inl l2
      · exact .inr ⟨_, l2, Nat.le_refl _⟩

/-! ### rows with one more, one less -/
theorem row_shift {cur : Array Value} {xs : List It} {cap i : Nat} (x : It) (hs : cur.size = cap * 2) (hc : cur.toList.take (xs.length * 2) = flat xs) (hr : xs.length + 1 ≤ cap) (hi : i < xs.length) :
    (lay2 (lay2 cur ((i + 1) * 2) (flat (xs.drop i))) (i * 2) [Value.int .u64 x.k, Value.int .i64 x.i]).size = cap * 2 ∧
    (lay2 (lay2 cur ((i + 1) * 2) (flat (xs.drop i))) (i * 2) [Value.int .u64 x.k, Value.int .i64 x.i]).toList.take ((xs.length + 1) * 2) = flat (xs.take i ++ x :: xs.drop i) := by
  have hl1 : (flat (xs.drop i)).length = (xs.length - i) * 2 := by simp
  have hsz : (lay2 cur ((i + 1) * 2) (flat (xs.drop i))).size = cur.size := lay2_size (by rw [hl1]; omega)
  refine ⟨by rw [lay2_size (by simp; omega), hsz, hs], ?_⟩
  obtain ⟨T, hT⟩ : ∃ T, cur.toList = flat xs ++ T := ⟨cur.toList.drop (xs.length * 2), by rw [← hc, List.take_append_drop]⟩
  have hx : flat xs = flat (xs.take i) ++ flat (xs.drop i) := by rw [← flat_append, List.take_append_drop]
  have hlA : (flat (xs.take i)).length = i * 2 := by simp; omega
  have hD : flat (xs.drop i) = Value.int .u64 (xs[i]).k :: Value.int .i64 (xs[i]).i :: flat (xs.drop (i + 1)) := by rw [List.drop_eq_getElem_cons hi, flat_cons]
  have ecur : cur = ((flat (xs.take i) ++ [Value.int .u64 (xs[i]).k, Value.int .i64 (xs[i]).i]) ++ (flat (xs.drop (i + 1)) ++ T)).toArray := by
    apply Array.ext'
    rw [hT, hx, hD]
    simp
  have e1 : lay2 cur ((i + 1) * 2) (flat (xs.drop i)) = (flat (xs.take i) ++ ([Value.int .u64 (xs[i]).k, Value.int .i64 (xs[i]).i] ++ (flat (xs.drop i) ++ (flat (xs.drop (i + 1)) ++ T).drop (flat (xs.drop i)).length))).toArray := by
    conv => lhs; rw [ecur]
    rw [lay2_behind (by simp [hlA]; omega)]
    congr 1
    simp
  rw [e1, lay2_behind hlA]
  have e2 : flat (xs.take i ++ x :: xs.drop i) = flat (xs.take i) ++ ([Value.int .u64 x.k, Value.int .i64 x.i] ++ flat (xs.drop i)) := by rw [flat_append, flat_cons]; simp
  rw [e2]
  have e3 : ([Value.int .u64 (xs[i]).k, Value.int .i64 (xs[i]).i] ++ (flat (xs.drop i) ++ (flat (xs.drop (i + 1)) ++ T).drop (flat (xs.drop i)).length)).drop [Value.int .u64 x.k, Value.int .i64 x.i].length = flat (xs.drop i) ++ (flat (xs.drop (i + 1)) ++ T).drop (flat (xs.drop i)).length := by simp
  rw [e3]
  generalize (flat (xs.drop (i + 1)) ++ T).drop (flat (xs.drop i)).length = U
  rw [List.toList_toArray, ← List.append_assoc, List.take_append_of_le_length (by simp; omega)]
  rw [List.take_of_length_le (by simp; omega)]
  simp
theorem row_grown {ROW : Array Value} {Z : List Value} {xs : List It} {G i : Nat} (x : It) (hR : ROW = (flat (xs.take i) ++ Z).toArray) (hZ : Z.length = (G - i) * 2) (hr : xs.length + 1 ≤ G) (hi : i < xs.length) :
    (lay2 (lay2 ROW (i * 2) [Value.int .u64 x.k, Value.int .i64 x.i]) ((i + 1) * 2) (flat (xs.drop i))).size = G * 2 ∧
    (lay2 (lay2 ROW (i * 2) [Value.int .u64 x.k, Value.int .i64 x.i]) ((i + 1) * 2) (flat (xs.drop i))).toList.take ((xs.length + 1) * 2) = flat (xs.take i ++ x :: xs.drop i) := by
  have hl1 : (flat (xs.drop i)).length = (xs.length - i) * 2 := by simp
  have hlA : (flat (xs.take i)).length = i * 2 := by simp; omega
  have hRs : ROW.size = G * 2 := by rw [hR]; simp [hZ]; omega
  have hsz : (lay2 ROW (i * 2) [Value.int .u64 x.k, Value.int .i64 x.i]).size = ROW.size := lay2_size (by simp; omega)
  refine ⟨by rw [lay2_size (by rw [hl1, hsz]; omega), hsz, hRs], ?_⟩
  have e1 : lay2 ROW (i * 2) [Value.int .u64 x.k, Value.int .i64 x.i] = ((flat (xs.take i) ++ [Value.int .u64 x.k, Value.int .i64 x.i]) ++ Z.drop 2).toArray := by
    rw [hR, lay2_behind hlA]
    rfl
  rw [e1, lay2_behind (by simp [hlA]; omega)]
  have e2 : flat (xs.take i ++ x :: xs.drop i) = flat (xs.take i) ++ [Value.int .u64 x.k, Value.int .i64 x.i] ++ flat (xs.drop i) := by rw [flat_append, flat_cons]; simp
  rw [e2, List.toList_toArray, List.take_append_of_le_length (by simp; omega), List.take_of_length_le (by simp; omega)]

set_option maxRecDepth 100000 in
set_option maxHeartbeats 4000000 in
theorem insert_room (w : World) (g cap : Nat) (cur : Array Value) (xs : List It) (hg : w.heap[g]? = some (.cells cur 35 (0, 0))) (hs : cur.size = cap * 2) (hc : cur.toList.take (xs.length * 2) = flat xs) (hcm : cap ≤ maxLen)
    (vb : Nat) (x : It) (hb : Box w vb x) (hne : vb ≠ g) (i : Nat) (hi : i < xs.length) (hr : xs.length + 1 ≤ cap) (hl : xs.length ≤ 1000000) :
    Calls Tryd.prog 75 #[.slice (some ⟨g, 0, none⟩) xs.length cap, .int .i64 (i : Int), .slice (some ⟨vb, 0, none⟩) 1 1] w (Put w (.slice (some ⟨g, 0, none⟩) xs.length cap) (xs.take i ++ x :: xs.drop i)) := by
  have hov : ∀ lb cb, (callFunc 89 #[.slice (some ⟨vb, 0, none⟩) 1 1, .slice (some ⟨g, (i + 1) * 2, none⟩) lb cb]).run Tryd.prog w = .ok (.value (.bool false)) w := fun lb cb => by
    rw [run_callFunc_extern Tryd.func89 (by kernel_rfl) (by kernel_rfl) (by kernel_rfl) (e := Extern.SlicesOverlaps.overlaps #[38, 38] #[4]) (by kernel_rfl),
      Lib.run_overlaps_apart w 38 4 35 Tryd.underlying38 2 Tryd.sizeOf35 ⟨vb, 0, none⟩ ⟨g, (i + 1) * 2, none⟩ 1 1 lb cb hne 35 35 2 cur.size (by unfold Box at hb; simp [World.shape?, hb]) (by simp [World.shape?, hg]) (by omega) (hb.fr 0) (by unfold Box at hb; simp [World.frozen?, hb])]
    rfl
  have hRow := Lib.hid (row_shift x hs hc hr hi)
  have hsrc : Hid (∀ j v, (flat (xs.drop i))[j]? = some v → w.drew.cell? ((⟨g, i * 2, none⟩ : Addr).add j) = some v) := by
    have h9 : RowIs w (.slice (some ⟨g, 0, none⟩) xs.length cap) xs := ⟨by simp, .inr ⟨g, cap, cur, rfl, Nat.zero_le _, hg, by omega, hcm, hs, hc⟩⟩
    intro j v hj
    obtain ⟨ad, e, h8⟩ := Src.drop h9 i (by intro e; rw [e] at hj; simp [flat] at hj)
    injection e with e
    subst e
    exact h8 j v hj
  have hfl : Hid ((flat (xs.drop i)).length = (xs.length - i) * 2) := by show _ = _; simp
  have HG := Lib.hid hg
  have HB := Lib.hid hb
  have HS := Lib.hid hs
  have i1 : (i : Int) < (xs.length : Int) := by omega
  have i2 : ¬ ((i : Int) = (xs.length : Int)) := by omega
  have i3 : ¬ (cap = i) := by omega
  have i4 : ¬ (cap = i + 1) := by omega
  have i5 : (xs.length : Int) + 1 ≤ (cap : Int) := by omega
  have i6 : cap ≤ 9223372036854775807 := by unfold maxLen at hcm; omega
  clear hg hb hs hc hcm
  generalize hn : xs.length = n at *
  have hw1 : IntKind.i64.wrap ((i : Int) + 1) = (i : Int) + 1 := by rw [IntKind.wrap_i64]; omega
  have hb1 : (0 : Int) ≤ (i : Int) + 1 := by omega
  have hin : i ≤ n := by omega
  have htn : ((i : Int) + 1).toNat = i + 1 := by omega
  have hb3 : (i : Int) ≤ (n : Int) + 1 := by omega
  have hb5 : (i : Int) + 1 ≤ (n : Int) + 1 := by omega
  go_enter Tryd.func75, Tryd.ntmps75
  go_wp2_with (simp only [hov])
  go_region_law (refine step_copy2 rfl (.tmp 73) (.tmp 76) rfl g ((i + 1) * 2) (n + 1 - (i + 1)) (cap - (i + 1)) ⟨g, i * 2, none⟩ (n + 1 - i) (cap - i) (by simp [Act.eval, Act.put]) (by simp [Act.eval, Act.put]) cur HG.out (flat (xs.drop i)) (n - i) (by simp only [Nat.min_def]; split <;> omega) hfl.out hsrc.out (by rw [hfl.out, HS.out]; omega) (flat_one _) ?_; intro w2 h2 o2; have R2 := Lib.hid (And.intro h2 o2); clear h2 o2)
  go_wp2_with (refine wpList_copy2 rfl (.tmp 80) (.tmp 81) rfl g (i * 2) (n + 1 - i) (cap - i) ⟨vb, 0, none⟩ 1 1 rfl rfl _ R2.out.1 [.int .u64 x.k, .int .i64 x.i] 1 (by simp only [Nat.min_def]; split <;> omega) rfl (box_src (HB.out.only ((Only.refl [g] w).drew.trans' R2.out.2) (by simpa using hne))) (by rw [lay2_size (by rw [hfl.out, HS.out]; omega), HS.out]; simp; omega) (item_cells x) ?_; intro w3 h3 o3; have R3 := Lib.hid (And.intro h3 o3); clear h3 o3)
  go_ret
  obtain ⟨h3, o3⟩ := R3.out
  have o9 : Only [g] w w3 := ((Only.refl [g] w).drew.trans' R2.out.2).trans' o3
  have el : (xs.take i ++ x :: xs.drop i).length = n + 1 := by simp; omega
  refine ⟨_, rfl, ⟨flat_length _, .inr ⟨g, cap, _, congrArg (fun m => Value.slice _ m _) el.symm, Nat.zero_le _, h3, by rw [el]; omega, by unfold maxLen; omega, hRow.out.1, by rw [el]; exact hRow.out.2⟩⟩, o9, .inl rfl⟩

set_option maxRecDepth 100000 in
set_option maxHeartbeats 4000000 in
theorem insert_grow (w : World) (g cap : Nat) (cur : Array Value) (xs : List It) (hg : w.heap[g]? = some (.cells cur 35 (0, 0))) (hs : cur.size = cap * 2) (hc : cur.toList.take (xs.length * 2) = flat xs) (hcm : cap ≤ maxLen)
    (vb : Nat) (x : It) (hb : Box w vb x) (hne : vb ≠ g) (i : Nat) (hi : i < xs.length) (hlc : xs.length ≤ cap) (hr : cap < xs.length + 1) (hl : xs.length ≤ 1000000) :
    Calls Tryd.prog 75 #[.slice (some ⟨g, 0, none⟩) xs.length cap, .int .i64 (i : Int), .slice (some ⟨vb, 0, none⟩) 1 1] w (Put w (.slice (some ⟨g, 0, none⟩) xs.length cap) (xs.take i ++ x :: xs.drop i)) := by
  obtain ⟨i0, hi0, hz0, hz1, hz2⟩ := info_parts item_info
  have h9 : RowIs w (.slice (some ⟨g, 0, none⟩) xs.length cap) xs := ⟨by simp, .inr ⟨g, cap, cur, rfl, Nat.zero_le _, hg, by omega, hcm, hs, hc⟩⟩
  have hsrc : ∀ j v, (flat (xs.drop i))[j]? = some v → w.cell? ((⟨g, i * 2, none⟩ : Addr).add j) = some v := by
    intro j v hj
    obtain ⟨ad, e, h8⟩ := Src.drop h9 i (by intro e; rw [e] at hj; simp [flat] at hj)
    injection e with e
    subst e
    exact h8 j v hj
  have hold : (Builtin.firstCells i0.size i (.slice (some ⟨g, 0, none⟩) i cap)).run Tryd.prog w.drew = .ok (flat (xs.take i)).toArray w.drew := by
    rw [hz1]
    refine run_firstCells_some w.drew 2 i ⟨g, 0, none⟩ i cap (flat (xs.take i)) (by simp; omega) (fun j v hj => ?_)
    obtain ⟨ad, e, h8⟩ := Src.take h9 i (by intro e; rw [e] at hj; simp [flat] at hj)
    injection e with e
    subst e
    exact h8 j v hj
  have hkk : (xs.length : Int) + 1 - (i : Int) = ((xs.length + 1 - i : Nat) : Int) := by omega
  have hik : i + (xs.length + 1 - i) = xs.length + 1 := by omega
  obtain ⟨G, hG⟩ : ∃ G, G = grownCap w (xs.length + 1) cap 35 := ⟨_, rfl⟩
  obtain ⟨ROW, hROW⟩ : ∃ ROW : Array Value, ROW = (flat (xs.take i)).toArray ++ Builtin.zeroCells (Value.agg #[.int .u64 0, .int .i64 0]).cells (xs.length + 1 - i) ++ Builtin.zeroCells (Value.agg #[.int .u64 0, .int .i64 0]).cells (G - (xs.length + 1)) := ⟨_, rfl⟩
  have hrz : ∀ ty, (Builtin.append_ #[38, 3] ty #[.slice (some ⟨g, 0, none⟩) i cap, .int .i64 ((xs.length : Int) + 1 - (i : Int))]).run Tryd.prog w = .ok (.slice (some ⟨w.heap.size, 0, none⟩) (xs.length + 1) G) (w.drew.alloc (.cells ROW 35)) := fun ty => by
    have h := Lib.run_append_grow_zeros (P := Tryd.prog) w 38 3 ty 35 i0 _ .i64 .i64 Tryd.underlying38 Tryd.underlying3 hi0 hz0 (some ⟨g, 0, none⟩) i cap (flat (xs.take i)) hold (xs.length + 1 - i) (by omega) (by rw [hz1]; omega) (by omega) (by omega) (by rw [hz2]; omega) (by rw [hz2, hik]; exact growslice_fits hr (by omega))
    rw [hik] at h
    rw [hkk, hROW, hG]
    exact h
  have hGn : xs.length + 1 ≤ G := by rw [hG]; exact grownCap_ge w _ _ _
  have hGm : G ≤ maxLen := by rw [hG]; exact grownCap_le_maxLen w _ _ _ (by unfold maxLen; omega)
  have hG63 : G ≤ 9223372036854775807 := by unfold maxLen at hGm; omega
  obtain ⟨Z, hZ, hZl⟩ : ∃ Z : List Value, ROW = (flat (xs.take i) ++ Z).toArray ∧ Z.length = (G - i) * 2 :=
    ⟨(Builtin.zeroCells (Value.agg #[.int .u64 0, .int .i64 0]).cells (xs.length + 1 - i)).toList ++ (Builtin.zeroCells (Value.agg #[.int .u64 0, .int .i64 0]).cells (G - (xs.length + 1))).toList, by rw [hROW]; apply Array.ext'; simp, by
      have hz : ∀ n, (Builtin.zeroCells (Value.agg #[.int .u64 0, .int .i64 0]).cells n).size = n * 2 := fun n => by simp [Builtin.zeroCells, Value.cells]
      simp only [List.length_append, Array.length_toList, hz]; omega⟩
  have hRow := Lib.hid (row_grown x hZ hZl hGn hi)
  have hfl : Hid ((flat (xs.drop i)).length = (xs.length - i) * 2) := by show _ = _; simp
  have hgw : g < w.heap.size := (Array.getElem?_eq_some_iff.1 hg).1
  have hRs : Hid (ROW.size = G * 2) := by
    show _ = _
    rw [hZ]; simp [hZl]; omega
  have HG : Hid ((w.drew.alloc (.cells ROW 35)).heap[w.heap.size]? = some (.cells ROW 35 (0, 0))) := heap_alloc_new w.drew _
  have o1 : Hid (Only [] w (w.drew.alloc (.cells ROW 35))) := (Only.refl [] w).drew.alloc _
  have HB := Lib.hid hb
  have HC := Lib.hid hsrc
  have hS : Hid (w.heap.size ≤ (w.drew.alloc (.cells ROW 35)).heap.size) := o1.out.size
  obtain ⟨N, eN⟩ : ∃ N, w.heap.size = N := ⟨_, rfl⟩
  have HN := Lib.hid eN
  rw [eN] at hrz HG hgw hS
  have i1 : (i : Int) < (xs.length : Int) := by omega
  have i2 : ¬ ((i : Int) = (xs.length : Int)) := by omega
  have i3 : ¬ (cap = i) := by omega
  have i5 : (cap : Int) < (xs.length : Int) + 1 := by omega
  have hGi : ¬ (G = i) := by omega
  have hGim : ¬ (G = i + 1) := by omega
  have i6 : cap ≤ 9223372036854775807 := by unfold maxLen at hcm; omega
  clear hg hb hs hc hcm eN h9 hsrc hold hkk hik hROW hG hi0 hz0 hz1 hz2 hZ hZl
  generalize hn : xs.length = n at *
  have hw1 : IntKind.i64.wrap ((i : Int) + 1) = (i : Int) + 1 := by rw [IntKind.wrap_i64]; omega
  have hb1 : (0 : Int) ≤ (i : Int) + 1 := by omega
  have hin : i ≤ n := by omega
  have htn : ((i : Int) + 1).toNat = i + 1 := by omega
  have hb3 : (i : Int) ≤ (n : Int) := by omega
  have hb5 : (i : Int) + 1 ≤ (n : Int) + 1 := by omega
  go_enter Tryd.func75, Tryd.ntmps75
  go_wp2_with (first
    | (at_builtin; refine Lib.wpList_append_run _ rfl _ _ _ _ rfl _ _ rfl rfl _ _ (hrz _) ?_)
    | (refine wpList_copy2 rfl (.tmp 43) (.tmp 44) rfl N (i * 2) (n + 1 - i) (G - i) ⟨vb, 0, none⟩ 1 1 rfl rfl ROW HG.out [.int .u64 x.k, .int .i64 x.i] 1 (Nat.min_eq_left (by omega)) rfl (box_src (HB.out.only o1.out (by simp))) (by rw [hRs.out]; simp; omega) (item_cells x) ?_; intro w2 h2 o2; have R2 := Lib.hid (And.intro h2 o2); clear h2 o2))
  go_region_law (refine step_copy2 rfl (.tmp 50) (.tmp 53) rfl N ((i + 1) * 2) (n + 1 - (i + 1)) (G - (i + 1)) ⟨g, i * 2, none⟩ (n - i) (cap - i) (by simp [Act.eval, Act.put]) (by simp [Act.eval, Act.put]) _ R2.out.1 (flat (xs.drop i)) (n - i) (by simp only [Nat.min_def]; split <;> omega) hfl.out (fun j v hj => by
      have hb : ((⟨g, i * 2, none⟩ : Addr).add j).block = g := by unfold Addr.add; split <;> rfl
      have hw := HN.out
      have h5 := ((o1.out.mono (T := [N]) (by simp)).trans' (show Only [N] (w.drew.alloc (.cells ROW 35)) w2 from R2.out.2)).cell (p := (⟨g, i * 2, none⟩ : Addr).add j) (by rw [hb]; omega) (by rw [hb]; simp; omega)
      exact h5.trans (HC.out j v hj)) (by rw [hfl.out, lay2_size (by rw [hRs.out]; simp; omega), hRs.out]; omega) (flat_one _) ?_; intro w3 h3 o3; have R3 := Lib.hid (And.intro h3 o3); clear h3 o3)
  go_wp2_with fail
  go_ret
  obtain ⟨h3, o3⟩ := R3.out
  have o9 : Only [] w w3 := (o1.out.trans (show Only [N] (w.drew.alloc (.cells ROW 35)) w2 from R2.out.2) (by simp [HN.out])).trans ((Only.refl [N] w2).drew.trans' o3) (by simp [HN.out])
  have el : (xs.take i ++ x :: xs.drop i).length = n + 1 := by simp; omega
  refine ⟨_, rfl, ⟨flat_length _, .inr ⟨N, G, _, congrArg (fun m => Value.slice _ m _) el.symm, Nat.zero_le _, h3, by rw [el]; omega, hGm, hRow.out.1, by rw [el]; exact hRow.out.2⟩⟩, o9.mono (by simp), .inr ⟨N, rfl, by rw [HN.out]; exact Nat.le_refl _⟩⟩

/-- One item put into a row that rises, at its place. -/
theorem insert_any (w : World) (v : Value) (xs : List It) (h : RowIs w v xs) (vb : Nat) (x : It) (hb : Box w vb x) (hne : v.ownBlock ≠ some vb) (i : Nat) (hi : i ≤ xs.length) (hl : xs.length ≤ 1000000) :
    Calls Tryd.prog 75 #[v, .int .i64 (i : Int), .slice (some ⟨vb, 0, none⟩) 1 1] w (Put w v (xs.take i ++ x :: xs.drop i)) := by
  by_cases he : i = xs.length
  · subst he
    rw [List.take_length, List.drop_length]
    exact insert_end w v xs h vb x hb hl
  · rcases h.2 with ⟨rfl, e⟩ | ⟨g, cap, cur, rfl, h0, hg, hn, hcm, hs, hc⟩
    · omega
    · have hvg : vb ≠ g := fun e => hne (by rw [e]; rfl)
      by_cases hr : xs.length + 1 ≤ cap
      · exact insert_room w g cap cur xs hg hs hc hcm vb x hb hvg i (by omega) hr hl
      · exact insert_grow w g cap cur xs hg hs hc hcm vb x hb hvg i (by omega) hn (by omega) hl
theorem ins_at (xs : List It) (y : It) : xs.take (at_ xs y) ++ y :: xs.drop (at_ xs y) = ins y xs := by
  unfold ins at_
  have e : xs.takeWhile (fun x => x.lt y) ++ xs.dropWhile (fun x => x.lt y) = xs := List.takeWhile_append_dropWhile
  have e1 : xs.take (xs.takeWhile fun x => x.lt y).length = xs.takeWhile (fun x => x.lt y) := by
    have := List.take_left (l₁ := xs.takeWhile fun x => x.lt y) (l₂ := xs.dropWhile fun x => x.lt y)
    rw [e] at this; exact this
  have e2 : xs.drop (xs.takeWhile fun x => x.lt y).length = xs.dropWhile (fun x => x.lt y) := by
    have := List.drop_left (l₁ := xs.takeWhile fun x => x.lt y) (l₂ := xs.dropWhile fun x => x.lt y)
    rw [e] at this; exact this
  rw [e1, e2]
end Go.Proofs.YtfgffgicfieieaaDoor
