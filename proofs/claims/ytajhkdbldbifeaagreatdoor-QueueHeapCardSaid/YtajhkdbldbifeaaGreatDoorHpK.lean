/-
  Contracts of the heap's compare, of slices.Clone and slices.SortFunc at items, of the heap's All.
-/
import Derived.Test.YtajhkdbldbifeaaGreatDoorGmI
import Derived.Test.YtajhkdbldbifeaaGreatDoorGmH
import Derived.Test.YtajhkdbldbifeaaGreatDoorHpL
namespace Go.Proofs.YtajhkdbldbifeaaGreatDoor
set_option maxRecDepth 100000
open Go.RowKit Go.Shelf Go.Lib Go.Sort
set_option linter.unusedVariables false
set_option linter.unusedSimpArgs false

theorem grow_two (w : World) (a b : Obj) : ∃ os, (w.alloc a).alloc b = grow w os := ⟨#[a] ++ #[b], by rw [alloc_eq_grow, alloc_eq_grow, grow_grow]⟩
set_option maxHeartbeats 400000 in
/-- tag.Ahead, with the blocks that it lays. -/
theorem ahead_lays (x y : It) (w : World) :
    Calls Tryz.prog 110 #[.agg #[.int .u64 x.k, .int .i64 x.i], .agg #[.int .u64 y.k, .int .i64 y.i]] w fun e w' => e = .returned (.bool (x.lt y)) ∧ ∃ os, w' = grow w os := by
  unfold It.lt
  by_cases h : x.k = y.k
  · rw [h, ahead_same]
    go_enter Tryz.func110, Tryz.ntmps110
    go_wp2
    go_ret
    exact ⟨rfl, grow_two _ _ _⟩
  · rw [ahead_not _ _ h]
    have t : (x.k != y.k) = true := by simp; omega
    go_enter Tryz.func110, Tryz.ntmps110
    go_wp2
    go_ret
    exact ⟨rfl, grow_two _ _ _⟩

def cmpOf (x y : It) : Int := if x.lt y then -1 else if y.lt x then 1 else 0
theorem lt_cmpOf (x y : It) : ltOf cmpOf x y = x.lt y := by
  unfold ltOf cmpOf
  rcases x.lt y with _ | _
  · rcases y.lt x with _ | _ <;> decide
  · simp
theorem swo_cmp : SWO (ltOf cmpOf) where
  irrefl x := by rw [lt_cmpOf]; exact It.irrefl x
  trans x y z h1 h2 := by rw [lt_cmpOf] at *; exact It.trans h1 h2
  ntrans x y z h1 h2 := by rw [lt_cmpOf] at *; exact It.le_trans (x := z) (y := y) (z := x) h2 h1
theorem Only.of_grow (w : World) (os : Array Obj) : Only [] w (grow w os) :=
  ⟨rfl, rfl, rfl, by simp, fun k hk _ => by unfold grow; simp [Array.getElem?_append_left hk]⟩

set_option maxRecDepth 100000 in
set_option maxHeartbeats 1000000 in
theorem hcompare (x y : It) (w : World) :
    Calls Tryz.prog 90 #[.agg #[.int .u64 x.k, .int .i64 x.i], .agg #[.int .u64 y.k, .int .i64 y.i]] w fun e w' => e = .returned (.int .i64 (cmpOf x y)) ∧ ∃ q os, w' = grow (w.drewN q) os := by
  unfold cmpOf
  have hW := grow_two w (.cells #[.int .u64 x.k, .int .i64 x.i] 40) (.cells #[.int .u64 y.k, .int .i64 y.i] 40)
  have bX : Box ((w.alloc (.cells #[.int .u64 x.k, .int .i64 x.i] 40)).alloc (.cells #[.int .u64 y.k, .int .i64 y.i] 40)) w.heap.size x :=
    (Box.new w x).only ((Only.refl [] _).alloc _) (by simp)
  have bY : Box ((w.alloc (.cells #[.int .u64 x.k, .int .i64 x.i] 40)).alloc (.cells #[.int .u64 y.k, .int .i64 y.i] 40)) (w.heap.size + 1) y := by
    have := Box.new (w.alloc (.cells #[.int .u64 x.k, .int .i64 x.i] 40)) y
    simpa using this
  have a1 := ahead_lays x y ((w.alloc (.cells #[.int .u64 x.k, .int .i64 x.i] 40)).alloc (.cells #[.int .u64 y.k, .int .i64 y.i] 40))
  have HW := Lib.hid (And.intro hW (And.intro bX bY))
  clear hW bX bY
  rcases h1 : x.lt y with _ | _
  · rw [h1] at a1
    rcases h2 : y.lt x with _ | _
    all_goals
      go_enter Tryz.func90, Tryz.ntmps90
      go_wp2_with fail
      refine a1.mono ?_
      rintro e w1 ⟨rfl, os, ew⟩
      have bX1 : Box w1 w.heap.size x := by rw [ew]; exact HW.out.2.1.only (Only.of_grow _ os) (by simp)
      have bY1 : Box w1 (w.heap.size + 1) y := by rw [ew]; exact HW.out.2.2.only (Only.of_grow _ os) (by simp)
      have HE := Lib.hid ew
      have x0 := bX1.c0
      have x1 := bX1.c1
      have y0 := bY1.c0
      have y1 := bY1.c1
      have a2 := ahead_lays y x w1
      rw [h2] at a2
      clear ew bX1 bY1
      go_wp2_with fail
      refine a2.mono ?_
      rintro e w2 ⟨rfl, os2, ew2⟩
      have HE2 := Lib.hid ew2
      clear ew2
      go_wp2_with fail
      go_ret
      obtain ⟨os0, e0⟩ := HW.out.1
      refine ⟨rfl, 0, os0 ++ (os ++ os2), ?_⟩
      rw [HE2.out, HE.out, e0, grow_grow, grow_grow]
      rfl
  · rw [h1] at a1
    go_enter Tryz.func90, Tryz.ntmps90
    go_wp2_with fail
    refine a1.mono ?_
    rintro e w1 ⟨rfl, os, ew⟩
    have HE := Lib.hid ew
    clear ew
    go_wp2_with fail
    go_ret
    obtain ⟨os0, e0⟩ := HW.out.1
    refine ⟨rfl, 0, os0 ++ os, ?_⟩
    rw [HE.out, e0, grow_grow]
    rfl

theorem cmpLays (blk off size : Nat) (w : World) : CmpLays Tryz.prog 90 #[] It.cs 2 cmpOf blk off size w :=
  fun _ _ _ _ x y => hcompare x y _

/-! ### the sort's world -/
theorem sort_only (w : World) (blk n : Nat) (d : Array It) (os : Array Obj) : Only [blk] w (sortWorldK It.cs 2 w blk 0 n d os) := by
  refine ⟨rfl, rfl, rfl, size_sortWorldK_c It.cs 2 w blk 0 n d os, fun k hk hne => ?_⟩
  simp only [List.mem_singleton] at hne
  unfold sortWorldK putRowK putRow mapBlock grow
  rw [Array.getElem?_append_left (by simp [Sort.ahead]; exact hk)]
  simp only [Sort.ahead, Array.getElem?_modify]
  rw [if_neg (by omega)]
theorem sort_blk {w : World} {blk : Nat} {cur : Array Value} {t : TypeId} (n : Nat) (d : Array It) (os : Array Obj) (hb : w.heap[blk]? = some (.cells cur t (0, 0))) :
    (sortWorldK It.cs 2 w blk 0 n d os).heap[blk]? = some (.cells (putCells id 0 (flatK It.cs 2 d) cur) t (0, 0)) := by
  have hlt : blk < w.heap.size := (Array.getElem?_eq_some_iff.1 hb).1
  unfold sortWorldK putRowK putRow mapBlock grow
  rw [Array.getElem?_append_left (by simp [Sort.ahead]; exact hlt)]
  simp only [Sort.ahead, Array.getElem?_modify, if_true]
  rw [hb]
  rfl
theorem get_bang {d : Array It} {j : Nat} (h : j < d.size) : d[j]! = gOf d.toList j := by
  rw [gOf_get (by simpa using h), getElem!_pos d j h]
  simp
theorem flatK_get (d : Array It) (t : Nat) (ht : t < d.size * 2) : (flat d.toList)[t]? = some ((flatK It.cs 2 d)[t]!) := by
  rw [get_flatK It.cs 2 d t ht]
  have hq : t / 2 < d.size := by omega
  rw [get_bang hq]
  have hk := flat_key d.toList (t / 2) (by simpa using hq)
  rcases Nat.mod_two_eq_zero_or_one t with h0 | h0
  · have e : t / 2 * 2 = t := by omega
    rw [e] at hk
    rw [hk.1, h0]
    rfl
  · have e : t / 2 * 2 + 1 = t := by omega
    rw [e] at hk
    rw [hk.2, h0]
    rfl
theorem row_holds {w : World} {g n cap : Nat} {xs : List It} (h : RowIs w (.slice (some ⟨g, 0, none⟩) n cap) xs) : HoldsK It.cs 2 w g 0 xs.toArray := by
  intro j hj
  simp only [size_flatK, List.size_toArray] at hj
  obtain ⟨g', cap', e, -, -, -, -, hc⟩ := h.at_ (by omega)
  have eg : g = g' := by injection e with e _ _; injection e with e; injection e
  subst eg
  have hf := flatK_get xs.toArray j (by simpa using hj)
  have hq : j / 2 < xs.length := by omega
  obtain ⟨c0, c1, f0, f1⟩ := hc (j / 2) hq
  have hk := flat_key xs (j / 2) hq
  rw [Nat.zero_add]
  simp only [List.toList_toArray] at hf
  rcases Nat.mod_two_eq_zero_or_one j with h0 | h0
  · have e9 : j / 2 * 2 = j := by omega
    rw [e9] at c0 f0 hk
    rw [hk.1] at hf
    refine ⟨?_, f0⟩
    rw [c0]; exact hf
  · have e9 : j / 2 * 2 + 1 = j := by omega
    rw [e9] at c1 f1 hk
    rw [hk.2] at hf
    refine ⟨?_, f1⟩
    rw [c1]; exact hf
theorem sort_row {w : World} {g n cap : Nat} {xs ys : List It} (h : RowIs w (.slice (some ⟨g, 0, none⟩) n cap) xs) (m : Nat) (os : Array Obj) (hl : ys.length = xs.length) :
    RowIs (sortWorldK It.cs 2 w g 0 m ys.toArray os) (.slice (some ⟨g, 0, none⟩) n cap) ys := by
  obtain ⟨h1, h2⟩ := h
  rcases h2 with ⟨e, _⟩ | ⟨g', cap', cur, e, h0, hg, hn, hc, hsz, hcur⟩
  · cases e
  · injection e with e1 e2 e3
    injection e1 with e1
    injection e1 with e1
    subst e1 e2 e3
    refine ⟨by simp, .inr ⟨g, cap, _, by rw [hl], h0, sort_blk m ys.toArray os hg, by rw [hl]; exact hn, hc, by simp [putCells, hsz], ?_⟩⟩
    apply List.ext_getElem?
    intro j
    rw [List.getElem?_take]
    by_cases hj : j < ys.length * 2
    · rw [if_pos hj]
      have hf := flatK_get ys.toArray j (by simpa using hj)
      simp only [List.toList_toArray] at hf
      rw [hf]
      have hjc : j < cur.size := by
        have h9 : ys.length * 2 ≤ cap * 2 := by rw [hl]; omega
        rw [hsz]; omega
      simp only [putCells, Array.getElem?_toList, Array.getElem?_mapIdx]
      rw [Array.getElem?_eq_getElem hjc]
      simp only [Option.map_some, Nat.zero_le, true_and, Nat.zero_add, size_flatK, List.size_toArray, hj, if_true, Nat.sub_zero, id]
    · rw [if_neg hj, List.getElem?_eq_none (by simp; omega)]

/-! ### slices.Clone -/
set_option maxRecDepth 100000 in
set_option maxHeartbeats 1000000 in
theorem hClone (w : World) (v : Value) (xs : List It) (h : RowIs w v xs) (hl : xs.length ≤ 1000000) :
    Calls Tryz.prog 88 #[v] w fun e w' => ∃ A cap, e = .returned (.slice A xs.length cap) ∧ RowIs w' (.slice A xs.length cap) xs ∧ (∀ k, (Value.slice A xs.length cap).ownBlock = some k → w.heap.size ≤ k) ∧ Only [] w w' := by
  have q22 : ∀ (w : World) (a : Option Addr) (n c n' c' : Nat), (binOp .eql 33 (.slice a n c) (.slice none n' c')).run Tryz.prog w = .ok (.bool a.isNone) w := fun w a n c n' c' => Lib.run_eql_slice_nil w _ _ a n c n' c' Tryz.underlying33
  rcases h.2 with ⟨rfl, e⟩ | ⟨g, cap, cur, rfl, hrest⟩
  · have hx : xs = [] := List.length_eq_zero_iff.1 e
    subst hx
    go_enter Tryz.func88, Tryz.ntmps88
    go_wp2
    go_ret
    exact ⟨none, 0, rfl, RowIs.nil _, by simp [Value.ownBlock], Only.refl _ _⟩
  · have H := Lib.hid h
    have oA : Only [] w (w.alloc (.cells #[] 40)) := (Only.refl [] w).alloc _
    have hr0 : Hid (RowIs (w.alloc (.cells #[] 40)) (.slice (some ⟨w.heap.size, 0, none⟩) 0 0) []) := ⟨rfl, .inr ⟨w.heap.size, 0, #[], rfl, Nat.zero_le _, heap_alloc_new w _, Nat.le_refl _, Nat.zero_le _, rfl, rfl⟩⟩
    have HO := Lib.hid oA
    clear hrest h oA
    go_enter Tryz.func88, Tryz.ntmps88
    go_wp2_with (first
      | (at_builtin
         refine wpList_append_row rfl (.tmp 5) (.tmp 6) rfl (.slice (some ⟨w.heap.size, 0, none⟩) 0 0) [] rfl hr0.out _ _ _ xs rfl rfl ((Src.of_row H.out).only HO.out (by simp)) xs.length (by simp) (by omega) ?_
         intro A1 cap1 w1 r1 g1 l1
         have q1 : Only [] w w1 := HO.out.grown g1 (by simp [Value.ownBlock])
         have v1 := own_fresh (B := w.heap.size) l1 (by simp [Value.ownBlock]) (by simp)
         have R1 := Lib.hid (And.intro r1 (And.intro q1 v1))
         clear r1 g1 l1 q1 v1))
    go_ret
    exact ⟨A1, cap1, rfl, R1.out.1, R1.out.2.2, R1.out.2.1⟩

/-- What the sort makes of a list whose IDs differ: the list that rises. -/
theorem sorted_is {xs l : List It} (hp : xs.Perm l) (hr : Rises l) (hi : Ids xs) : (xs.mergeSort fun x y => !(ltOf cmpOf) y x) = l := by
  have e : (fun x y => !(ltOf cmpOf) y x) = fun x y : It => !(y.lt x) := by funext x y; rw [lt_cmpOf]
  rw [e]
  have p1 := List.mergeSort_perm xs (fun x y : It => !(y.lt x))
  have p2 := List.pairwise_mergeSort (le := fun x y : It => !(y.lt x)) (fun a b c h1 h2 => by
      simp only [Bool.not_eq_true'] at *
      exact It.le_trans (x := a) (y := b) (z := c) h1 h2)
    (fun a b => by
      rcases h : b.lt a with _ | _
      · simp
      · have : a.lt b = false := It.le_of_lt h
        simp [this]) xs
  refine Rises.eq_of_perm ?_ hr (p1.trans hp)
  have hn : (xs.mergeSort (fun x y : It => !(y.lt x))).Pairwise (fun x y => x.i ≠ y.i) := by
    have := hi.perm p1.symm
    unfold Ids List.Nodup at this
    rw [List.pairwise_map] at this
    exact this
  refine (p2.and hn).imp ?_
  intro x y ⟨h1, h2⟩
  simp only [Bool.not_eq_true'] at h1
  exact It.lt_of_le_ne h1 (fun e => h2 (by rw [e]))

set_option maxRecDepth 100000 in
set_option maxHeartbeats 1000000 in
theorem hSort (w : World) (A : Option Addr) (cap : Nat) (xs l : List It) (h : RowIs w (.slice A xs.length cap) xs) (hp : xs.Perm l) (hr : Rises l) (hi : Ids xs) (hl : xs.length ≤ 1000000) :
    Calls Tryz.prog 89 #[.slice A xs.length cap, .func (.func 90) #[] #[]] w fun e w' => e = .returned (.tuple #[]) ∧ RowIs w' (.slice A xs.length cap) l ∧ Only (Value.slice A xs.length cap).ownBlock.toList w w' := by
  by_cases h0 : 0 < xs.length
  · obtain ⟨g, cap', e, -, -, hg, -, -⟩ := h.at_ h0
    injection e with e1 e2 e3
    subst e1
    have eg : ∀ args w, (callFunc 90 args).run Tryz.prog w = .ok (.enter 90 args) w := enters_of Tryz.func90 (by kernel_rfl) rfl
    have hcon := AnyQ.slices_SortFunc_total Tryz.sortItems 2 Tryz.isAgg40 Tryz.sizeOf40 It.cs (fun _ => rfl) (fun x v hv => by simp [It.cs] at hv; rcases hv with rfl | rfl <;> rfl) cmpOf swo_cmp 90 #[] g 0 cap xs.toArray w eg (cmpLays g 0 _ w) (row_holds h) hg (by simp; omega)
      (fun x y h1 h2 => by rw [lt_cmpOf] at *; exact It.eq_of h1 h2)
    change Calls Tryz.prog 89 _ _ _ at hcon
    simp only [List.size_toArray, List.toList_toArray] at hcon
    rw [sorted_is hp hr hi] at hcon
    refine hcon.mono ?_
    rintro e w' ⟨rfl, n, os, rfl⟩
    exact ⟨rfl, sort_row h n os hp.length_eq.symm, by simpa [Value.ownBlock] using sort_only w g n l.toArray os⟩
  · have hx : xs = [] := List.length_eq_zero_iff.1 (by omega)
    subst hx
    have hl0 : l = [] := hp.nil_eq.symm
    subst hl0
    have hcon := AnyF.slices_SortFunc_none Tryz.sortItems A cap (.func (.func 90) #[] #[]) w
    change Calls Tryz.prog 89 _ _ _ at hcon
    refine hcon.mono ?_
    rintro e w' ⟨rfl, rfl⟩
    exact ⟨rfl, h, Only.refl _ _⟩

set_option maxRecDepth 100000 in
set_option maxHeartbeats 1000000 in
theorem hAll (w : World) (hb : Nat) (S : List Nat) (l : List It) (h : HeapOf w hb S l) :
    Calls Tryz.prog 71 #[.pointer (some ⟨hb, 0, none⟩)] w fun e w' => ∃ A cap, e = .returned (.slice A l.length cap) ∧ RowIs w' (.slice A l.length cap) l ∧ (∀ k, (Value.slice A l.length cap).ownBlock = some k → w.heap.size ≤ k) ∧ Only [] w w' := by
  obtain ⟨v, mb, xs, rfl, h1, h2, h3, h4, h5⟩ := h
  obtain ⟨A, cap, ev⟩ := h1.row.form
  have c0 := h1.c0
  rw [ev] at c0
  have hcl := hClone w v xs h1.row (by rw [h3.length_eq]; exact h5)
  rw [ev] at hcl
  have HP := Lib.hid (And.intro h3 (And.intro h4 (And.intro h1.ids h5)))
  rw [← h3.length_eq]
  clear h1 h2 h3 h4 h5 ev
  go_enter Tryz.func71, Tryz.ntmps71
  go_wp2_with fail
  refine hcl.mono ?_
  rintro e w1 ⟨A1, cap1, rfl, r1, v1, o1⟩
  have hso := hSort w1 A1 cap1 xs l r1 HP.out.1 HP.out.2.1 HP.out.2.2.1 (by rw [HP.out.1.length_eq]; exact HP.out.2.2.2)
  have R1 := Lib.hid (And.intro v1 o1)
  clear r1 v1 o1 hcl
  go_wp2_with fail
  refine hso.mono ?_
  rintro e w2 ⟨rfl, r2, o2⟩
  have R2 := Lib.hid (And.intro r2 o2)
  clear r2 o2 hso
  go_wp2_with fail
  go_ret
  exact ⟨A1, cap1, rfl, R2.out.1, R1.out.1, R1.out.2.trans R2.out.2 (fun k hk => .inr (R1.out.1 k (by simpa using hk)))⟩
end Go.Proofs.YtajhkdbldbifeaaGreatDoor
