/-
  Ours: slices.SortFunc at turns; Starts.
-/
import Derived.Test.YtklolepmmabijaaGmU
import Derived.Test.YtklolepmmabijaaSfqL
import Derived.Test.YtklolepmmabijaaGmR
namespace Go.Proofs.Ytklolepmmabijaa
set_option maxRecDepth 100000
open Go.RowKit Go.Shelf Go.Lib Go.Sort
set_option linter.unusedVariables false
set_option linter.unusedSimpArgs false
set_option maxRecDepth 100000

/-! ### the sort -/
/-- Turns whose flow hangs on the number alone. -/
def tEf (f : Int → Nat) : El It 3 where
  T := 79
  cs := fun x => [.int .u64 x.k, .int .i64 x.i, .pointer (some ⟨f x.i, 0, none⟩)]
  z := .agg #[.int .u64 0, .int .i64 0, .pointer none]
  wide := 24
  len := fun _ => rfl
  one := fun x u hu => by
    simp at hu
    rcases hu with rfl | rfl | rfl <;> rfl
  pos := by decide
  info := by kernel_rfl
  zs := rfl
  small := by decide
def wf_ (f : Int → Nat) (x : It) : It × Nat := (x, f x.i)
theorem tEf_row {w : World} {v : Value} {f : Int → Nat} {xs : List It} : (tEf f).Row w v xs ↔ tE.Row w v (xs.map (wf_ f)) := by
  have e : (tEf f).flat xs = tE.flat (xs.map (wf_ f)) := by
    unfold El.flat
    rw [List.flatMap_map]
    rfl
  unfold El.Row
  rw [e, List.length_map]
  exact Iff.rfl
theorem grow_two (w : World) (a b : Obj) : ∃ os, (w.alloc a).alloc b = grow w os := ⟨#[a] ++ #[b], by rw [alloc_eq_grow, alloc_eq_grow, grow_grow]⟩
set_option maxHeartbeats 400000 in
/-- tag.Ahead, with the blocks that it lays. -/
theorem ahead_lays (x y : It) (w : World) :
    Calls Try.prog 51 #[.agg #[.int .u64 x.k, .int .i64 x.i], .agg #[.int .u64 y.k, .int .i64 y.i]] w fun e w' => e = .returned (.bool (x.lt y)) ∧ ∃ os, w' = grow w os := by
  unfold It.lt
  by_cases h : x.k = y.k
  · rw [h, ahead_same]
    go_enter Try.func51, Try.ntmps51
    go_wp2
    go_ret
    exact ⟨rfl, grow_two _ _ _⟩
  · rw [ahead_not _ _ h]
    have t : (x.k != y.k) = true := by simp; omega
    go_enter Try.func51, Try.ntmps51
    go_wp2
    go_ret
    exact ⟨rfl, grow_two _ _ _⟩
theorem lt_cmpT (x y : It) : ltOf cmpT x y = x.lt y := by
  unfold ltOf cmpT
  rcases x.lt y with _ | _
  · rcases y.lt x with _ | _ <;> decide
  · simp
theorem swo_cmpT : SWO (ltOf cmpT) where
  irrefl x := by rw [lt_cmpT]; exact It.irrefl x
  trans x y z h1 h2 := by rw [lt_cmpT] at *; exact It.trans h1 h2
  ntrans x y z h1 h2 := by rw [lt_cmpT] at *; exact It.le_trans (x := z) (y := y) (z := x) h2 h1
theorem Only.of_grow (w : World) (os : Array Obj) : Only [] w (grow w os) :=
  ⟨rfl, rfl, rfl, by simp, fun k hk _ => by unfold grow; simp [Array.getElem?_append_left hk]⟩
set_option maxHeartbeats 1000000 in
theorem sCompareG (x y : It × Nat) (w : World) :
    Calls Try.prog 35 #[.agg #[.int .u64 x.1.k, .int .i64 x.1.i, .pointer (some ⟨x.2, 0, none⟩)], .agg #[.int .u64 y.1.k, .int .i64 y.1.i, .pointer (some ⟨y.2, 0, none⟩)]] w fun e w' => e = .returned (.int .i64 (cmpT x.1 y.1)) ∧ ∃ q os, w' = grow (w.drewN q) os := by
  unfold cmpT
  have hW := grow_two w (.cells #[.int .u64 x.1.k, .int .i64 x.1.i, .pointer (some ⟨x.2, 0, none⟩)] 79) (.cells #[.int .u64 y.1.k, .int .i64 y.1.i, .pointer (some ⟨y.2, 0, none⟩)] 79)
  have bX : TBox ((w.alloc (.cells #[.int .u64 x.1.k, .int .i64 x.1.i, .pointer (some ⟨x.2, 0, none⟩)] 79)).alloc (.cells #[.int .u64 y.1.k, .int .i64 y.1.i, .pointer (some ⟨y.2, 0, none⟩)] 79)) w.heap.size x := (TBox.new w x).only ((Only.refl [] _).alloc _) (by simp)
  have bY : TBox ((w.alloc (.cells #[.int .u64 x.1.k, .int .i64 x.1.i, .pointer (some ⟨x.2, 0, none⟩)] 79)).alloc (.cells #[.int .u64 y.1.k, .int .i64 y.1.i, .pointer (some ⟨y.2, 0, none⟩)] 79)) (w.heap.size + 1) y := by
    have := TBox.new (w.alloc (.cells #[.int .u64 x.1.k, .int .i64 x.1.i, .pointer (some ⟨x.2, 0, none⟩)] 79)) y
    simpa using this
  have a1 := ahead_lays x.1 y.1 ((w.alloc (.cells #[.int .u64 x.1.k, .int .i64 x.1.i, .pointer (some ⟨x.2, 0, none⟩)] 79)).alloc (.cells #[.int .u64 y.1.k, .int .i64 y.1.i, .pointer (some ⟨y.2, 0, none⟩)] 79))
  have HW := Lib.hid (And.intro hW (And.intro bX bY))
  clear hW bX bY
  rcases h1 : x.1.lt y.1 with _ | _
  · rw [h1] at a1
    rcases h2 : y.1.lt x.1 with _ | _
    all_goals
      go_enter Try.func35, Try.ntmps35
      go_wp2_with fail
      refine a1.mono ?_
      rintro e w1 ⟨rfl, os, ew⟩
      have bX1 : TBox w1 w.heap.size x := by rw [ew]; exact HW.out.2.1.only (Only.of_grow _ os) (by simp)
      have bY1 : TBox w1 (w.heap.size + 1) y := by rw [ew]; exact HW.out.2.2.only (Only.of_grow _ os) (by simp)
      have HE := Lib.hid ew
      obtain ⟨x0, x1, x2⟩ := bX1.c
      obtain ⟨y0, y1, y2⟩ := bY1.c
      have a2 := ahead_lays y.1 x.1 w1
      rw [h2] at a2
      clear ew bX1 bY1
      go_wp2_with fail
      refine a2.mono ?_
      rintro e w2 ⟨rfl, os2, ew2⟩
      have HE2 := Lib.hid ew2
      clear ew2
      go_wp2_with fail
      go_ret
      obtain ⟨os0, e0⟩ := HW.out.1
      refine ⟨rfl, 0, os0 ++ (os ++ os2), ?_⟩
      rw [HE2.out, HE.out, e0, grow_grow, grow_grow]
      rfl
  · rw [h1] at a1
    go_enter Try.func35, Try.ntmps35
    go_wp2_with fail
    refine a1.mono ?_
    rintro e w1 ⟨rfl, os, ew⟩
    have HE := Lib.hid ew
    clear ew
    go_wp2_with fail
    go_ret
    obtain ⟨os0, e0⟩ := HW.out.1
    refine ⟨rfl, 0, os0 ++ os, ?_⟩
    rw [HE.out, e0, grow_grow]
    rfl
theorem sorted_isT {xs l : List It} (hp : xs.Perm l) (hr : Rises l) (hi : Ids xs) : (xs.mergeSort fun x y => !(ltOf cmpT) y x) = l := by
  have e : (fun x y => !(ltOf cmpT) y x) = fun x y : It => !(y.lt x) := by funext x y; rw [lt_cmpT]
  rw [e]
  have p1 := List.mergeSort_perm xs (fun x y : It => !(y.lt x))
  have p2 := List.pairwise_mergeSort (le := fun x y : It => !(y.lt x)) (fun a b c h1 h2 => by
      simp only [Bool.not_eq_true'] at *
      exact It.le_trans (x := a) (y := b) (z := c) h1 h2)
    (fun a b => by
      rcases h : b.lt a with _ | _
      · simp
      · have : a.lt b = false := It.le_of_lt h
        simp [this]) xs
  refine Rises.eq_of_perm ?_ hr (p1.trans hp)
  have hn : (xs.mergeSort (fun x y : It => !(y.lt x))).Pairwise (fun x y => x.i ≠ y.i) := by
    have := hi.perm p1.symm
    unfold Ids List.Nodup at this
    rw [List.pairwise_map] at this
    exact this
  refine (p2.and hn).imp ?_
  intro x y ⟨h1, h2⟩
  simp only [Bool.not_eq_true'] at h1
  exact It.lt_of_le_ne h1 (fun e => h2 (by rw [e]))
set_option maxHeartbeats 1000000 in
theorem sSort (f : Int → Nat) (w : World) (A : Option Addr) (cap : Nat) (xs l : List It) (h : (tEf f).Row w (.slice A xs.length cap) xs) (hp : xs.Perm l) (hr : Rises l) (hi : Ids xs) (hl : xs.length ≤ 1000000) :
    Calls Try.prog 34 #[.slice A xs.length cap, .func (.func 35) #[] #[]] w fun e w' => e = .returned (.tuple #[]) ∧ (tEf f).Row w' (.slice A xs.length cap) l ∧ Only (Value.slice A xs.length cap).ownBlock.toList w w' := by
  by_cases h0 : 0 < xs.length
  · obtain ⟨g, cap', cur, e, -, -, hg, -⟩ := h.at_ h0
    injection e with e1 e2 e3
    subst e1
    have eg : ∀ args w, (callFunc 35 args).run Try.prog w = .ok (.enter 35 args) w := enters_of Try.func35 (by kernel_rfl) rfl
    have hcon := AnyQ.slices_SortFunc_total Try.sortTurns 3 Try.isAgg79 Try.sizeOf79 (tEf f).cs (tEf f).len (tEf f).one cmpT swo_cmpT 35 #[] g 0 cap xs.toArray w eg (fun _ _ _ _ x y => sCompareG (x, f x.i) (y, f y.i) _) h.holds hg (by simp; omega)
      (fun x y h1 h2 => by rw [lt_cmpT] at *; exact It.eq_of h1 h2)
    change Calls Try.prog 34 _ _ _ at hcon
    simp only [List.size_toArray, List.toList_toArray] at hcon
    rw [sorted_isT hp hr hi] at hcon
    refine hcon.mono ?_
    rintro e w' ⟨rfl, n, os, rfl⟩
    exact ⟨rfl, h.sorted n os hp.length_eq.symm, by simpa [Value.ownBlock] using (tEf f).sort_only w g n l.toArray os⟩
  · have hx : xs = [] := List.length_eq_zero_iff.1 (by omega)
    subst hx
    have hl0 : l = [] := hp.nil_eq.symm
    subst hl0
    have hcon := AnyF.slices_SortFunc_none Try.sortTurns A cap (.func (.func 35) #[] #[]) w
    change Calls Try.prog 34 _ _ _ at hcon
    refine hcon.mono ?_
    rintro e w' ⟨rfl, rfl⟩
    exact ⟨rfl, h, Only.refl _ _⟩

/-! ### Starts -/
def fB (es : List En) (id : Int) : Nat := ((es.find? fun e => e.id == id).map En.b).getD 0
theorem fB_is {S : Sq} {es : List En} (hk : es.map En.key = S.l) (hs : Srt S.l) {e : En} (he : e ∈ es) : fB es e.id = e.b := by
  obtain ⟨i, hi⟩ := List.getElem?_of_mem he
  have : es.find? (fun d => d.id == e.id) = some e := by
    obtain ⟨hl, h1⟩ := List.getElem?_eq_some_iff.1 hi
    rw [List.find?_eq_some_iff_getElem]
    refine ⟨by simp, i, hl, h1, fun j hj => ?_⟩
    have h2 := hs.lt hj (key_at hk (List.getElem?_eq_getElem (by omega))) (key_at hk hi)
    simp
    simp at h2
    omega
  unfold fB
  rw [this]
  rfl
theorem tns_items {S : Sq} {es : List En} (hk : es.map En.key = S.l) (hs : Srt S.l) : tnsOf es = (itemsK S.l).map (wf_ (fB es)) := by
  unfold tnsOf itemsK
  rw [← hk, List.filter_map, List.map_map, List.map_map]
  apply List.map_congr_left
  intro e he
  have he' := (List.mem_filter.1 he).1
  have h1 := fB_is hk hs he'
  show tnOf e = (itemK e.key, fB es e.id)
  rw [h1]
  rfl
/-- Items as a kind of element. -/
def xE : El It 2 where
  T := 77
  cs := It.cs
  z := .agg #[.int .u64 0, .int .i64 0]
  wide := 16
  len := fun _ => rfl
  one := fun x u hu => by
    simp [It.cs] at hu
    rcases hu with rfl | rfl <;> rfl
  pos := by decide
  info := by kernel_rfl
  zs := rfl
  small := by decide
set_option maxHeartbeats 2000000 in
theorem sStarts (w : World) (b : Nat) (S : Sq) (O : List Nat) (h : SqOf w b S O) :
    Calls Try.prog 23 #[.pointer (some ⟨b, 0, none⟩)] w fun e w' => ∃ A cap, e = .returned (.slice A (startsK S.l).length cap) ∧ RowIs w' (.slice A (startsK S.l).length cap) (startsK S.l) ∧ (∀ k, (Value.slice A (startsK S.l).length cap).ownBlock = some k → w.heap.size ≤ k) ∧ Only [] w w' := by
  obtain ⟨u, es, h, rfl⟩ := h
  have ht := sTurns w b S u es h
  have hti := tns_items h.key h.ok.srt
  have hle : (tnsOf es).length = (startsK S.l).length := by rw [hti, List.length_map, (startsK_perm S.l).length_eq]
  have hln : (startsK S.l).length ≤ 1000 := by rw [← hle]; have := tnsOf_len es; have := h.ok.len; have := key_len h.key; omega
  rw [hle] at ht
  have hso : Hid (∀ W A cap, tE.Row W (.slice A (startsK S.l).length cap) (tnsOf es) → Calls Try.prog 34 #[.slice A (startsK S.l).length cap, .func (.func 35) #[] #[]] W fun e w' => e = .returned (.tuple #[]) ∧ tE.Row w' (.slice A (startsK S.l).length cap) ((startsK S.l).map (wf_ (fB es))) ∧ Only (Value.slice A (startsK S.l).length cap).ownBlock.toList W w') := fun W A cap hr => by
    rw [hti] at hr
    have e1 := (startsK_perm S.l).length_eq
    rw [e1] at hr ⊢
    exact (sSort (fB es) W A cap (itemsK S.l) (startsK S.l) (tEf_row.2 hr) (startsK_perm S.l).symm (startsK_rises h.ok.srt) (itemsK_ids h.ok.srt) (by omega)).mono fun e w' q => ⟨q.1, tEf_row.1 q.2.1, q.2.2⟩
  clear hti hle h
  generalize startsK S.l = l at *
  generalize hn : l.length = n at *
  have HN := Lib.hid hn
  clear hn
  go_enter Try.func23, Try.ntmps23
  go_wp2_with fail
  refine ht.mono ?_
  rintro e w1 ⟨A1, cap1, rfl, r1, f1, o1⟩
  have hs1 := hso.out w1 A1 cap1 r1
  have R1 := Lib.hid (And.intro f1 o1)
  clear r1 f1 o1 ht
  go_wp2_with fail
  refine hs1.mono ?_
  rintro e w2 ⟨rfl, r2, o2⟩
  have o02 : Only [] w w2 := R1.out.2.trans o2 (fun k hk => .inr (R1.out.1 k (Option.mem_toList.1 hk)))
  have hmk := El.run_make_ (E := xE) Try.underlying36 w2 n n (Nat.le_refl _) (by omega)
  have hr0 := Lib.hid (El.Row.made (E := xE) ⟨0, 0⟩ rfl w2 n (by omega))
  have ho0 : Hid (Only [] w2 (w2.alloc (.cells (madeCells xE.z.cells (n * 2)) xE.T))) := (Only.refl [] w2).alloc _
  have R2 := Lib.hid (And.intro r2 o02)
  clear r2 o2 o02 hs1 hso
  generalize w2.alloc (.cells (madeCells xE.z.cells (n * 2)) xE.T) = W at *
  go_wp2_with fail
  obtain ⟨G, eG⟩ : ∃ G, w2.heap.size = G := ⟨_, rfl⟩
  have HG := Lib.hid eG
  rw [eG] at hr0 hmk ⊢
  clear eG hmk
  go_loopg [16] (n + 1) (fun gk si wr => ∃ (p : Nat) (L : List It), si = .int .i64 (p : Int) ∧ p ≤ n ∧ n + 1 ≤ gk + p ∧ Hid (L.length = n) ∧ Hid (xE.Row wr (.slice (some ⟨G, 0, none⟩) n n) L) ∧ Hid (∀ j, j < p → L[j]? = l[j]?) ∧ Hid (Only [] w2 wr))
  case atStart => exact ⟨0, _, rfl, by omega, by omega, by show (List.replicate n _).length = n; simp, hr0, fun j hj => absurd hj (by omega), ho0⟩
  case round =>
    obtain ⟨p, L, rfl, hp, hg, hLl, hR, hL, ho⟩ := hrel
    clear hr0 ho0
    by_cases hpl : p < n
    · have hpl' : (p : Int) < (n : Int) := by omega
      obtain ⟨x, hx⟩ : ∃ x, l[p]? = some x := ⟨_, List.getElem?_eq_getElem (by rw [HN.out]; exact hpl)⟩
      obtain ⟨z, hz⟩ : ∃ z, L[p]? = some z := ⟨_, List.getElem?_eq_getElem (by rw [hLl.out]; exact hpl)⟩
      obtain ⟨g, rfl, hgl, d0, d1, d2⟩ := trow_at R2.out.1 wr ho.out p (wf_ (fB es) x) (by rw [List.getElem?_map, hx]; rfl)
      obtain ⟨G', e1, hG', hc⟩ := hR.out.cell hz
      injection e1 with e1
      injection e1 with e1
      subst e1
      obtain ⟨y0, yf0⟩ := hc 0 _ rfl
      obtain ⟨y1, yf1⟩ := hc 1 _ rfl
      simp only [Nat.add_zero] at y0 yf0
      have hGw : w2.heap.size = G := HG.out
      have hgG : ¬ (g = G) := by omega
      have hgG' : ¬ (G = g) := by omega
      have HX := Lib.hid hx
      clear hc hx hz hGw
      unfold wf_ at d0 d1 d2
      simp only at d0 d1 d2
      go_wp2_with fail
      go_roundg (n + 1 - (p + 1))
      case measure => omega
      case rel =>
        have hGw : w2.heap.size = G := HG.out
        refine ⟨p + 1, L.set p x, by simp, by omega, by omega, by show (L.set p x).length = n; rw [List.length_set]; exact hLl.out, ?_, fun j hj => ?_, ?_⟩
        · exact (hR.out.store2 p x _ _ rfl).only ((Only.refl [] _).alloc _) (by simp)
        · rw [List.getElem?_set]
          by_cases e2 : p = j
          · subst e2
            rw [if_pos rfl, if_pos (by rw [hLl.out]; exact hpl), HX.out]
          · rw [if_neg e2]; exact hL.out j (by omega)
        · exact ((ho.out.setCell (.inr (by simp; omega)) _).setCell (.inr (by simp; omega)) _).alloc _
    · have hpl' : ¬ ((p : Int) < (n : Int)) := by omega
      obtain rfl : p = n := by omega
      go_wp2_with fail
      go_ret
      have e1 : L = l := by
        apply List.ext_getElem?
        intro j
        rcases Nat.lt_or_ge j p with h1 | h1
        · exact hL.out j h1
        · rw [List.getElem?_eq_none (by rw [hLl.out]; exact h1), List.getElem?_eq_none (by rw [HN.out]; exact h1)]
      have hRl := hR.out
      rw [e1] at hRl
      have hGw : w2.heap.size = G := HG.out
      refine ⟨_, _, rfl, hRl, fun k hk => ?_, R2.out.2.trans' ho.out⟩
      simp [Value.ownBlock] at hk
      have := R2.out.2.size
      omega
end Go.Proofs.Ytklolepmmabijaa
