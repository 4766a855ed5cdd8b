/-
  Contracts of the heap's New, Len, Has, Min, Push.
-/
import Derived.Test.YtfgffgicfieieaaDoorHpT
import Derived.Laws.ResultCell
namespace Go.Proofs.YtfgffgicfieieaaDoor
set_option maxRecDepth 100000
open Go.RowKit Go.ChangeMaps Go.MapKept
set_option linter.unusedVariables false
set_option linter.unusedSimpArgs false

/-- The heap at hb, of the blocks S, holds the items of l, which rises. -/
def HeapOf (w : World) (hb : Nat) (S : List Nat) (l : List It) : Prop :=
  ∃ v mb xs, S = hown hb v mb ∧ HeapIs w hb v mb xs ∧ IsHeap (gOf xs) xs.length ∧ xs.Perm l ∧ Rises l ∧ l.length ≤ 1000000
theorem HeapOf.only {w w' : World} {hb : Nat} {S T : List Nat} {l : List It} (h : HeapOf w hb S l) (ho : Only T w w') (hT : ∀ b ∈ S, b ∉ T) : HeapOf w' hb S l := by
  obtain ⟨v, mb, xs, rfl, h1, h2⟩ := h
  exact ⟨v, mb, xs, rfl, h1.only ho hT, h2⟩
theorem HeapOf.only0 {w w' : World} {hb : Nat} {S : List Nat} {l : List It} (h : HeapOf w hb S l) (ho : Only [] w w') : HeapOf w' hb S l := h.only ho (by simp)
theorem HeapOf.lt {w : World} {hb : Nat} {S : List Nat} {l : List It} (h : HeapOf w hb S l) : ∀ b ∈ S, b < w.heap.size := by
  obtain ⟨v, mb, xs, rfl, h1, h2⟩ := h
  exact h1.lt
theorem HeapOf.small {w : World} {hb : Nat} {S : List Nat} {l : List It} (h : HeapOf w hb S l) : l.length ≤ 1000000 := by
  obtain ⟨v, mb, xs, rfl, h1, h2, h3, h4, h5⟩ := h
  exact h5
theorem HeapOf.rises {w : World} {hb : Nat} {S : List Nat} {l : List It} (h : HeapOf w hb S l) : Rises l := by
  obtain ⟨v, mb, xs, rfl, h1, h2, h3, h4, h5⟩ := h
  exact h4
theorem HeapOf.ids {w : World} {hb : Nat} {S : List Nat} {l : List It} (h : HeapOf w hb S l) : Ids l := by
  obtain ⟨v, mb, xs, rfl, h1, h2, h3, h4, h5⟩ := h
  exact h1.ids.perm h3
theorem HeapOf.fit {w : World} {hb : Nat} {S : List Nat} {l : List It} (h : HeapOf w hb S l) : ∀ x ∈ l, x.ok := by
  obtain ⟨v, mb, xs, rfl, h1, h2, h3, h4, h5⟩ := h
  exact fun x hx => h1.fit x (h3.symm.subset hx)

set_option maxHeartbeats 400000 in
theorem hNew (w : World) : Calls Tryd.prog 48 #[] w fun e w' => ∃ hb S, e = .returned (.pointer (some ⟨hb, 0, none⟩)) ∧ HeapOf w' hb S [] ∧ (∀ b ∈ S, w.heap.size ≤ b) ∧ Only [] w w' := by
  have hmm := @run_makeMap Tryd.prog
  go_enter Tryd.func48, Tryd.ntmps48
  go_wp2
  go_ret
  have hm := MapAt.made w
  have hb : ((w.alloc (.map #[] 0)).alloc (.cells #[.slice none 0 0, .map (some w.heap.size)] 77)).heap[w.heap.size + 1]? = some (.cells #[.slice none 0 0, .map (some w.heap.size)] 77 (0, 0)) := by
    have := heap_alloc_new (w.alloc (.map #[] 0)) (.cells #[.slice none 0 0, .map (some w.heap.size)] 77)
    simpa using this
  refine ⟨w.heap.size + 1, hown (w.heap.size + 1) (.slice none 0 0) w.heap.size, rfl, ⟨_, _, [], rfl, ⟨hb, RowIs.nil _, ?_, by simp [Ids], by simp⟩, fun k h0 hk => by simp at hk, List.Perm.refl _, List.Pairwise.nil, by simp⟩, ?_, ((Only.refl _ _).alloc _).alloc _⟩
  · exact hm.keep (Below.heap_alloc _ _ _ (by simp))
  · simp [hown, Value.ownBlock]

theorem hLen (w : World) (hb : Nat) (S : List Nat) (l : List It) (h : HeapOf w hb S l) : Calls Tryd.prog 35 #[.pointer (some ⟨hb, 0, none⟩)] w fun e w' => e = .returned (.int .i64 (l.length : Int)) ∧ w' = w := by
  obtain ⟨v, mb, xs, rfl, h1, h2, h3, h4, h5⟩ := h
  obtain ⟨A, cap, rfl⟩ := h1.row.form
  have c0 := h1.c0
  rw [← h3.length_eq]
  clear h1 h2 h3 h4 h5
  go_enter Tryd.func35, Tryd.ntmps35
  go_wp2
  go_ret
  exact ⟨rfl, rfl⟩

set_option maxHeartbeats 400000 in
theorem hHasIs (w : World) (hb : Nat) (v : Value) (mb : Nat) (xs : List It) (h : HeapIs w hb v mb xs) (id : Int) (hid : i64ok id) :
    Calls Tryd.prog 55 #[.pointer (some ⟨hb, 0, none⟩), .int .i64 id] w fun e w' => e = .returned (.bool (hasId id xs)) ∧ w' = w := by
  have c1 := h.c1
  have lk := h.map.look hid 75 Tryd.underlying75
  rw [fOf_has] at lk
  clear h
  generalize hasId id xs = b at *
  go_enter Tryd.func55, Tryd.ntmps55
  go_wp2
  go_ret
  exact ⟨rfl, rfl⟩
theorem hHas (w : World) (hb : Nat) (S : List Nat) (l : List It) (h : HeapOf w hb S l) (id : Int) (hid : i64ok id) :
    Calls Tryd.prog 55 #[.pointer (some ⟨hb, 0, none⟩), .int .i64 id] w fun e w' => e = .returned (.bool (hasId id l)) ∧ w' = w := by
  obtain ⟨v, mb, xs, rfl, h1, h2, h3, h4, h5⟩ := h
  rw [← hasId_perm id h3]
  exact hHasIs w hb v mb xs h1 id hid

set_option maxHeartbeats 400000 in
theorem hMin (w : World) (hb : Nat) (S : List Nat) (l : List It) (h : HeapOf w hb S l) :
    Calls Tryd.prog 51 #[.pointer (some ⟨hb, 0, none⟩)] w fun e w' => e = .returned (.tuple #[(first l).val, .bool (!l.isEmpty)]) ∧ Only [] w w' := by
  obtain ⟨v, mb, xs, rfl, h1, h2, h3, h4, h5⟩ := h
  by_cases h0 : 0 < xs.length
  · have hl : 0 < l.length := by rw [← h3.length_eq]; exact h0
    have e1 : first l = gOf xs 0 := by rw [first_gOf hl, heap_first h2 h3 h4 h0]
    have e2 : (!l.isEmpty) = true := by cases l <;> simp at hl ⊢
    rw [e1, e2]
    obtain ⟨g, cap, rfl, hn, hcap, hg, -, hcell⟩ := h1.row.at_ h0
    have c0 := h1.c0
    obtain ⟨i0, i1, -, -⟩ := hcell 0 h0
    have hlt : (0 : Int) < (xs.length : Int) := by omega
    have hne : ((xs.length : Int) == 0) = false := by simp; intro e; subst e; simp at h0
    have hhb : hb < w.heap.size := h1.lt hb (by simp [hown])
    clear hcell h1 h2 h3 h4 h5 e1 e2 hl h0
    unfold It.val
    generalize gOf xs 0 = x at *
    generalize xs.length = n at *
    go_enter Tryd.func51, Tryd.ntmps51
    go_wp2
    (try simp only [Exit.inBlock, Exit.then])
    refine bodyPost_ret (v := .tuple #[.agg #[.int .u64 x.k, .int .i64 x.i], .bool true]) ?_ rfl ?_
    · rw [results_cell_tmp rfl]; go_simp
    · exact ⟨rfl, (Only.refl _ _).alloc _⟩
  · have hx : xs = [] := List.length_eq_zero_iff.1 (by omega)
    subst hx
    have hl : l = [] := h3.nil_eq.symm
    subst hl
    obtain ⟨A, cap, rfl⟩ := h1.row.form
    have c0 := h1.c0
    have hhb : hb < w.heap.size := h1.lt hb (by simp [hown])
    clear h1 h2 h3 h4 h5 h0
    unfold It.val first
    go_enter Tryd.func51, Tryd.ntmps51
    go_wp2
    (try simp only [Exit.inBlock, Exit.then])
    refine bodyPost_ret (v := .tuple #[.agg #[.int .u64 0, .int .i64 0], .bool false]) ?_ rfl ?_
    · rw [results_cell_tmp rfl]; go_simp
    · exact ⟨rfl, (Only.refl _ _).alloc _⟩

/-! ### Push -/
theorem grown_keeps {W w' : World} {hb mb : Nat} {v : Value} {xs : List It} (h : HeapIs W hb v mb xs) (hg : W.grownBy w' v.ownBlock) : w'.cell? ⟨hb, 0, none⟩ = some v ∧ w'.frozen? ⟨hb, 0, none⟩ = false := by
  have e : w'.heap[hb]? = W.heap[hb]? := hg.block hb (h.lt hb (by simp [hown])) (fun e => h.hbg e.symm rfl)
  exact ⟨(World.cell?_of_block e).trans h.c0, (World.frozen?_of_block e).trans (h.fr 0)⟩
theorem fOf_snoc {xs : List It} (h : Ids xs) {x : It} (hx : ∀ y ∈ xs, y.i ≠ x.i) : upd (fOf xs) x.i (xs.length : Int) = fOf (xs ++ [x]) := by
  have hi : Ids (xs ++ [x]) := by
    unfold Ids
    rw [List.map_append, List.nodup_append]
    exact ⟨h, by simp, fun a ha b hb => by
      obtain ⟨y, hy, rfl⟩ := List.mem_map.1 ha
      simp only [List.map_cons, List.map_nil, List.mem_singleton] at hb
      subst hb
      exact hx y hy⟩
  funext id
  apply opt_ext
  intro v
  rw [fOf_iff hi]
  have gl : gOf (xs ++ [x]) xs.length = x := by simp [gOf]
  have gk : ∀ k, k < xs.length → gOf (xs ++ [x]) k = gOf xs k := fun k hk => by
    simp [gOf, List.getElem?_append_left hk]
  unfold upd
  by_cases e : id = x.i
  · rw [if_pos e]
    constructor
    · intro hv
      injection hv with hv
      exact ⟨xs.length, by simp, by rw [gl, e], hv.symm⟩
    · rintro ⟨k, hk, he, rfl⟩
      have : k = xs.length := by
        rcases Nat.lt_or_ge k xs.length with h1 | h1
        · rw [gk k h1, e] at he
          exact absurd he (hx _ (by rw [gOf_get h1]; exact List.getElem_mem _))
        · simp at hk; omega
      rw [this]
  · rw [if_neg e, fOf_iff h]
    constructor
    · rintro ⟨k, hk, he, rfl⟩
      exact ⟨k, by simp; omega, by rw [gk k hk]; exact he, rfl⟩
    · rintro ⟨k, hk, he, rfl⟩
      rcases Nat.lt_or_ge k xs.length with h1 | h1
      · exact ⟨k, h1, by rw [gk k h1] at he; exact he, rfl⟩
      · have : k = xs.length := by simp at hk; omega
        subst this
        rw [gl] at he
        exact absurd he.symm e
theorem ids_snoc {xs : List It} (h : Ids xs) {x : It} (hx : ∀ y ∈ xs, y.i ≠ x.i) : Ids (xs ++ [x]) := by
  unfold Ids
  rw [List.map_append, List.nodup_append]
  exact ⟨h, by simp, fun a ha b hb => by
    obtain ⟨y, hy, rfl⟩ := List.mem_map.1 ha
    simp only [List.map_cons, List.map_nil, List.mem_singleton] at hb
    subst hb
    exact hx y hy⟩
theorem upinv_snoc {xs : List It} (h : IsHeap (gOf xs) xs.length) (x : It) : UpInv True (xs ++ [x]) xs.length := by
  have gk : ∀ k, k < xs.length → gOf (xs ++ [x]) k = gOf xs k := fun k hk => by
    simp [gOf, List.getElem?_append_left hk]
  have el : (xs ++ [x]).length = xs.length + 1 := by simp
  unfold UpInv
  rw [el]
  refine ⟨by omega, ⟨fun k hk0 hkn hki hpi => ?_, fun c hc0 hcn hci hi0 => by omega⟩, fun _ c hc0 hcn hci => by omega⟩
  rw [gk k (by omega), gk _ (by omega)]
  exact h k hk0 (by omega)

/-- Behind the append and the store into the field. -/
theorem push_mid {w W W0 w2 : World} {hb mb : Nat} {v v' : Value} {xs ys : List It} (h0 : HeapIs w hb v mb xs) (o1 : Only [] w W) (o2 : Only [] W W0) (hr : RowIs w2 v' ys) (hg : W0.grownBy w2 v.ownBlock)
    (hl : v'.ownBlock = v.ownBlock ∨ v'.ownBlock = some W0.heap.size) :
    (w2.setCell ⟨hb, 0, none⟩ v').heap[hb]? = some (.cells #[v', .map (some mb)] 77 (0, 0)) ∧ RowIs (w2.setCell ⟨hb, 0, none⟩ v') v' ys ∧ MapAt (w2.setCell ⟨hb, 0, none⟩ v') mb (fOf xs) ∧
      Only (hown hb v mb) w (w2.setCell ⟨hb, 0, none⟩ v') ∧ (∀ b ∈ hown hb v' mb, b ∈ hown hb v mb ∨ w.heap.size ≤ b) ∧
      ∀ p : Addr, w.heap.size ≤ p.block → p.block < W.heap.size → (w2.setCell ⟨hb, 0, none⟩ v').cell? p = W.cell? p := by
  have hW0 := (h0.only0 o1).only0 o2
  have oA : Only v.ownBlock.toList W0 w2 := (Only.refl _ W0).grown hg (fun k hk => .inl (by simp [hk]))
  have o12 : Only [] w W0 := o1.trans' o2
  have hbv : hb ∉ v.ownBlock.toList := by simp only [Option.mem_toList]; exact fun e => hW0.hbg e rfl
  have hmv : mb ∉ v.ownBlock.toList := by simp only [Option.mem_toList]; exact fun e => hW0.mbg e rfl
  have b2 : w2.heap[hb]? = some (.cells #[v, .map (some mb)] 77 (0, 0)) := oA.get hW0.blk hbv
  have m2 : MapAt w2 mb (fOf xs) := hW0.map.keep (oA.block mb hW0.map.lt hmv)
  have hne : ∀ g, v'.ownBlock = some g → g ≠ hb := by
    rintro g hg' rfl
    obtain ⟨cur, hc⟩ := own_item_blk hr hg'
    rw [b2] at hc
    injection hc with hc
    injection hc with _ hc
    cases hc
  have hS : ∀ b ∈ hown hb v' mb, b ∈ hown hb v mb ∨ w.heap.size ≤ b := by
    intro b hb'
    simp only [hown, List.mem_cons, Option.mem_toList] at hb' ⊢
    rcases hb' with e | e | e
    · exact .inl (.inl e)
    · exact .inl (.inr (.inl e))
    · rcases hl with h3 | h3
      · exact .inl (.inr (.inr (h3.symm.trans e)))
      · rw [e] at h3
        injection h3 with h3
        exact .inr (by rw [h3]; exact o12.size)
  refine ⟨?_, hr.keep fun g hg' => Below.heap_setCell _ _ _ _ (hne g hg'), m2.keep (Below.heap_setCell _ _ _ _ (by exact fun e => hW0.hbmb e.symm)), ?_, hS, fun p hp1 hp2 => ?_⟩
  · simp [World.setCell, Array.getElem?_modify, b2]
  · refine Only.setCell ?_ (by simp [hown]) _
    exact (o12.mono (T := hown hb v mb) (by simp)).trans oA (fun k hk => .inl (by simp only [Option.mem_toList] at hk; simp [hown, hk]))
  · have hbW : hb < w.heap.size := h0.lt hb (by simp [hown])
    rw [World.cell?_setCell_other _ _ _ _ (fun e => by rw [← e] at hp1; simp only at hp1; omega)]
    rw [oA.cell (p := p) (Nat.lt_of_lt_of_le hp2 o2.size) (fun e => by
      have := h0.row.lt (g := p.block) (by simpa using e)
      omega)]
    exact o2.cell hp2 (by simp)

set_option maxRecDepth 100000 in
set_option maxHeartbeats 4000000 in
theorem hPush (w : World) (hb : Nat) (S : List Nat) (l : List It) (h : HeapOf w hb S l) (x : It) (hx : x.ok) (hroom : l.length < 1000000) :
    Calls Tryd.prog 33 #[.pointer (some ⟨hb, 0, none⟩), x.val] w fun e w' => e = .returned (.bool (!hasId x.i l)) ∧ ∃ S', HeapOf w' hb S' (if hasId x.i l then l else ins x l) ∧ Moved w S w' S' := by
  obtain ⟨v, mb, xs, rfl, h1, h2, h3, h4, h5⟩ := h
  unfold It.val
  have hp := hasId_perm x.i h3
  rw [← hp]
  have hb1 := h1.only0 ((Only.refl [] w).alloc (.cells #[.int .u64 x.k, .int .i64 x.i] 35))
  have hh := hHasIs _ hb v mb xs hb1 x.i hx.2
  rcases hid : hasId x.i xs with _ | _
  · rw [hid] at hh
    have hno := (hasId_not _ _).1 hid
    go_enter Tryd.func33, Tryd.ntmps33
    go_wp2_with fail
    refine hh.mono ?_
    rintro e w1 ⟨rfl, rfl⟩
    obtain ⟨A, cap, rfl⟩ := hb1.row.form
    have c0 := hb1.c0
    have c1 := hb1.c1
    have fr := hb1.fr 0
    have x0 : (w.alloc (.cells #[.int .u64 x.k, .int .i64 x.i] 35)).cell? ⟨w.heap.size, 0, none⟩ = some (.int .u64 x.k) := by go_simp
    have x1 : (w.alloc (.cells #[.int .u64 x.k, .int .i64 x.i] 35)).cell? ⟨w.heap.size, 1, none⟩ = some (.int .i64 x.i) := by go_simp
    have hsz : (w.alloc (.cells #[.int .u64 x.k, .int .i64 x.i] 35)).heap.size = w.heap.size + 1 := by simp
    have o1 : Only [] w (w.alloc (.cells #[.int .u64 x.k, .int .i64 x.i] 35)) := (Only.refl [] w).alloc _
    generalize w.alloc (.cells #[.int .u64 x.k, .int .i64 x.i] 35) = W at *
    have HZ := Lib.hid hsz
    clear hsz
    have H1 := Lib.hid hb1
    have H2 := Lib.hid h1
    have c0a := (hb1.only0 ((Only.refl [] W).alloc (.cells #[.int .u64 x.k, .int .i64 x.i] 35))).c0
    clear hb1 h1 hh
    go_wp2_with fail
    go_region_law
      (refine step_append_row rfl (.tmp 19) (.tmp 21) rfl (.slice A xs.length cap) xs (by simp [Act.eval, Act.put]) (by first | exact (H1.out.only0 (((Only.refl [] W).drew).alloc _)).row | exact (H1.out.only0 (((Only.refl [] W).alloc _).drew)).row) (some ⟨W.heap.size, 0, none⟩) 1 1 [x] (by simp [Act.eval, Act.put]) rfl (by exact src_box W x) (xs.length + 1) rfl (by have := h3.length_eq; omega) ?_
       intro A' cap' w2 hr2 hg2 hl2
       obtain ⟨c0', fr'⟩ := grown_keeps (by first | exact (H1.out.only0 (((Only.refl [] W).drew).alloc _)) | exact (H1.out.only0 (((Only.refl [] W).alloc _).drew))) hg2)
    all_goals
      obtain ⟨b3, r3, m3, o3, s3, k3⟩ := push_mid H2.out o1 (by first | exact ((Only.refl [] W).drew).alloc _ | exact ((Only.refl [] W).alloc _).drew) hr2 hg2 hl2
      have x3 := (k3 ⟨w.heap.size, 1, none⟩ (Nat.le_refl _) (by have := HZ.out; simp only; omega)).trans x1
      generalize w2.setCell ⟨hb, 0, none⟩ (.slice A' (xs.length + 1) cap') = W3 at *
      clear k3 c0' fr' c0a x0 x1 fr c0 c1 hr2 hg2 hl2
      have c1 : W3.cell? ⟨hb, 1, none⟩ = some (.map (some mb)) := by rw [cell_of_row W3 hb 1 _ _ _ b3]; rfl
      obtain ⟨W4, u4, m4, g4⟩ := (m3.keep (w' := W3.drew) rfl).put hx.2 (xs.length : Int) 75 Tryd.underlying75
      rw [fOf_snoc H2.out.ids hno] at m4
      have o4 : Only [mb] W3 W4 := ((Only.refl [mb] W3).drew).grown g4 (by simp)
      have hm3 : mb < W3.heap.size := m3.lt
      have h4' : HeapIs W4 hb (.slice A' (xs.length + 1) cap') mb (xs ++ [x]) := by
        refine ⟨o4.get b3 ?_, r3.keep fun g hg => o4.block g (r3.lt hg) ?_, m4, ids_snoc H2.out.ids hno, fun y hy => ?_⟩
        · simp only [List.mem_singleton]; exact H2.out.hbmb
        · simp only [List.mem_singleton]
          rintro rfl
          obtain ⟨cur, hc⟩ := own_item_blk r3 hg
          obtain ⟨es, cl, he, _⟩ := m3
          rw [hc] at he
          cases he
        · rcases List.mem_append.1 hy with h9 | h9
          · exact H2.out.fit y h9
          · simp only [List.mem_singleton] at h9; subst h9; exact hx
      have hsu := sift_up True W4 hb mb _ _ h4' xs.length (by have := h3.length_eq; simp; omega) (upinv_snoc h2 x)
      have HX := Lib.hid (And.intro o3 (And.intro o4 s3))
      clear b3 r3 m3 o3 s3 m4 g4 o4 h4'
      go_wp2_with fail
      go_still_tail 7, (by kernel_rfl)
      change wpList _ _ _ _ _ W3.drew
      generalize W3.drew = W3' at u4 ⊢
      go_wp2_with fail
      refine hsu.mono ?_
      rintro e w5 ⟨i', ys, rfl, h5', hp5, hU5, hup5, o5⟩
      go_wp2_with fail
      go_ret
      obtain ⟨o3, o4, s3⟩ := HX.out
      refine ⟨rfl, hown hb (.slice A' (xs.length + 1) cap') mb, ⟨_, mb, ys, rfl, h5', IsHeap.of hU5.2.1 (hU5.2.2 trivial) hup5, ?_, ?_, ?_⟩, ⟨?_, s3⟩⟩
      · exact hp5.trans ((h3.append_right [x]).trans (ins_perm x l).symm)
      · exact ins_rises h4 (fun y hy => hno y (h3.symm.subset hy))
      · have := (ins_perm x l).length_eq; simp at this; simp; omega
      · exact (o3.trans o4 (by simp [hown])).trans o5 (fun k hk => s3 k (by
          simp only [List.mem_cons] at hk
          simp only [hown, List.mem_cons]
          exact .inr hk))
  · rw [hid] at hh
    simp only [if_true]
    go_enter Tryd.func33, Tryd.ntmps33
    go_wp2_with fail
    refine hh.mono ?_
    rintro e w1 ⟨rfl, rfl⟩
    go_wp2_with fail
    go_ret
    exact ⟨rfl, _, ⟨v, mb, xs, rfl, hb1, h2, h3, h4, h5⟩, Moved.of_only ((Only.refl [] w).alloc _)⟩
end Go.Proofs.YtfgffgicfieieaaDoor
