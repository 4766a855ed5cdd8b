/-
  Contracts of the heap's remove, Pop, Drop.
-/
import Derived.Test.YtfgffgicfieieaaDoorHpP
namespace Go.Proofs.YtfgffgicfieieaaDoor
set_option maxRecDepth 100000
open Go.RowKit Go.ChangeMaps Go.MapKept
set_option linter.unusedVariables false
set_option linter.unusedSimpArgs false

section
variable {w : World} {ops : Array Oper} {o : Oper} {a : Act} {Q : Exit → Act → World → Prop}
/-- 'delete(m, k)' as a step. -/
theorem wpList_delI {rest : List Oper} (hgd : o.guard = none) (m x : Operand) (ho : o.op = .call { callee := .builtin .delete, args := #[m, x], argTypes := #[75, 3] })
    (b : Nat) (f : Int → Option Int) (k : Int) (hm : a.eval m = .map (some b)) (hx : a.eval x = .int .i64 k) (h : MapAt w b f) (hk : i64ok k)
    (hK : ∀ w', MapAt w' b (off f k) → w.grownBy w' (some b) → wpList Tryd.prog ops Q rest (a.put o.dst (.tuple #[])) w') : wpList Tryd.prog ops Q (o :: rest) a w := by
  refine wpList_plain hgd fun K hK' => ?_
  obtain ⟨w', r1, r2, r3⟩ := h.del hk 75 o.type Tryd.underlying75
  unfold Oper.wp execOp
  simp only [ho, resolve, invoke, builtin, Sem.run_bind, Sem.run_pure, Result.andThen_ok, List.map_toArray, List.map_cons, List.map_nil, hm, hx, r1]
  exact hK' _ _ (hK w' r2 r3)
end

/-! ### taking one out -/
theorem take_last {xs : List It} {i : Nat} (hi : i < xs.length) : (swl xs i (xs.length - 1)) = (swl xs i (xs.length - 1)).take (xs.length - 1) ++ [gOf xs i] := by
  have hl : xs.length - 1 < xs.length := by omega
  have hlen : (swl xs i (xs.length - 1)).length = xs.length := swl_length _ _ _
  have e := List.take_append_drop (xs.length - 1) (swl xs i (xs.length - 1))
  have hd : (swl xs i (xs.length - 1)).drop (xs.length - 1) = [gOf xs i] := by
    rw [List.drop_eq_getElem_cons (by rw [hlen]; exact hl), List.drop_eq_nil_of_le (by rw [hlen]; omega)]
    have : (swl xs i (xs.length - 1))[xs.length - 1]'(by rw [hlen]; exact hl) = gOf xs i := by
      rw [← gOf_get, gOf_swl xs hi hl]
      unfold swf
      simp
    rw [this]
  rw [hd] at e
  exact e.symm
theorem take_gOf {xs : List It} {i : Nat} (hi : i < xs.length) {k : Nat} (hk : k < xs.length - 1) (hki : k ≠ i) : gOf ((swl xs i (xs.length - 1)).take (xs.length - 1)) k = gOf xs k := by
  have e1 : gOf ((swl xs i (xs.length - 1)).take (xs.length - 1)) k = gOf (swl xs i (xs.length - 1)) k := by
    unfold gOf
    rw [List.getD_eq_getElem?_getD, List.getD_eq_getElem?_getD, List.getElem?_take, if_pos hk]
  rw [e1, gOf_swl xs hi (by omega)]
  unfold swf
  rw [if_neg (by omega), if_neg hki]
theorem take_len {xs : List It} (i : Nat) (h0 : 0 < xs.length) : ((swl xs i (xs.length - 1)).take (xs.length - 1)).length = xs.length - 1 := by simp
theorem take_perm {xs : List It} {i : Nat} (hi : i < xs.length) : ((swl xs i (xs.length - 1)).take (xs.length - 1)).Perm (xs.eraseIdx i) := by
  have h1 := swl_perm xs hi (show xs.length - 1 < xs.length by omega)
  have h2 := eraseIdx_perm hi
  rw [take_last hi] at h1
  have h3 := (List.perm_append_singleton (gOf xs i) ((swl xs i (xs.length - 1)).take (xs.length - 1))).symm.trans (h1.trans h2)
  exact h3.cons_inv
theorem fOf_drop_last {ys : List It} {x : It} (h : Ids (ys ++ [x])) : off (fOf (ys ++ [x])) x.i = fOf ys := by
  have hy : Ids ys := by
    unfold Ids at h ⊢
    rw [List.map_append, List.nodup_append] at h
    exact h.1
  have hx : ∀ y ∈ ys, y.i ≠ x.i := fun y hy' e => by
    unfold Ids at h
    rw [List.map_append, List.nodup_append] at h
    exact h.2.2 y.i (List.mem_map.2 ⟨y, hy', rfl⟩) x.i (by simp) e
  rw [← fOf_snoc hy hx]
  funext id
  unfold off upd
  split
  · rename_i e
    subst e
    exact ((fOf_none _).2 hx).symm
  · rfl

set_option maxRecDepth 100000 in
set_option maxHeartbeats 4000000 in
theorem hRemove (w : World) (hb mb : Nat) (v : Value) (xs : List It) (h : HeapIs w hb v mb xs) (hh : IsHeap (gOf xs) xs.length) (i : Nat) (hi : i < xs.length) (hs : xs.length ≤ 1000000) :
    Calls Tryd.prog 69 #[.pointer (some ⟨hb, 0, none⟩), .int .i64 (i : Int)] w fun e w' => e = .returned (gOf xs i).val ∧
      ∃ v' ys, HeapIs w' hb v' mb ys ∧ IsHeap (gOf ys) ys.length ∧ ys.Perm (xs.eraseIdx i) ∧ v'.ownBlock = v.ownBlock ∧ Only (hown hb v mb) w w' := by
  obtain ⟨g, cap, rfl, hn, hcap, hg, -, hcell⟩ := h.row.at_ (by omega)
  obtain ⟨i0, i1, -, -⟩ := hcell i hi
  clear hcell
  have c0 := h.c0
  have hi' : (i : Int) < (xs.length : Int) := by omega
  have hhb : hb < w.heap.size := h.lt hb (by simp [hown])
  obtain ⟨x, ex⟩ : ∃ x, gOf xs i = x := ⟨_, rfl⟩
  rw [ex] at i0 i1 ⊢
  have HE := Lib.hid ex
  clear ex
  have H := Lib.hid h
  have HH := Lib.hid hh
  have HI := Lib.hid hi
  have hmlen : xs.length ≥ 1 := by omega
  clear h hh hi
  unfold It.val
  obtain ⟨m, en⟩ : ∃ m, xs.length = m + 1 := ⟨xs.length - 1, by omega⟩
  have HN := Lib.hid en
  rw [en] at c0 hi' hn hs
  have H' : Hid (HeapIs w hb (.slice (some ⟨g, 0, none⟩) (m + 1) cap) mb xs) := by have := H.out; rw [en] at this; exact this
  rw [en]
  clear en H
  have oW : Only [] w ((w.alloc (.cells #[.int .u64 0, .int .i64 0] 35)).alloc (.cells #[.int .u64 x.k, .int .i64 x.i] 35)) := ((Only.refl [] w).alloc _).alloc _
  have bR : Box ((w.alloc (.cells #[.int .u64 0, .int .i64 0] 35)).alloc (.cells #[.int .u64 x.k, .int .i64 x.i] 35)) w.heap.size ⟨0, 0⟩ :=
    (Box.new w ⟨0, 0⟩).only ((Only.refl [] _).alloc _) (by simp)
  have bX : Box ((w.alloc (.cells #[.int .u64 0, .int .i64 0] 35)).alloc (.cells #[.int .u64 x.k, .int .i64 x.i] 35)) (w.heap.size + 1) x := by
    have := Box.new (w.alloc (.cells #[.int .u64 0, .int .i64 0] 35)) x
    simpa using this
  have hlast : m < xs.length := by rw [HN.out]; omega
  have el : xs.length - 1 = m := by rw [HN.out]; rfl
  have hsw := hswap _ hb mb _ xs (H'.out.only0 oW) i m HI.out hlast
  have HEL := Lib.hid el
  clear el hlast
  go_enter Tryd.func69, Tryd.ntmps69
  go_wp2_with fail
  refine hsw.mono ?_
  rintro e W1 ⟨rfl, h1, o1⟩
  have hbl := Lib.hid (H'.out.lt)
  have bR1 : Hid (Box W1 w.heap.size ⟨0, 0⟩) := bR.only o1 (by
    simp only [List.mem_cons, Option.mem_toList, not_or]
    exact ⟨fun e => by have := hbl.out mb (by simp [hown]); omega, fun e => by have := hbl.out w.heap.size (by simp [hown, e]); omega⟩)
  have bX1 : Hid (Box W1 (w.heap.size + 1) x) := bX.only o1 (by
    simp only [List.mem_cons, Option.mem_toList, not_or]
    exact ⟨fun e => by have := hbl.out mb (by simp [hown]); omega, fun e => by have := hbl.out (w.heap.size + 1) (by simp [hown, e]); omega⟩)
  have oA : Hid (Only (hown hb (.slice (some ⟨g, 0, none⟩) (m + 1) cap) mb) w W1) := (oW.mono (by simp)).trans o1 (fun k hk => .inl (by
    simp only [List.mem_cons] at hk
    simp only [hown, List.mem_cons]
    exact .inr hk))
  have c0 := h1.c0
  have fr := h1.fr 0
  have HD := Lib.hid h1
  clear oW bR bX hsw h1 o1
  generalize hN : w.heap.size = N at *
  clear i0 i1
  go_wp2_with fail
  obtain ⟨ys, ey⟩ : ∃ ys, (swl xs i m).take m = ys := ⟨_, rfl⟩
  have hx : x ∈ xs := by rw [← HE.out, gOf_get HI.out]; exact List.getElem_mem _
  have hxok : x.ok := H'.out.fit x hx
  have hlsw : (swl xs i m).length = m + 1 := by rw [swl_length]; exact HN.out
  have ezs : swl xs i m = ys ++ [x] := by
    have := take_last HI.out
    rw [HEL.out, HE.out, ey] at this
    exact this
  have hyl : ys.length = m := by rw [← ey, List.length_take, hlsw]; omega
  have b2 : (W1.setCell ⟨hb, 0, none⟩ (.slice (some ⟨g, 0, none⟩) m cap)).heap[hb]? = some (.cells #[.slice (some ⟨g, 0, none⟩) m cap, .map (some mb)] 77 (0, 0)) := by
    have := HD.out.blk
    simp [World.setCell, Array.getElem?_modify, this]
  have r2 : RowIs (W1.setCell ⟨hb, 0, none⟩ (.slice (some ⟨g, 0, none⟩) m cap)) (.slice (some ⟨g, 0, none⟩) m cap) ys := by
    have := HD.out.row.cut (m := m) (by rw [hlsw]; omega)
    rw [ey] at this
    exact this.keep fun g' hg' => Below.heap_setCell _ _ _ _ (fun e => HD.out.hbg hg' e.symm)
  have m2 : MapAt (W1.setCell ⟨hb, 0, none⟩ (.slice (some ⟨g, 0, none⟩) m cap)) mb (fOf (ys ++ [x])) := by
    rw [← ezs]
    exact HD.out.map.keep (Below.heap_setCell _ _ _ _ (fun e => HD.out.hbmb e.symm))
  have o2 : Only [hb] W1 (W1.setCell ⟨hb, 0, none⟩ (.slice (some ⟨g, 0, none⟩) m cap)) := (Only.refl _ _).setCell (by simp) _
  have bR2 : Hid (Box _ N ⟨0, 0⟩) := bR1.out.only o2 (by simp; omega)
  have bX2 : Hid (Box _ (N + 1) x) := bX1.out.only o2 (by simp; omega)
  have o2' : Hid (Only (hown hb (.slice (some ⟨g, 0, none⟩) (m + 1) cap) mb) w (W1.setCell ⟨hb, 0, none⟩ (.slice (some ⟨g, 0, none⟩) m cap))) := oA.out.trans o2 (by simp [hown])
  have hids : Ids (ys ++ [x]) := by rw [← ezs]; exact HD.out.ids
  have hfits : ∀ y ∈ ys, y.ok := fun y hy => HD.out.fit y (by rw [ezs]; simp [hy])
  have hper : ys.Perm (xs.eraseIdx i) := by
    have := take_perm HI.out
    rw [HEL.out, ey] at this
    exact this
  have hgk : ∀ k, k < m → k ≠ i → gOf ys k = gOf xs k := fun k hk hki => by
    have := take_gOf HI.out (k := k) (by rw [HEL.out]; exact hk) hki
    rw [HEL.out, ey] at this
    exact this
  have hhm : IsHeap (gOf xs) m := HH.out.mono (by have := HN.out; omega)
  have hmne : hb ≠ mb := H'.out.hbmb
  have hmg : mb ≠ g := H'.out.mbg rfl
  have hmN : mb < N := hbl.out mb (by simp [hown])
  generalize hW2 : W1.setCell ⟨hb, 0, none⟩ (.slice (some ⟨g, 0, none⟩) m cap) = W2 at *
  have c1 : W2.cell? ⟨hb, 1, none⟩ = some (.map (some mb)) := by rw [cell_of_row W2 hb 1 _ _ _ b2]; rfl
  have x1 : W2.cell? ⟨N + 1, 1, none⟩ = some (.int .i64 x.i) := bX2.out.c1
  have P1 := Lib.hid b2
  have P2 := Lib.hid r2
  have P3 := Lib.hid m2
  have P4 := Lib.hid (And.intro hids (And.intro hfits (And.intro hper (And.intro hgk (And.intro hhm (And.intro hyl ezs))))))
  clear b2 r2 m2 hids hfits hper hgk hhm ezs ey hW2 o2 c0 fr hlsw HEL oA bR1 bX1 HD
  go_still_tail 6, (by kernel_rfl)
  change wpList _ _ _ _ _ W2.drew
  refine wpList_delI rfl (.tmp 36) (.tmp 38) rfl mb (fOf (ys ++ [x])) x.i rfl rfl (P3.out.keep (w' := W2.drew) rfl) hxok.2 ?_
  intro W3 m3 g3
  have o3 : Only [mb] W2 W3 := ((Only.refl [mb] W2).drew).grown g3 (by simp)
  rw [fOf_drop_last P4.out.1] at m3
  have h3 : HeapIs W3 hb (.slice (some ⟨g, 0, none⟩) m cap) mb ys := by
    refine ⟨o3.get P1.out (by simp; exact hmne), P2.out.keep fun g' hg' => o3.block g' (P2.out.lt hg') ?_, m3, ?_, P4.out.2.1⟩
    · have e : g = g' := by simpa [Value.ownBlock] using hg'
      subst e
      simp; exact fun e => hmg e.symm
    · have := P4.out.1
      unfold Ids at this ⊢
      rw [List.map_append, List.nodup_append] at this
      exact this.1
  have bR3 : Hid (Box W3 N ⟨0, 0⟩) := bR2.out.only o3 (by simp; omega)
  have bX3 : Hid (Box W3 (N + 1) x) := bX2.out.only o3 (by simp; omega)
  have o3' : Hid (Only (hown hb (.slice (some ⟨g, 0, none⟩) (m + 1) cap) mb) w W3) := o2'.out.trans o3 (by simp [hown])
  clear o3 m3 g3 bR2 bX2 o2' c1 x1 P1 P2 P3
  by_cases him : i < m
  · have him' : (i : Int) < (m : Int) := by omega
    have hlen : ys.length = m := P4.out.2.2.2.2.2.1
    have hsu := sift_up False W3 hb mb _ ys h3 i (by omega) ⟨by omega, HInv.of_heap (g := gOf xs) (by rw [hlen]; exact P4.out.2.2.2.2.1) (fun k hk hki => P4.out.2.2.2.1 k (by omega) hki), False.elim⟩
    have P5 := Lib.hid h3
    clear h3 hlen
    go_wp2_with fail
    refine hsu.mono ?_
    rintro e W4 ⟨i', zs, rfl, h4, hp4, hU4, hup4, o4⟩
    have hsd := sift_down W4 hb mb _ zs h4 i' (by rw [hp4.length_eq, P4.out.2.2.2.2.2.1]; omega) ⟨hU4.1, hU4.2.1, hup4⟩
    have P6 := Lib.hid hp4
    have P7 := Lib.hid o4
    clear h4 hp4 hU4 hup4 o4 hsu
    go_wp2_with fail
    refine hsd.mono ?_
    rintro e W5 ⟨i'', us, rfl, h5, hp5, hh5, o5⟩
    have hS : ∀ b, b ∈ (mb :: (Value.slice (some ⟨g, 0, none⟩) m cap).ownBlock.toList) → b < N ∧ b ∈ hown hb (.slice (some ⟨g, 0, none⟩) (m + 1) cap) mb := by
      intro b hb'
      simp only [Value.ownBlock, List.mem_cons, Option.mem_toList, Option.some.injEq] at hb'
      have : b ∈ hown hb (.slice (some ⟨g, 0, none⟩) (m + 1) cap) mb := by
        simp only [hown, Value.ownBlock, List.mem_cons, Option.mem_toList, Option.some.injEq]
        exact .inr hb'
      exact ⟨hbl.out b this, this⟩
    have o45 := P7.out.trans' o5
    have bR5 := bR3.out.only o45 (fun e => by have := (hS _ e).1; omega)
    have bX5 := bX3.out.only o45 (fun e => by have := (hS _ e).1; omega)
    have o5' := o3'.out.trans o45 (fun k hk => .inl (hS k hk).2)
    have x0 := bX5.c0
    have x1 := bX5.c1
    have y0 := bR5.c0
    have y1 := bR5.c1
    have f0 := bR5.fr 0
    have f1 := bR5.fr 1
    have P8 := Lib.hid h5
    have P9 := Lib.hid o5'
    have hlt : N < W5.heap.size := bR5.lt
    clear bR5 bX5 o45 o5 hsd h5 o5'
    go_wp2_with fail
    (try simp only [Exit.inBlock, Exit.then])
    refine bodyPost_ret (v := .agg #[.int .u64 x.k, .int .i64 x.i]) ?_ rfl ?_
    · rw [results_cell1 rfl]; go_simp
    · have o6 : Only [N] W5 ((W5.setCell ⟨N, 0, none⟩ (.int .u64 x.k)).setCell ⟨N, 1, none⟩ (.int .i64 x.i)) := ((Only.refl _ _).setCell (by simp) _).setCell (by simp) _
      refine ⟨rfl, _, us, P8.out.only o6 ?_, hh5, hp5.trans (P6.out.trans P4.out.2.2.1), rfl, ?_⟩
      · intro b hb' e
        simp only [List.mem_singleton] at e
        simp only [hown, List.mem_cons] at hb'
        rcases hb' with e2 | e2
        · omega
        · have := (hS b (by simpa using e2)).1; omega
      · exact P9.out.trans o6 (by simp; exact .inr (by omega))
  · have him' : ¬ (i : Int) < (m : Int) := by omega
    have him2 : decide ((i : Int) < (m : Int)) = false := decide_eq_false him'
    have hlen : ys.length = m := P4.out.2.2.2.2.2.1
    have hh3 : Hid (IsHeap (gOf ys) ys.length) := fun k hk0 hkn => by
      have hi9 := HI.out
      have hn9 := HN.out
      rw [P4.out.2.2.2.1 k (by omega) (by omega), P4.out.2.2.2.1 _ (by omega) (by omega)]
      exact P4.out.2.2.2.2.1 k hk0 (by omega)
    have x0 := bX3.out.c0
    have x1 := bX3.out.c1
    have y0 := bR3.out.c0
    have y1 := bR3.out.c1
    have f0 := bR3.out.fr 0
    have f1 := bR3.out.fr 1
    have P8 := Lib.hid h3
    have hlt : N < W3.heap.size := bR3.out.lt
    clear h3 hlen
    go_wp2_with fail
    (try simp only [Exit.inBlock, Exit.then])
    refine bodyPost_ret (v := .agg #[.int .u64 x.k, .int .i64 x.i]) ?_ rfl ?_
    · rw [results_cell1 rfl]; go_simp
    · have o6 : Only [N] W3 ((W3.setCell ⟨N, 0, none⟩ (.int .u64 x.k)).setCell ⟨N, 1, none⟩ (.int .i64 x.i)) := ((Only.refl _ _).setCell (by simp) _).setCell (by simp) _
      refine ⟨rfl, _, ys, P8.out.only o6 ?_, hh3.out, P4.out.2.2.1, rfl, ?_⟩
      · intro b hb' e
        simp only [List.mem_singleton] at e
        have := hbl.out b (by simp only [hown, Value.ownBlock] at hb' ⊢; exact hb')
        omega
      · exact o3'.out.trans o6 (by simp; exact .inr (by omega))

/-- Behind remove: a heap again. -/
theorem HeapOf.removed {w w' : World} {hb mb : Nat} {v v' : Value} {xs ys l l' : List It} (h1 : HeapIs w hb v mb xs) (h3 : xs.Perm l) (h5 : l.length ≤ 1000000) (h : HeapIs w' hb v' mb ys) (hh : IsHeap (gOf ys) ys.length) (hp : ys.Perm l')
    (hr : Rises l') (hl : l'.length ≤ l.length) (hv : v'.ownBlock = v.ownBlock) (ho : Only (hown hb v mb) w w') : ∃ S', HeapOf w' hb S' l' ∧ Moved w (hown hb v mb) w' S' := by
  refine ⟨hown hb v' mb, ⟨v', mb, ys, rfl, h, hh, hp, hr, by omega⟩, ho, fun b hb' => .inl ?_⟩
  simp only [hown, hv] at hb' ⊢
  exact hb'

set_option maxRecDepth 100000 in
set_option maxHeartbeats 1000000 in
theorem hPop (w : World) (hb : Nat) (S : List Nat) (l : List It) (h : HeapOf w hb S l) :
    Calls Tryd.prog 43 #[.pointer (some ⟨hb, 0, none⟩)] w fun e w' => e = .returned (.tuple #[(first l).val, .bool (!l.isEmpty)]) ∧ ∃ S', HeapOf w' hb S' l.tail ∧ Moved w S w' S' := by
  obtain ⟨v, mb, xs, rfl, h1, h2, h3, h4, h5⟩ := h
  have oA : Only [] w (w.alloc (.cells #[.int .u64 0, .int .i64 0] 35)) := (Only.refl [] w).alloc _
  obtain ⟨A, cap, ev⟩ := h1.row.form
  have c0 := h1.c0
  rw [ev] at c0
  have hhb : hb < w.heap.size := h1.lt hb (by simp [hown])
  by_cases h0 : 0 < xs.length
  · have hl : 0 < l.length := by rw [← h3.length_eq]; exact h0
    have e1 : first l = gOf xs 0 := by rw [first_gOf hl, heap_first h2 h3 h4 h0]
    have e2 : (!l.isEmpty) = true := by cases l <;> simp at hl ⊢
    rw [e1, e2]
    have hne : ((xs.length : Int) == 0) = false := by simp; intro e; subst e; simp at h0
    have h1' := h1.only0 oA
    have hrm := hRemove _ hb mb v xs h1' h2 0 h0 (by rw [h3.length_eq]; exact h5)
    have ht : l = gOf xs 0 :: l.tail := by
      cases l with
      | nil => simp at hl
      | cons y l => rw [← e1]; rfl
    have hpt : (xs.eraseIdx 0).Perm l.tail := by
      have := (eraseIdx_perm h0).symm.trans h3
      rw [ht] at this
      exact this.cons_inv
    have hrt : Rises l.tail := by rw [ht] at h4; exact (List.pairwise_cons.1 h4).2
    have bR : Box _ w.heap.size ⟨0, 0⟩ := Box.new w ⟨0, 0⟩
    have HX := Lib.hid (And.intro h1 (And.intro h1' (And.intro h2 (And.intro h3 (And.intro hpt (And.intro hrt h5))))))
    have HL : Hid (∀ b ∈ hown hb v mb, b < w.heap.size) := h1.lt
    clear h1 h1' h2 h3 h4 h5 e1 e2 hl ht hpt hrt
    unfold It.val at *
    generalize gOf xs 0 = x at *
    generalize hL : xs.length = n at *
    go_enter Tryd.func43, Tryd.ntmps43
    go_wp2_with fail
    refine hrm.mono ?_
    rintro e w2 ⟨rfl, v', ys, k1, k2, k3, k4, k5⟩
    have bR2 := bR.only k5 (fun e => by have := HL.out _ e; omega)
    have y0 := bR2.c0
    have y1 := bR2.c1
    have f0 := bR2.fr 0
    have f1 := bR2.fr 1
    have hlt : w.heap.size < w2.heap.size := bR2.lt
    have K := Lib.hid (And.intro k1 (And.intro k2 (And.intro k3 (And.intro k4 k5))))
    clear k1 k2 k3 k4 k5 bR bR2 hrm
    generalize hN : w.heap.size = N at *
    go_wp2_with fail
    (try simp only [Exit.inBlock, Exit.then])
    refine bodyPost_ret (v := .tuple #[.agg #[.int .u64 x.k, .int .i64 x.i], .bool true]) ?_ rfl ?_
    · rw [results_cell_tmp rfl]; go_simp
    · obtain ⟨h1, h1', h2, h3, hpt, hrt, h5⟩ := HX.out
      obtain ⟨k1, k2, k3, k4, k5⟩ := K.out
      have o6 : Only [N] w2 ((w2.setCell ⟨N, 0, none⟩ (.int .u64 x.k)).setCell ⟨N, 1, none⟩ (.int .i64 x.i)) := ((Only.refl _ _).setCell (by simp) _).setCell (by simp) _
      refine ⟨rfl, HeapOf.removed h1 h3 h5 (k1.only o6 ?_) k2 (k3.trans hpt) hrt (by simp) k4 ?_⟩
      · intro b hb' e
        simp only [List.mem_singleton] at e
        have := HL.out b (by simp only [hown, k4] at hb' ⊢; exact hb')
        omega
      · exact ((oA.mono (T := hown hb v mb) (by simp)).trans k5 (fun k hk => .inl hk)).trans o6 (by simp; exact .inr (by omega))
  · have hx : xs = [] := List.length_eq_zero_iff.1 (by omega)
    subst hx
    have hl : l = [] := h3.nil_eq.symm
    subst hl
    have hh := HeapOf.only0 (w := w) (hb := hb) (S := hown hb v mb) (l := []) ⟨v, mb, [], rfl, h1, h2, h3, h4, h5⟩ oA
    have HX := Lib.hid hh
    clear h1 h2 h3 h4 h5 h0 hh
    unfold It.val first
    go_enter Tryd.func43, Tryd.ntmps43
    go_wp2
    (try simp only [Exit.inBlock, Exit.then])
    refine bodyPost_ret (v := .tuple #[.agg #[.int .u64 0, .int .i64 0], .bool false]) ?_ rfl ?_
    · rw [results_cell_tmp rfl]; go_simp
    · exact ⟨rfl, _, HX.out, Moved.of_only oA⟩

set_option maxRecDepth 100000 in
set_option maxHeartbeats 1000000 in
theorem hDrop (w : World) (hb : Nat) (S : List Nat) (l : List It) (h : HeapOf w hb S l) (id : Int) (hid : i64ok id) :
    Calls Tryd.prog 46 #[.pointer (some ⟨hb, 0, none⟩), .int .i64 id] w fun e w' => e = .returned (.tuple #[((findId id l).getD ⟨0, 0⟩).val, .bool (findId id l).isSome]) ∧ ∃ S', HeapOf w' hb S' (dropId id l) ∧ Moved w S w' S' := by
  obtain ⟨v, mb, xs, rfl, h1, h2, h3, h4, h5⟩ := h
  have oA : Only [] w (w.alloc (.cells #[.int .u64 0, .int .i64 0] 35)) := (Only.refl [] w).alloc _
  have h1' := h1.only0 oA
  have c1 := h1'.c1
  have lk := h1'.map.look hid 75 Tryd.underlying75
  rcases hf : fOf xs id with _ | q
  · have hno : hasId id l = false := by
      rw [← hasId_perm id h3]
      exact (hasId_not _ _).2 ((fOf_none id).1 hf)
    rw [(dropId_none hno).1, (dropId_none hno).2]
    rw [hf] at lk
    have HX := Lib.hid (HeapOf.only0 (w := w) (hb := hb) (S := hown hb v mb) (l := l) ⟨v, mb, xs, rfl, h1, h2, h3, h4, h5⟩ oA)
    clear h1 h1' h2 h3 h4 h5 hf hno
    unfold It.val
    simp only [Option.getD_none, Option.isSome_none] at lk ⊢
    go_enter Tryd.func46, Tryd.ntmps46
    go_wp2
    (try simp only [Exit.inBlock, Exit.then])
    refine bodyPost_ret (v := .tuple #[.agg #[.int .u64 0, .int .i64 0], .bool false]) ?_ rfl ?_
    · rw [results_cell_tmp rfl]; go_simp
    · exact ⟨rfl, _, HX.out, Moved.of_only oA⟩
  · obtain ⟨k, hk, he, rfl⟩ := (fOf_iff h1.ids _ _).1 hf
    rw [hf] at lk
    obtain ⟨d1, d2⟩ := dropId_perm h3 h1.ids hk he
    rw [d2]
    simp only [Option.getD_some, Option.isSome_some] at lk ⊢
    have hrm := hRemove _ hb mb v xs h1' h2 k hk (by rw [h3.length_eq]; exact h5)
    have bR : Box _ w.heap.size ⟨0, 0⟩ := Box.new w ⟨0, 0⟩
    have hlr : (dropId id l).length ≤ l.length := (List.eraseP_sublist).length_le
    have HX := Lib.hid (And.intro h1 (And.intro h3 (And.intro d1 (And.intro (dropId_rises h4 id) (And.intro hlr h5)))))
    have HL : Hid (∀ b ∈ hown hb v mb, b < w.heap.size) := h1.lt
    clear h1 h1' h2 h3 h4 h5 d1 d2 hf he hlr
    unfold It.val at *
    generalize gOf xs k = x at *
    clear hk
    go_enter Tryd.func46, Tryd.ntmps46
    go_wp2_with fail
    refine hrm.mono ?_
    rintro e w2 ⟨rfl, v', ys, k1, k2, k3, k4, k5⟩
    have bR2 := bR.only k5 (fun e => by have := HL.out _ e; omega)
    have y0 := bR2.c0
    have y1 := bR2.c1
    have f0 := bR2.fr 0
    have f1 := bR2.fr 1
    have hlt : w.heap.size < w2.heap.size := bR2.lt
    have K := Lib.hid (And.intro k1 (And.intro k2 (And.intro k3 (And.intro k4 k5))))
    clear k1 k2 k3 k4 k5 bR bR2 hrm lk c1
    generalize hN : w.heap.size = N at *
    go_wp2_with fail
    (try simp only [Exit.inBlock, Exit.then])
    refine bodyPost_ret (v := .tuple #[.agg #[.int .u64 x.k, .int .i64 x.i], .bool true]) ?_ rfl ?_
    · rw [results_cell_tmp rfl]; go_simp
    · obtain ⟨h1, h3, d1, hrt, hlr, h5⟩ := HX.out
      obtain ⟨k1, k2, k3, k4, k5⟩ := K.out
      have o6 : Only [N] w2 ((w2.setCell ⟨N, 0, none⟩ (.int .u64 x.k)).setCell ⟨N, 1, none⟩ (.int .i64 x.i)) := ((Only.refl _ _).setCell (by simp) _).setCell (by simp) _
      refine ⟨rfl, HeapOf.removed h1 h3 h5 (k1.only o6 ?_) k2 (k3.trans d1) hrt hlr k4 ?_⟩
      · intro b hb' e
        simp only [List.mem_singleton] at e
        have := HL.out b (by simp only [hown, k4] at hb' ⊢; exact hb')
        omega
      · exact ((oA.mono (T := hown hb v mb) (by simp)).trans k5 (fun k hk => .inl hk)).trans o6 (by simp; exact .inr (by omega))
end Go.Proofs.YtfgffgicfieieaaDoor
