/-
  Contracts of the shard's Push, Min, Drop.
-/
import Derived.Test.YtfgffgicfieieaaDoorShardO
namespace Go.Proofs.YtfgffgicfieieaaDoor
set_option maxRecDepth 100000
open Go.RowKit Go.ChangeMaps Go.MapKept
set_option linter.unusedVariables false
set_option linter.unusedSimpArgs false

theorem parts_push {wd : Nat} {base : Int} {l : List It} {x : It} (hr : Rises l) (hno : ∀ y ∈ l, y.i ≠ x.i) :
    (inR wd base x.k = true → nears wd base (ins x l) = ins x (nears wd base l) ∧ fars wd base (ins x l) = fars wd base l) ∧ (inR wd base x.k = false → nears wd base (ins x l) = nears wd base l ∧ fars wd base (ins x l) = ins x (fars wd base l)) := by
  unfold nears fars
  rw [filter_ins hr hno, filter_ins hr hno]
  constructor
  · intro h; rw [h]; simp
  · intro h; rw [h]; simp
set_option maxRecDepth 100000 in
set_option maxHeartbeats 2000000 in
theorem sPush (w : World) (sb : Nat) (S : List Nat) (wd : Nat) (base : Int) (l : List It) (h : ShardOf w sb S wd base l) (x : It) (hx : x.ok) (hroom : l.length < 200000) :
    Calls Tryd.prog 10 #[.pointer (some ⟨sb, 0, none⟩), .agg #[.int .u64 x.k, .int .i64 x.i]] w fun e w' => e = .returned (.bool (!hasId x.i l && decide (base ≤ x.k))) ∧ ∃ S', ShardOf w' sb S' wd base (if (!hasId x.i l && decide (base ≤ x.k)) then ins x l else l) ∧ Moved w S w' S' := by
  have oA : Only [] w (w.alloc (.cells #[.int .u64 x.k, .int .i64 x.i] 35)) := (Only.refl [] w).alloc _
  have bX : Box _ w.heap.size x := Box.new w x
  have hhas : Hid (∀ W, Only [] w W → Calls Tryd.prog 30 #[.pointer (some ⟨sb, 0, none⟩), .int .i64 x.i] W fun e w' => e = .returned (.bool (hasId x.i l)) ∧ w' = W) := fun W o => sHasOf W sb S wd base l (h.only0 o) x.i hx.2
  have hbas : Hid (∀ W, Only [] w W → Calls Tryd.prog 31 #[.pointer (some ⟨sb, 0, none⟩)] W fun e w' => e = .returned (.int .u64 base) ∧ w' = W) := fun W o => sBaseOf W sb S wd base l (h.only0 o)
  have hNS : w.heap.size ∉ S := fun hc => by have := h.lt _ hc; omega
  have H := Lib.hid h
  obtain ⟨wb, hb, Sn, Sf, eS, h1, h2⟩ := h
  have x0 := bX.c0
  have x1 := bX.c1
  have HB := Lib.hid bX
  have OA := Lib.hid oA
  have H1 := Lib.hid (And.intro eS (And.intro h1 h2))
  obtain ⟨V, eV⟩ : ∃ V, w.alloc (.cells #[.int .u64 x.k, .int .i64 x.i] 35) = V := ⟨_, rfl⟩
  rw [eV] at x0 x1 HB OA
  clear bX h1 h2 oA
  obtain ⟨N, eN⟩ : ∃ N, w.heap.size = N := ⟨_, rfl⟩
  rw [eN] at x0 x1 HB hNS
  rcases hi : hasId x.i l with _ | _
  · rw [hi] at hhas
    by_cases hk : base ≤ x.k
    · have hk' : ¬ x.k < base := by omega
      rw [decide_eq_true hk]
      simp only [Bool.not_false, Bool.true_and, if_true]
      go_enter Tryd.func10, Tryd.ntmps10
      go_wp2_with (simp only [eV, eN])
      go_quiet (first | (go_at_call 30; exact Calls.quiet_of_same (hhas.out _ (OA.out.drewN _))) | (go_at_call 31; exact Calls.quiet_of_same (hbas.out _ (OA.out.drewN _))))
      have O5 : Hid (Only [] V (V.drewN nq)) := (Only.refl [] V).drewN nq
      have y0 : (V.drewN nq).cell? ⟨N, 0, none⟩ = some (.int .u64 x.k) := x0
      have y1 : (V.drewN nq).cell? ⟨N, 1, none⟩ = some (.int .i64 x.i) := x1
      generalize V.drewN nq = W at *
      clear x0 x1 eV hhas hbas
      obtain ⟨eS, h1, h2⟩ := H1.out
      have oW := OA.out.trans' O5.out
      have bW : Hid (Box W N x) := HB.out.only O5.out (by simp)
      have c0 := (h1.only0 oW).c0
      have c1 := (h1.only0 oW).c1
      have hno := (hasId_not _ _).1 hi
      have hni : hasId x.i (nears wd base l) = false := (hasId_not _ _).2 fun y hy => hno y (mem_nears.1 hy).1
      have hfi : hasId x.i (fars wd base l) = false := (hasId_not _ _).2 fun y hy => hno y (mem_fars.1 hy).1
      have hpl := parts_len wd base l
      have hD : Hid (Holds W.drew sb wb hb Sn Sf wd base (nears wd base l) (fars wd base l)) := h1.only0 oW.drew
      have OD : Hid (Only [] w W.drew) := oW.drew
      have hSi : Hid (Sits base (ins x l)) := h2.ins hx hk hno (by omega)
      have hpp : Hid _ := parts_push (wd := wd) (base := base) h2.rises hno
      have hNn : N ∉ Sn := fun hc => hNS (by rw [eS]; exact mem_sown.2 (.inr (.inl hc)))
      have hNf : N ∉ Sf := fun hc => hNS (by rw [eS]; exact mem_sown.2 (.inr (.inr hc)))
      have hp1 := wPush W.drew wb Sn wd base _ hD.out.wh x hx (by omega)
      have hp2 : Hid (∀ W', HeapOf W' hb Sf (fars wd base l) → Calls Tryd.prog 33 #[.pointer (some ⟨hb, 0, none⟩), .agg #[.int .u64 x.k, .int .i64 x.i]] W' fun e w' => e = .returned (.bool true) ∧ ∃ S', HeapOf w' hb S' (ins x (fars wd base l)) ∧ Moved W' Sf w' S') := fun W' hW' => by
        have := hPush W' hb Sf _ hW' x hx (by omega)
        rw [hfi] at this
        exact this
      rw [hni] at hp1
      simp only [Bool.not_false, Bool.true_and] at hp1
      have HN := Lib.hid eN
      clear h1 h2 oW hni hfi hpl hno hi OA O5 HB eN H1 H
      rcases hr : inR wd base x.k with _ | _
      · rw [hr] at hp1
        simp only [Bool.false_eq_true, if_false] at hp1
        have HP1 := Lib.hid hp1
        clear hp1
        go_wp2_with fail
        go_region_held3 (fun w' => w'.cell? ⟨sb, 0, none⟩ = some (.pointer (some ⟨wb, 0, none⟩)) ∧ w'.cell? ⟨sb, 1, none⟩ = some (.pointer (some ⟨hb, 0, none⟩)) ∧ w'.cell? ⟨N, 0, none⟩ = some (.int .u64 x.k) ∧ w'.cell? ⟨N, 1, none⟩ = some (.int .i64 x.i))
          (first | go_keep | (exact ⟨k0, k1, k2, k3⟩) | (exact ⟨m0, m1, m2, m3⟩))
          (first
            | (go_at_call 32; refine HP1.out.mono ?_; rintro e u1 ⟨rfl, S1, q1, q2⟩; have d1 := hD.out.wheel q1 q2; have b3 := (bW.out.only (Only.refl [] W).drew (by simp)).moved q2 hNn; have k0 := d1.1.c0; have k1 := d1.1.c1; have k2 := b3.1.c0; have k3 := b3.1.c1; have Q1 := Lib.hid (And.intro d1 b3.1); clear q1 q2 d1 b3)
            | (go_at_call 33; refine (hp2.out _ Q1.out.1.1.hp).mono ?_; rintro e u2 ⟨rfl, S2, q1, q2⟩; have d2 := Q1.out.1.1.heap q1 q2; have b4 := Q1.out.2.moved q2 hNf; have m0 := d2.1.c0; have m1 := d2.1.c1; have m2 := b4.1.c0; have m3 := b4.1.c1; have Q2 := Lib.hid d2; clear q1 q2 d2 b4))
        all_goals
          go_wp2_with fail
          go_ret
          obtain ⟨a1, a2⟩ := Q2.out
          refine ⟨rfl, sown sb S1 S2, ⟨wb, hb, S1, S2, rfl, ?_, hSi.out⟩, ?_⟩
          · rw [(hpp.out.2 hr).1, (hpp.out.2 hr).2]; exact a1
          · first | exact ((Moved.of_only (S := sown sb Sn Sf) OD.out).trans Q1.out.1.2).trans a2 | (rw [eS]; exact ((Moved.of_only (S := sown sb Sn Sf) OD.out).trans Q1.out.1.2).trans a2)
      · rw [hr] at hp1
        simp only [if_true] at hp1
        have HP1 := Lib.hid hp1
        clear hp1
        go_wp2_with fail
        first
          | go_region_with (first
                | (go_at_call 32; refine HP1.out.mono ?_; rintro e u1 ⟨rfl, S1, q1, q2⟩; have d1 := hD.out.wheel q1 q2; have b3 := (bW.out.only (Only.refl [] W).drew (by simp)).moved q2 hNn; have k0 := d1.1.c0; have k1 := d1.1.c1; have k2 := b3.1.c0; have k3 := b3.1.c1; have Q1 := Lib.hid d1; clear q1 q2 d1 b3))
          | fail
        all_goals
          go_wp2_with fail
          go_ret
          obtain ⟨a1, a2⟩ := Q1.out
          refine ⟨rfl, sown sb S1 Sf, ⟨wb, hb, S1, Sf, rfl, ?_, hSi.out⟩, ?_⟩
          · rw [(hpp.out.1 hr).1, (hpp.out.1 hr).2]; exact a1
          · first | exact (Moved.of_only (S := sown sb Sn Sf) OD.out).trans a2 | (rw [eS]; exact (Moved.of_only (S := sown sb Sn Sf) OD.out).trans a2)
    · have hk' : x.k < base := by omega
      rw [decide_eq_false hk]
      simp only [Bool.and_false, Bool.false_eq_true, if_false]
      clear hk
      go_enter Tryd.func10, Tryd.ntmps10
      go_wp2_with (simp only [eV, eN])
      go_quiet (first | (go_at_call 30; exact Calls.quiet_of_same (hhas.out _ (OA.out.drewN _))) | (go_at_call 31; exact Calls.quiet_of_same (hbas.out _ (OA.out.drewN _))))
      have O5 : Hid (Only [] w (V.drewN nq)) := OA.out.drewN nq
      generalize V.drewN nq = W at *
      go_wp2_with fail
      go_ret
      exact ⟨rfl, S, H.out.only0 O5.out, Moved.of_only O5.out⟩
  · rw [hi] at hhas
    simp only [Bool.not_true, Bool.false_and, Bool.false_eq_true, if_false]
    go_enter Tryd.func10, Tryd.ntmps10
    go_wp2_with (simp only [eV, eN])
    go_quiet (first | (go_at_call 30; exact Calls.quiet_of_same (hhas.out _ (OA.out.drewN _))) | (go_at_call 31; exact Calls.quiet_of_same (hbas.out _ (OA.out.drewN _))))
    have O5 : Hid (Only [] w (V.drewN nq)) := OA.out.drewN nq
    generalize V.drewN nq = W at *
    go_wp2_with fail
    go_ret
    exact ⟨rfl, S, H.out.only0 O5.out, Moved.of_only O5.out⟩

set_option maxRecDepth 100000 in
set_option maxHeartbeats 2000000 in
theorem sMin (w : World) (sb : Nat) (S : List Nat) (wd : Nat) (base : Int) (l : List It) (h : ShardOf w sb S wd base l) (hT : Tab w) :
    Calls Tryd.prog 27 #[.pointer (some ⟨sb, 0, none⟩)] w fun e w' => e = .returned (.tuple #[.agg #[.int .u64 (first l).k, .int .i64 (first l).i], .bool (!l.isEmpty)]) ∧ Only [] w w' := by
  obtain ⟨wb, hb, Sn, Sf, eS, h1, h2⟩ := h
  have oA : Only [] w (w.alloc (.cells #[.int .u64 0, .int .i64 0] 35)) := (Only.refl [] w).alloc _
  have bR : Box _ w.heap.size ⟨0, 0⟩ := Box.new w ⟨0, 0⟩
  have hall := h2.all (wd := wd)
  clear eS h2
  generalize nears wd base l = n at *
  generalize fars wd base l = f at *
  obtain ⟨V, eV⟩ : ∃ V, w.alloc (.cells #[.int .u64 0, .int .i64 0] 35) = V := ⟨_, rfl⟩
  rw [eV] at oA bR
  have hV := h1.only0 oA
  have c0 := hV.c0
  have hm1 := wMin V wb Sn wd base n hV.wh (hT.only0 oA)
  have H1 := Lib.hid hV
  have HO := Lib.hid (And.intro oA bR)
  clear h1 hV oA bR hT
  cases n with
  | nil =>
    rw [List.nil_append] at hall
    subst hall
    have e3 : first [] = ⟨0, 0⟩ := rfl
    rw [e3] at hm1
    simp only [List.isEmpty_nil, Bool.not_true] at hm1
    obtain ⟨y, ey⟩ : ∃ y, first f = y := ⟨_, rfl⟩
    obtain ⟨b, eb⟩ : ∃ b, (!f.isEmpty) = b := ⟨_, rfl⟩
    have hm2 : Hid (∀ W, HeapOf W hb Sf f → Calls Tryd.prog 51 #[.pointer (some ⟨hb, 0, none⟩)] W fun e w' => e = .returned (.tuple #[.agg #[.int .u64 y.k, .int .i64 y.i], .bool b]) ∧ Only [] W w') := fun W hW => by
      have := hMin W hb Sf f hW
      rw [ey, eb] at this
      exact this
    rw [ey, eb]
    clear e3 ey eb
    go_enter Tryd.func27, Tryd.ntmps27
    go_wp2_with (simp only [eV])
    refine hm1.mono ?_
    rintro e w2 ⟨rfl, o2⟩
    have h2 := H1.out.only0 (o2.alloc (.cells #[.int .u64 0, .int .i64 0] 35))
    have c1 := h2.c1
    have hm3 := hm2.out _ h2.hp
    have O2 := Lib.hid (HO.out.1.trans' (o2.alloc (.cells #[.int .u64 0, .int .i64 0] 35)))
    have b2 := Lib.hid (HO.out.2.only (o2.alloc (.cells #[.int .u64 0, .int .i64 0] 35)) (by simp))
    clear h2 hm2 hm1 o2 eV c0
    go_wp2_with fail
    refine hm3.mono ?_
    rintro e w4 ⟨rfl, o4⟩
    have b4 := b2.out.only o4 (by simp)
    have y0 := b4.c0
    have y1 := b4.c1
    have f0 := b4.fr 0
    have f1 := b4.fr 1
    have hlt : w.heap.size < w4.heap.size := b4.lt
    have O4 := Lib.hid (O2.out.trans' o4)
    clear b4 b2 hm3 o4 c1 O2
    obtain ⟨N, eN⟩ : ∃ N, w.heap.size = N := ⟨_, rfl⟩
    rw [eN] at y0 y1 f0 f1 hlt ⊢
    go_wp2_with fail
    (try simp only [Exit.inBlock, Exit.then])
    refine bodyPost_ret (v := .tuple #[.agg #[.int .u64 y.k, .int .i64 y.i], .bool b]) ?_ rfl ?_
    · rw [results_cell_tmp rfl]; go_simp
    · exact ⟨rfl, (O4.out.setCell (.inr (by rw [eN]; exact Nat.le_refl _)) _).setCell (.inr (by rw [eN]; exact Nat.le_refl _)) _⟩
  | cons x t =>
    have e1 : first l = x := by rw [← hall]; rfl
    have e2 : l.isEmpty = false := by rw [← hall]; rfl
    rw [e1, e2]
    have e3 : first (x :: t) = x := rfl
    rw [e3] at hm1
    simp only [List.isEmpty_cons, Bool.not_false] at hm1 ⊢
    clear e1 e2 e3 hall
    go_enter Tryd.func27, Tryd.ntmps27
    go_wp2_with (simp only [eV])
    refine hm1.mono ?_
    rintro e w2 ⟨rfl, o2⟩
    have O2 := Lib.hid (HO.out.1.trans' o2)
    have b2 := HO.out.2.only o2 (by simp)
    have y0 := b2.c0
    have y1 := b2.c1
    have f0 := b2.fr 0
    have f1 := b2.fr 1
    have hlt : w.heap.size < w2.heap.size := b2.lt
    clear b2 hm1 o2 eV c0
    obtain ⟨N, eN⟩ : ∃ N, w.heap.size = N := ⟨_, rfl⟩
    rw [eN] at y0 y1 f0 f1 hlt ⊢
    go_wp2_with fail
    (try simp only [Exit.inBlock, Exit.then])
    refine bodyPost_ret (v := .tuple #[.agg #[.int .u64 x.k, .int .i64 x.i], .bool true]) ?_ rfl ?_
    · rw [results_cell_tmp rfl]; go_simp
    · exact ⟨rfl, ((O2.out.setCell (.inr (by rw [eN]; exact Nat.le_refl _)) _).setCell (.inr (by rw [eN]; exact Nat.le_refl _)) _).alloc _⟩

set_option maxRecDepth 100000 in
set_option maxHeartbeats 2000000 in
theorem sDrop (w : World) (sb : Nat) (S : List Nat) (wd : Nat) (base : Int) (l : List It) (h : ShardOf w sb S wd base l) (id : Int) (hid : i64ok id) :
    Calls Tryd.prog 21 #[.pointer (some ⟨sb, 0, none⟩), .int .i64 id] w fun e w' => e = .returned (.tuple #[((findId id l).getD ⟨0, 0⟩).val, .bool (findId id l).isSome]) ∧ ∃ S', ShardOf w' sb S' wd base (dropId id l) ∧ Moved w S w' S' := by
  obtain ⟨wb, hb, Sn, Sf, rfl, h1, h2⟩ := h
  have oA : Only [] w (w.alloc (.cells #[.int .u64 0, .int .i64 0] 35)) := (Only.refl [] w).alloc _
  have bR : Box _ w.heap.size ⟨0, 0⟩ := Box.new w ⟨0, 0⟩
  have en : nears wd base (dropId id l) = dropId id (nears wd base l) := filter_drop h2.ids id
  have ef : fars wd base (dropId id l) = dropId id (fars wd base l) := filter_drop h2.ids id
  have hfind := parts_find (wd := wd) (base := base) h2.ids id
  have hN : w.heap.size ∉ sown sb Sn Sf := fun hc => by have := h1.lt _ hc; omega
  have hsd : Hid (Sits base (dropId id l)) := h2.drop id
  have hfn : findId id (nears wd base l) = none → dropId id (nears wd base l) = nears wd base l := fun e => (dropId_none ((hasId_not _ _).2 fun x hx => by simpa using List.find?_eq_none.1 e x hx)).1
  have hff : Hid (findId id (nears wd base l) ≠ none → dropId id (fars wd base l) = fars wd base l) := fun e => by
    refine (dropId_none ((hasId_not _ _).2 fun x hx hc => ?_)).1
    rcases hy : findId id (nears wd base l) with _ | y
    · exact e hy
    · have hy1 : y ∈ nears wd base l := List.mem_of_find?_eq_some hy
      have hy2 : y.i = id := by simpa using List.find?_some hy
      have hxy := h2.ids.eq (mem_fars.1 hx).1 (mem_nears.1 hy1).1 (by rw [hc, hy2])
      have h9 := (mem_fars.1 hx).2
      rw [hxy, (mem_nears.1 hy1).2] at h9
      cases h9
  have fin : Hid (∀ w' Sn' Sf', Holds w' sb wb hb Sn' Sf' wd base (dropId id (nears wd base l)) (dropId id (fars wd base l)) → ShardOf w' sb (sown sb Sn' Sf') wd base (dropId id l)) := fun w' Sn' Sf' hh => ⟨wb, hb, Sn', Sf', rfl, by rw [en, ef]; exact hh, hsd.out⟩
  rw [hfind]
  clear h2 en ef hfind hsd
  generalize dropId id l = ld at *
  generalize hn0 : nears wd base l = n at *
  generalize hf0 : fars wd base l = f at *
  clear hn0 hf0
  obtain ⟨V, eV⟩ : ∃ V, w.alloc (.cells #[.int .u64 0, .int .i64 0] 35) = V := ⟨_, rfl⟩
  rw [eV] at oA bR
  have hV := h1.only0 oA
  have c0 := hV.c0
  have hd1 := wDrop V wb Sn wd base n hV.wh id hid
  have hd2 : Hid (∀ W, HeapOf W hb Sf f → Calls Tryd.prog 46 #[.pointer (some ⟨hb, 0, none⟩), .int .i64 id] W fun e w' => e = .returned (.tuple #[((findId id f).getD ⟨0, 0⟩).val, .bool (findId id f).isSome]) ∧ ∃ S', HeapOf w' hb S' (dropId id f) ∧ Moved W Sf w' S') := fun W hW => hDrop W hb Sf f hW id hid
  have H1 := Lib.hid hV
  have HO := Lib.hid (And.intro oA bR)
  clear h1 hV oA bR
  unfold It.val at *
  rcases hx : findId id n with _ | x
  · rw [hx, hfn hx] at hd1
    rw [hfn hx] at fin
    simp only [Option.getD_none, Option.isSome_none] at hd1
    simp only [Option.none_or]
    clear hx hfn hff
    obtain ⟨y, ey⟩ : ∃ y, (findId id f).getD ⟨0, 0⟩ = y := ⟨_, rfl⟩
    obtain ⟨b, eb⟩ : ∃ b, (findId id f).isSome = b := ⟨_, rfl⟩
    rw [ey, eb] at hd2 ⊢
    clear ey eb
    go_enter Tryd.func21, Tryd.ntmps21
    go_wp2_with (simp only [eV])
    refine hd1.mono ?_
    rintro e w2 ⟨rfl, S2, q1, q2⟩
    obtain ⟨d1, m1⟩ := H1.out.wheel q1 q2
    have hN1 : w.heap.size ∉ Sn := fun hc => hN (mem_sown.2 (.inr (.inl hc)))
    obtain ⟨b2, n2⟩ := HO.out.2.moved m1 hN
    have D2 := Lib.hid (d1.only0 ((Only.refl [] w2).alloc (.cells #[.int .u64 0, .int .i64 0] 35)))
    have M2 := Lib.hid (((Moved.of_only (S := sown sb Sn Sf) HO.out.1).trans m1).still ((Only.refl [] w2).alloc (.cells #[.int .u64 0, .int .i64 0] 35)))
    have B2 := Lib.hid (b2.only ((Only.refl [] w2).alloc (.cells #[.int .u64 0, .int .i64 0] 35)) (by simp))
    have c1 := D2.out.c1
    have hd3 := hd2.out _ D2.out.hp
    have N2 := Lib.hid n2
    clear q1 q2 d1 m1 b2 n2 hd2 hd1 eV c0 hN hN1
    go_wp2_with fail
    refine hd3.mono ?_
    rintro e w4 ⟨rfl, S4, q1, q2⟩
    obtain ⟨d3, m3⟩ := D2.out.heap q1 q2
    obtain ⟨b4, n4⟩ := B2.out.moved m3 N2.out
    have y0 := b4.c0
    have y1 := b4.c1
    have f0 := b4.fr 0
    have f1 := b4.fr 1
    have hlt : w.heap.size < w4.heap.size := b4.lt
    have R4 := Lib.hid (And.intro d3 (And.intro (M2.out.trans m3) n4))
    clear q1 q2 d3 m3 b4 n4 hd3 c1 D2 M2 B2 N2
    obtain ⟨N, eN⟩ : ∃ N, w.heap.size = N := ⟨_, rfl⟩
    rw [eN] at y0 y1 f0 f1 hlt R4 ⊢
    go_wp2_with fail
    (try simp only [Exit.inBlock, Exit.then])
    refine bodyPost_ret (v := .tuple #[.agg #[.int .u64 y.k, .int .i64 y.i], .bool b]) ?_ rfl ?_
    · rw [results_cell_tmp rfl]; go_simp
    · obtain ⟨r1, r2, r3⟩ := R4.out
      have o6 : Only [N] w4 ((w4.setCell ⟨N, 0, none⟩ (.int .u64 y.k)).setCell ⟨N, 1, none⟩ (.int .i64 y.i)) := ((Only.refl _ _).setCell (by simp) _).setCell (by simp) _
      exact ⟨rfl, _, (fin.out _ _ _ r1).only o6 (fun b hb e => by simp at e; subst e; exact r3 hb), r2.1.trans o6 (by simp; exact .inr (by omega)), r2.2⟩
  · rw [hx] at hd1
    rw [hff.out (by rw [hx]; simp)] at fin
    simp only [Option.getD_some, Option.isSome_some] at hd1
    simp only [Option.some_or, Option.getD_some, Option.isSome_some]
    clear hx hfn hff hd2
    go_enter Tryd.func21, Tryd.ntmps21
    go_wp2_with (simp only [eV])
    refine hd1.mono ?_
    rintro e w2 ⟨rfl, S2, q1, q2⟩
    obtain ⟨d1, m1⟩ := H1.out.wheel q1 q2
    obtain ⟨b2, n2⟩ := HO.out.2.moved m1 hN
    have y0 := b2.c0
    have y1 := b2.c1
    have f0 := b2.fr 0
    have f1 := b2.fr 1
    have hlt : w.heap.size < w2.heap.size := b2.lt
    have R2 := Lib.hid (And.intro d1 (And.intro ((Moved.of_only (S := sown sb Sn Sf) HO.out.1).trans m1) n2))
    clear q1 q2 d1 m1 b2 n2 hd1 eV c0 hN
    obtain ⟨N, eN⟩ : ∃ N, w.heap.size = N := ⟨_, rfl⟩
    rw [eN] at y0 y1 f0 f1 hlt R2 ⊢
    go_wp2_with fail
    (try simp only [Exit.inBlock, Exit.then])
    refine bodyPost_ret (v := .tuple #[.agg #[.int .u64 x.k, .int .i64 x.i], .bool true]) ?_ rfl ?_
    · rw [results_cell_tmp rfl]; go_simp
    · obtain ⟨r1, r2, r3⟩ := R2.out
      have o6 : Only [N] w2 (((w2.setCell ⟨N, 0, none⟩ (.int .u64 x.k)).setCell ⟨N, 1, none⟩ (.int .i64 x.i)).alloc (.cells #[.int .u64 x.k, .int .i64 x.i] 35)) := (((Only.refl _ _).setCell (by simp) _).setCell (by simp) _).alloc _
      exact ⟨rfl, _, (fin.out _ _ _ r1).only o6 (fun b hb e => by simp at e; subst e; exact r3 hb), r2.1.trans o6 (by simp; exact .inr (by omega)), r2.2⟩
end Go.Proofs.YtfgffgicfieieaaDoor
