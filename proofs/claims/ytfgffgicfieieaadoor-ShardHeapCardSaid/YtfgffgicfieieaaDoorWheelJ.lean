/-
  Contracts of the wheel's Pop, Drop, Move.
-/
import Derived.Test.YtfgffgicfieieaaDoorWheelY
import Derived.Test.YtfgffgicfieieaaDoorWheelZ
namespace Go.Proofs.YtfgffgicfieieaaDoor
set_option maxRecDepth 100000
open Go.RowKit Go.ChangeMaps Go.MapKept
set_option linter.unusedVariables false
set_option linter.unusedSimpArgs false

theorem at_mem {row : List It} (hr : Rises row) {x : It} (hx : x ∈ row) : at_ row x < row.length ∧ gOf row (at_ row x) = x := by
  obtain ⟨j, hj, e⟩ := List.getElem_of_mem hx
  have e' : gOf row j = x := by rw [gOf_get hj]; exact e
  have : at_ row x = j := at_of (by omega) (fun k hk => by rw [← e']; exact rises_lt hr hk hj) (fun _ => by rw [e']; exact It.irrefl x)
  rw [this]
  exact ⟨hj, e'⟩
theorem parts_drop {wd : Nat} {base : Int} {l : List It} (h : Lies wd base l) {x : It} (hx : x ∈ l) :
    setN (fun i => part (pl wd base) i l) (pl wd base x) ((part (pl wd base) (pl wd base x) l).eraseIdx (at_ (part (pl wd base) (pl wd base x) l) x)) = fun i => part (pl wd base) i (dropId x.i l) := by
  have hm : x ∈ part (pl wd base) (pl wd base x) l := mem_part.2 ⟨hx, rfl⟩
  obtain ⟨a1, a2⟩ := at_mem (part_rises h.rises (pl wd base x)) hm
  have hd := (drop_at (h.ids.sub (part_sub (pl wd base x) l)) a1 (id := x.i) (by rw [a2])).1
  have hf : l.find? (fun y => y.i == x.i) = some x := (find_iff h.ids x.i x).2 ⟨hx, rfl⟩
  funext i
  unfold dropId
  rw [part_erase _ i x hf]
  by_cases e : i = pl wd base x
  · subst e
    rw [setN_same, if_pos rfl, hd]
    rfl
  · rw [setN_ne _ _ e, if_neg (fun e2 => e e2.symm)]
theorem Lies.drop {wd : Nat} {base : Int} {l : List It} (h : Lies wd base l) (id : Int) : Lies wd base (dropId id l) :=
  ⟨h.b0, dropId_rises h.rises id, h.ids.sub List.eraseP_sublist, fun x hx => h.near x (List.mem_of_mem_eraseP hx)⟩
theorem wRemoveOf (w : World) (wb : Nat) (S : List Nat) (wd : Nat) (base : Int) (l : List It) (h : WheelOf w wb S wd base l) (x : It) (hx : x ∈ l) :
    Calls Tryd.prog 67 #[.pointer (some ⟨wb, 0, none⟩), .agg #[.int .u64 x.k, .int .i64 x.i]] w fun e w' => e = .returned (.tuple #[]) ∧ ∃ S', WheelOf w' wb S' wd base (dropId x.i l) ∧ Moved w S w' S' := by
  obtain ⟨vs, ms, mb, rfl, hW, hL, hok, hlen, hwd, hb1⟩ := h
  have hm : x ∈ part (pl wd base) (pl wd base x) l := mem_part.2 ⟨hx, rfl⟩
  have := wRemove w wb mb wd vs ms base _ _ hW hwd hL.b0 hb1 x (hok x hx) (hL.near x hx) (part_rises hL.rises _) (Nat.le_trans (part_len _ _) (by omega)) (at_mem (part_rises hL.rises _) hm).1
  rw [parts_drop hL hx, ← keysOf_drop hL.ids] at this
  refine this.mono ?_
  rintro e w' ⟨rfl, vs', ms', q1, q2⟩
  exact ⟨rfl, _, ⟨_, _, _, rfl, q1, hL.drop x.i, fun y hy => hok y (List.mem_of_mem_eraseP hy), Nat.le_trans (List.eraseP_sublist).length_le hlen, hwd, hb1⟩, q2⟩

theorem Box.moved {w w' : World} {b : Nat} {x : It} {S S' : List Nat} (h : Box w b x) (hm : Moved w S w' S') (hb : b ∉ S) : Box w' b x ∧ b ∉ S' :=
  ⟨h.only hm.1 hb, fun hc => by rcases hm.2 b hc with h1 | h1; exact hb h1; have := h.lt; omega⟩

set_option maxRecDepth 100000 in
set_option maxHeartbeats 2000000 in
theorem wPop (w : World) (wb : Nat) (S : List Nat) (wd : Nat) (base : Int) (l : List It) (h : WheelOf w wb S wd base l) (hT : Tab w) :
    Calls Tryd.prog 42 #[.pointer (some ⟨wb, 0, none⟩)] w fun e w' => e = .returned (.tuple #[(first l).val, .bool (!l.isEmpty)]) ∧ ∃ S', WheelOf w' wb S' wd (if l.isEmpty then base else (first l).k) l.tail ∧ Moved w S w' S' := by
  have oA : Only [] w (w.alloc (.cells #[.int .u64 0, .int .i64 0] 35)) := (Only.refl [] w).alloc _
  have bR : Box _ w.heap.size ⟨0, 0⟩ := Box.new w ⟨0, 0⟩
  have hmin := wMin _ wb S wd base l (h.only0 oA) (hT.only0 oA)
  have HL : Hid (∀ b ∈ S, b < w.heap.size) := h.lt
  have H := Lib.hid (And.intro h (And.intro oA bR))
  clear h oA bR hT
  unfold It.val
  cases l with
  | nil =>
    go_enter Tryd.func42, Tryd.ntmps42
    go_wp2_with fail
    refine hmin.mono ?_
    rintro e w2 ⟨rfl, o2⟩
    have b2 := H.out.2.2.only o2 (by simp)
    have oT := Lib.hid (H.out.2.1.trans' o2)
    have hlt : w.heap.size < w2.heap.size := b2.lt
    have y0 := b2.c0
    have y1 := b2.c1
    have f0 := b2.fr 0
    have f1 := b2.fr 1
    clear b2 hmin o2
    generalize hN : w.heap.size = N at *
    unfold first
    simp only [List.isEmpty_nil, Bool.not_true, List.headD_nil]
    go_wp2_with fail
    (try simp only [Exit.inBlock, Exit.then])
    refine bodyPost_ret (v := .tuple #[.agg #[.int .u64 0, .int .i64 0], .bool false]) ?_ rfl ?_
    · rw [results_cell_tmp rfl]; go_simp
    · have o9 : Only [] w (((w2.setCell ⟨N, 0, none⟩ (.int .u64 0)).setCell ⟨N, 1, none⟩ (.int .i64 0)).alloc (.cells #[.int .u64 0, .int .i64 0] 35)) := ((oT.out.setCell (.inr (by rw [hN]; exact Nat.le_refl _)) _).setCell (.inr (by rw [hN]; exact Nat.le_refl _)) _).alloc _
      exact ⟨rfl, S, H.out.1.only0 o9, Moved.of_only o9⟩
  | cons x t =>
    have hx : x ∈ x :: t := by simp
    have hxf : first (x :: t) = x := rfl
    rw [hxf] at hmin ⊢
    simp only [List.isEmpty_cons, Bool.not_false, List.tail_cons, if_false] at hmin ⊢
    simp only [Bool.false_eq_true, if_false]
    have hdt : dropId x.i (x :: t) = t := by unfold dropId; rw [List.eraseP_cons_of_pos (by simp)]
    have hok := H.out.1.fit x hx
    have hk1 : x.k ≤ 18446744073709551615 := by
      have := hok.1
      simp [Lit.wf, IntKind.min, IntKind.max, IntKind.signed, IntKind.bits] at this
      omega
    have hli := H.out.1.lies
    have hbx : base ≤ x.k := (hli.near x hx).1
    have htk : ∀ y ∈ t, x.k ≤ y.k := fun y hy => by
      have := (List.pairwise_cons.1 hli.rises).1 y hy
      rcases (It.lt_iff x y).1 this with h | ⟨h, _⟩ <;> omega
    have HK := Lib.hid (And.intro hdt (And.intro hbx (And.intro htk hk1)))
    clear hdt hok hk1 hli hbx htk
    go_enter Tryd.func42, Tryd.ntmps42
    go_wp2_with fail
    refine hmin.mono ?_
    rintro e w2 ⟨rfl, o2⟩
    have b2 := H.out.2.2.only o2 (by simp)
    have oT := Lib.hid (H.out.2.1.trans' o2)
    have hlt : w.heap.size < w2.heap.size := b2.lt
    have y0 := b2.c0
    have y1 := b2.c1
    have f0 := b2.fr 0
    have f1 := b2.fr 1
    have HB2 := Lib.hid b2
    clear b2 hmin o2
    generalize hN : w.heap.size = N at *
    have hNS : N ∉ S := fun hc => by have := HL.out N hc; omega
    have h2S : w2.heap.size ∉ S := fun hc => by have := HL.out _ hc; omega
    have hrm := wRemoveOf _ wb S wd base (x :: t) (H.out.1.only0 (oT.out.alloc (.cells #[.int .u64 x.k, .int .i64 x.i] 35))) x hx
    rw [HK.out.1] at hrm
    have bX3 : Hid (Box (w2.alloc (.cells #[.int .u64 x.k, .int .i64 x.i] 35)) w2.heap.size x) := Box.new w2 x
    have bR3 : Hid (Box (w2.alloc (.cells #[.int .u64 x.k, .int .i64 x.i] 35)) N ⟨0, 0⟩) := HB2.out.only ((Only.refl [] w2).alloc _) (by simp)
    have o3 : Hid (Only [] w (w2.alloc (.cells #[.int .u64 x.k, .int .i64 x.i] 35))) := oT.out.alloc _
    go_wp2_with fail
    refine hrm.mono ?_
    rintro e w4 ⟨rfl, S4, q1, q2⟩
    obtain ⟨bX4, nX4⟩ := bX3.out.moved q2 h2S
    obtain ⟨bR4, nR4⟩ := bR3.out.moved q2 hNS
    have htn := wTurn w4 wb S4 wd base t q1 x.k HK.out.2.1 HK.out.2.2.1 HK.out.2.2.2
    have R4 := Lib.hid (And.intro (And.intro bX4 nX4) (And.intro (And.intro bR4 nR4) ((Moved.of_only (S := S) o3.out).trans q2)))
    have x0 := bX4.c0
    have x1 := bX4.c1
    clear hrm q1 q2 bX4 nX4 bR4 nR4 y0 y1 f0 f1
    generalize hN2 : w2.heap.size = N2 at *
    go_wp2_with fail
    refine htn.mono ?_
    rintro e w5 ⟨rfl, S5, q1, q2⟩
    obtain ⟨bX5, nX5⟩ := R4.out.1.1.moved q2 R4.out.1.2
    obtain ⟨bR5, nR5⟩ := R4.out.2.1.1.moved q2 R4.out.2.1.2
    have y0 := bR5.c0
    have y1 := bR5.c1
    have f0 := bR5.fr 0
    have f1 := bR5.fr 1
    clear x0 x1 htn
    have x0 := bX5.c0
    have x1 := bX5.c1
    have R5 := Lib.hid (And.intro q1 (And.intro (R4.out.2.2.trans q2) nR5))
    have hlt5 : N < w5.heap.size := bR5.lt
    clear q1 q2 bX5 nX5 bR5 nR5
    go_wp2_with fail
    (try simp only [Exit.inBlock, Exit.then])
    refine bodyPost_ret (v := .tuple #[.agg #[.int .u64 x.k, .int .i64 x.i], .bool true]) ?_ rfl ?_
    · rw [results_cell_tmp rfl]; go_simp
    · obtain ⟨q1, q2, nR⟩ := R5.out
      have o6 : Only [N] w5 ((w5.setCell ⟨N, 0, none⟩ (.int .u64 x.k)).setCell ⟨N, 1, none⟩ (.int .i64 x.i)) := ((Only.refl _ _).setCell (by simp) _).setCell (by simp) _
      exact ⟨rfl, S5, q1.only o6 (fun b hb e => by simp at e; subst e; exact nR hb), q2.1.trans o6 (by simp; exact .inr (by omega)), q2.2⟩

set_option maxRecDepth 100000 in
set_option maxHeartbeats 2000000 in
theorem wDrop (w : World) (wb : Nat) (S : List Nat) (wd : Nat) (base : Int) (l : List It) (h : WheelOf w wb S wd base l) (id : Int) (hid : i64ok id) :
    Calls Tryd.prog 45 #[.pointer (some ⟨wb, 0, none⟩), .int .i64 id] w fun e w' => e = .returned (.tuple #[((findId id l).getD ⟨0, 0⟩).val, .bool (findId id l).isSome]) ∧ ∃ S', WheelOf w' wb S' wd base (dropId id l) ∧ Moved w S w' S' := by
  have oA : Only [] w (w.alloc (.cells #[.int .u64 0, .int .i64 0] 35)) := (Only.refl [] w).alloc _
  have bR : Box _ w.heap.size ⟨0, 0⟩ := Box.new w ⟨0, 0⟩
  have HL : Hid (∀ b ∈ S, b < w.heap.size) := h.lt
  have H := Lib.hid (And.intro h (And.intro oA bR))
  obtain ⟨vs, ms, mb, eS, hW, -⟩ := h.only0 oA
  have lk := hW.map.look hid 71 Tryd.underlying71
  have c2 := hW.blk.c2
  have hids := h.lies.ids
  clear h oA hW bR eS
  unfold It.val
  rcases hf : findId id l with _ | x
  · have hk : keysOf l id = none := by unfold keysOf; rw [hf]; rfl
    have hno : hasId id l = false := by rw [← keysOf_some, hk]; rfl
    rw [(dropId_none hno).1]
    rw [hk] at lk
    clear hf hk hno
    simp only [Option.getD_none, Option.isSome_none] at lk ⊢
    go_enter Tryd.func45, Tryd.ntmps45
    go_wp2_with fail
    (try simp only [Exit.inBlock, Exit.then])
    refine bodyPost_ret (v := .tuple #[.agg #[.int .u64 0, .int .i64 0], .bool false]) ?_ rfl ?_
    · rw [results_cell_tmp rfl]; go_simp
    · first
        | exact ⟨rfl, S, H.out.1.only0 H.out.2.1, Moved.of_only H.out.2.1⟩
        | (have o9 := (H.out.2.1.setCell (p := ⟨w.heap.size, 0, none⟩) (.inr (Nat.le_refl _)) (.int .u64 0)).setCell (p := ⟨w.heap.size, 1, none⟩) (.inr (Nat.le_refl _)) (.int .i64 0)
           exact ⟨rfl, S, H.out.1.only0 o9, Moved.of_only o9⟩)
  · obtain ⟨hx, hxi⟩ := (find_iff hids id x).1 hf
    have hk : keysOf l id = some x.k := by unfold keysOf; rw [hf]; rfl
    rw [hk] at lk
    simp only [Option.getD_some, Option.isSome_some] at lk ⊢
    subst hxi
    have hNS : w.heap.size ∉ S := fun hc => by have := HL.out _ hc; omega
    obtain ⟨V, eV⟩ : ∃ V, w.alloc (.cells #[.int .u64 0, .int .i64 0] 35) = V := ⟨_, rfl⟩
    rw [eV] at lk c2 H
    have hsz : V.heap.size = w.heap.size + 1 := by rw [← eV]; simp
    have h2S : V.heap.size ∉ S := fun hc => by have := HL.out _ hc; omega
    have hrm := wRemoveOf _ wb S wd base l (H.out.1.only0 (H.out.2.1.alloc (.cells #[.int .u64 x.k, .int .i64 x.i] 35))) x hx
    have bX3 : Hid (Box (V.alloc (.cells #[.int .u64 x.k, .int .i64 x.i] 35)) V.heap.size x) := Box.new V x
    have bR3 : Hid (Box (V.alloc (.cells #[.int .u64 x.k, .int .i64 x.i] 35)) w.heap.size ⟨0, 0⟩) := H.out.2.2.only ((Only.refl [] V).alloc _) (by simp)
    have o3 : Hid (Only [] w (V.alloc (.cells #[.int .u64 x.k, .int .i64 x.i] 35))) := H.out.2.1.alloc _
    have hVlt : w.heap.size < V.heap.size := by omega
    clear hf hk hids hsz
    go_enter Tryd.func45, Tryd.ntmps45
    go_wp2_with (simp only [eV])
    refine hrm.mono ?_
    rintro e w4 ⟨rfl, S4, q1, q2⟩
    obtain ⟨bX4, nX4⟩ := bX3.out.moved q2 h2S
    obtain ⟨bR4, nR4⟩ := bR3.out.moved q2 hNS
    have x0 := bX4.c0
    have x1 := bX4.c1
    have y0 := bR4.c0
    have y1 := bR4.c1
    have f0 := bR4.fr 0
    have f1 := bR4.fr 1
    have R5 := Lib.hid (And.intro q1 (And.intro ((Moved.of_only (S := S) o3.out).trans q2) nR4))
    have hlt5 : w.heap.size < w4.heap.size := bR4.lt
    clear hrm q1 q2 bX4 nX4 bR4 nR4 lk c2 eV
    generalize hN : w.heap.size = N at *
    generalize hN2 : V.heap.size = N2 at *
    go_wp2_with fail
    (try simp only [Exit.inBlock, Exit.then])
    refine bodyPost_ret (v := .tuple #[.agg #[.int .u64 x.k, .int .i64 x.i], .bool true]) ?_ rfl ?_
    · rw [results_cell_tmp rfl]; go_simp
    · obtain ⟨q1, q2, nR⟩ := R5.out
      have o6 : Only [N] w4 ((w4.setCell ⟨N, 0, none⟩ (.int .u64 x.k)).setCell ⟨N, 1, none⟩ (.int .i64 x.i)) := ((Only.refl _ _).setCell (by simp) _).setCell (by simp) _
      exact ⟨rfl, S4, q1.only o6 (fun b hb e => by simp at e; subst e; exact nR hb), q2.1.trans o6 (by simp; exact .inr (by omega)), q2.2⟩

/-- May the base go there? -/
def mayGo (base : Int) (l : List It) (to : Int) : Bool := decide (base ≤ to) && (l.isEmpty || decide (to ≤ (first l).k))
set_option maxRecDepth 100000 in
set_option maxHeartbeats 2000000 in
theorem wMove (w : World) (wb : Nat) (S : List Nat) (wd : Nat) (base : Int) (l : List It) (h : WheelOf w wb S wd base l) (hT : Tab w) (to : Int) (t0 : 0 ≤ to) (t1 : to ≤ 18446744073709551615) :
    Calls Tryd.prog 52 #[.pointer (some ⟨wb, 0, none⟩), .int .u64 to] w fun e w' => e = .returned (.bool (mayGo base l to)) ∧ ∃ S', WheelOf w' wb S' wd (if mayGo base l to then to else base) l ∧ Moved w S w' S' := by
  have hmin := wMin w wb S wd base l h hT
  have HL : Hid (∀ b ∈ S, b < w.heap.size) := h.lt
  have H := Lib.hid h
  have hrises := h.lies.rises
  clear h hT
  have hcase : (to < base ∧ mayGo base l to = false) ∨ (base ≤ to ∧ l.isEmpty = true ∧ mayGo base l to = true) ∨ (base ≤ to ∧ l.isEmpty = false ∧ (first l).k < to ∧ mayGo base l to = false) ∨ (base ≤ to ∧ l.isEmpty = false ∧ to ≤ (first l).k ∧ mayGo base l to = true) := by
    unfold mayGo
    by_cases c1 : base ≤ to
    · rcases c2 : l.isEmpty with _ | _
      · by_cases c3 : to ≤ (first l).k
        · simp [c1, c3]
        · simp [c1, c3]; omega
      · simp [c1]
    · simp [c1]; omega
  have hall : Hid (mayGo base l to = true → ∀ x ∈ l, to ≤ x.k) := fun hm x hx => by
    unfold mayGo at hm
    cases l with
    | nil => cases hx
    | cons y t =>
      simp [first] at hm
      rcases List.mem_cons.1 hx with rfl | hx
      · exact hm.2
      · have := (List.pairwise_cons.1 hrises).1 x hx
        rcases (It.lt_iff y x).1 this with h | ⟨h, _⟩ <;> omega
  have hbs := H.out.bases
  generalize first l = x at *
  rcases hcase with ⟨c, hm⟩ | ⟨c, ce, hm⟩ | ⟨c, ce, cx, hm⟩ | ⟨c, ce, cx, hm⟩
  all_goals
    rw [hm]
    simp only [if_true, if_false, Bool.false_eq_true]
    try rw [ce] at hmin
    go_enter Tryd.func52, Tryd.ntmps52
    go_wp2_with fail
    refine hmin.mono ?_
    rintro e w2 ⟨rfl, o2⟩
    have hW2 := H.out.only0 (o2.alloc (.cells #[.int .u64 x.k, .int .i64 x.i] 35))
    have o3 : Hid (Only [] w (w2.alloc (.cells #[.int .u64 x.k, .int .i64 x.i] 35))) := o2.alloc _
    obtain ⟨c1, f1⟩ : (w2.alloc (.cells #[.int .u64 x.k, .int .i64 x.i] 35)).cell? ⟨wb, 1, none⟩ = some (.int .u64 base) ∧ True := by
      obtain ⟨vs, ms, mb, -, hW, -⟩ := hW2
      exact ⟨hW.blk.c1, trivial⟩
    obtain ⟨c1', -⟩ : w2.cell? ⟨wb, 1, none⟩ = some (.int .u64 base) ∧ True := by
      obtain ⟨vs, ms, mb, -, hW, -⟩ := H.out.only0 o2
      exact ⟨hW.blk.c1, trivial⟩
    have HW2 := Lib.hid hW2
    clear hmin o2 hW2 f1
    try (have htn := wTurn _ wb S wd base l HW2.out to c (hall.out hm) t1)
    go_wp2_with fail
    first
      | (go_ret
         exact ⟨rfl, S, HW2.out, Moved.of_only o3.out⟩)
      | (refine htn.mono ?_
         rintro e w5 ⟨rfl, S5, q1, q2⟩
         have R5 := Lib.hid (And.intro q1 q2)
         clear q1 q2 htn
         go_wp2_with fail
         go_ret
         exact ⟨rfl, S5, R5.out.1, (Moved.of_only o3.out).trans R5.out.2⟩)
end Go.Proofs.YtfgffgicfieieaaDoor
