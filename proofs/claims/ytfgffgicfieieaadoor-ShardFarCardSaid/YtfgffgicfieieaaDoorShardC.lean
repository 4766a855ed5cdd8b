/-
  Contracts of the document's Wheel that takes what lies beyond, too: Push, Pop, Move.
-/
import Derived.Test.YtfgffgicfieieaaDoorWheelJ
namespace Go.Proofs.YtfgffgicfieieaaDoor
set_option maxRecDepth 100000
open Go.RowKit Go.ChangeMaps Go.MapKept
set_option linter.unusedVariables false
set_option linter.unusedSimpArgs false

/-- The other cells of the document's wheel. -/
def Rw (wd : Nat) (base : Int) : TypeId × List Value := (43, [.int .u64 base, .int .i64 (wd : Int), .bool true])
/-- The document's wheel at xb. -/
def RefOf (w : World) (xb : Nat) (S : List Nat) (wd : Nat) (base : Int) (l : List It) : Prop := ItemsOf (Rw wd base) w xb S l
section
variable {w w' : World} {xb wd : Nat} {S T : List Nat} {base : Int} {l : List It}
theorem RefOf.only (h : RefOf w xb S wd base l) (ho : Only T w w') (hT : ∀ b ∈ S, b ∉ T) : RefOf w' xb S wd base l := ItemsOf.only h ho hT
theorem RefOf.only0 (h : RefOf w xb S wd base l) (ho : Only [] w w') : RefOf w' xb S wd base l := h.only ho (by simp)
theorem RefOf.lt (h : RefOf w xb S wd base l) : ∀ b ∈ S, b < w.heap.size := ItemsOf.lt h
theorem RefOf.cells (h : RefOf w xb S wd base l) : w.cell? ⟨xb, 1, none⟩ = some (.int .u64 base) ∧ w.cell? ⟨xb, 2, none⟩ = some (.int .i64 (wd : Int)) ∧ w.cell? ⟨xb, 3, none⟩ = some (.bool true) ∧ ∀ k, w.frozen? ⟨xb, k, none⟩ = false := by
  obtain ⟨v, rfl, h1, h2⟩ := h
  have hb := h1.blk
  refine ⟨?_, ?_, ?_, fun k => h1.fr k⟩
  · rw [cell_of_row w xb 1 _ _ _ hb]; rfl
  · rw [cell_of_row w xb 2 _ _ _ hb]; rfl
  · rw [cell_of_row w xb 3 _ _ _ hb]; rfl
theorem RefOf.rebase (h : RefOf w xb S wd base l) (to : Int) : RefOf (w.setCell ⟨xb, 1, none⟩ (.int .u64 to)) xb S wd to l ∧ Only [xb] w (w.setCell ⟨xb, 1, none⟩ (.int .u64 to)) ∧ xb ∈ S := by
  obtain ⟨v, rfl, h1, h2⟩ := h
  have ho : Only [xb] w (w.setCell ⟨xb, 1, none⟩ (.int .u64 to)) := (Only.refl [xb] w).setCell (.inl (by simp)) _
  refine ⟨⟨v, rfl, ⟨?_, h1.typ, h1.row.keep fun g hg => ho.block g (h1.row.lt hg) (by simpa using (h1.xbg hg).symm)⟩, h2⟩, ho, by simp [iown]⟩
  have hb := h1.blk
  simp only [Rw] at hb ⊢
  simp [World.setCell, Array.getElem?_modify, hb]
theorem RefOf.moved (h : RefOf w xb S wd base l) (to : Int) : Moved w S (w.setCell ⟨xb, 1, none⟩ (.int .u64 to)) S := by
  obtain ⟨-, h2, h3⟩ := h.rebase to
  exact ⟨h2.mono (by simp; exact .inl h3), fun b hb => .inl hb⟩
end

set_option maxRecDepth 100000 in
set_option maxHeartbeats 2000000 in
theorem rPush (w : World) (xb : Nat) (S : List Nat) (wd : Nat) (base : Int) (l : List It) (h : RefOf w xb S wd base l) (hwd : wd ≤ 40) (b0 : 0 ≤ base) (b1 : base ≤ 18446744073709551615) (x : It) (hx : x.ok) (hroom : l.length < 1000000) :
    Calls Tryd.prog 11 #[.pointer (some ⟨xb, 0, none⟩), .agg #[.int .u64 x.k, .int .i64 x.i]] w fun e w' => e = .returned (.bool (!hasId x.i l && decide (base ≤ x.k))) ∧ ∃ S', RefOf w' xb S' wd base (if (!hasId x.i l && decide (base ≤ x.k)) then ins x l else l) ∧ Moved w S w' S' := by
  have kk : 0 ≤ x.k ∧ x.k ≤ 18446744073709551615 := by
    have := hx.1
    simp [Lit.wf, IntKind.min, IntKind.max, IntKind.signed, IntKind.bits] at this
    omega
  have oA : Only [] w (w.alloc (.cells #[.int .u64 x.k, .int .i64 x.i] 35)) := (Only.refl [] w).alloc _
  have bX : Box _ w.heap.size x := Box.new w x
  have hlv := rlevel_any base x.k (wd : Int) b0 b1 kk.1 kk.2
  rw [wid_nat hwd] at hlv
  have hW1 := h.only0 oA
  obtain ⟨c1, c2, c3, -⟩ := hW1.cells
  have x0 := bX.c0
  have x1 := bX.c1
  have HW := Lib.hid (And.intro h (And.intro hW1 (And.intro oA bX)))
  have hpu : Hid (∀ W, RefOf W xb S wd base l → Calls Tryd.prog 18 #[.pointer (some ⟨xb, 0, none⟩), .agg #[.int .u64 x.k, .int .i64 x.i]] W fun e w' => e = .returned (.bool (!hasId x.i l)) ∧ ∃ S', RefOf w' xb S' wd base (if hasId x.i l then l else ins x l) ∧ Moved W S w' S') := fun W hW => xPush (Rw wd base) W xb S l hW x hroom
  have hlc : (¬ base ≤ x.k ∧ levM wd base x.k < 0) ∨ (base ≤ x.k ∧ ¬ levM wd base x.k < 0 ∧ 2 < levM wd base x.k) ∨ (base ≤ x.k ∧ ¬ levM wd base x.k < 0 ∧ ¬ 2 < levM wd base x.k) := by
    rcases levM_cases wd base x.k with ⟨_, _⟩ | ⟨_, h | h | h | h⟩ <;> omega
  generalize hV : w.alloc (.cells #[.int .u64 x.k, .int .i64 x.i] 35) = V at *
  clear h hW1 oA bX
  generalize levM wd base x.k = lv at *
  rcases hlc with ⟨hre, hlc⟩ | ⟨hre, hl1, hl2⟩ | ⟨hre, hl1, hl2⟩
  · rw [decide_eq_false hre]
    simp only [Bool.and_false, Bool.false_eq_true, if_false]
    go_enter Tryd.func11, Tryd.ntmps11
    go_wp2_with (simp only [hV])
    go_still_tail 10, (by kernel_rfl)
    change wpList _ _ _ _ _ V.drew
    go_wp2_with (go_at_call 34; refine (hlv _).mono ?_; rintro e w' ⟨rfl, rfl⟩)
    go_ret
    exact ⟨rfl, S, HW.out.1.only0 HW.out.2.2.1.drew, Moved.of_only HW.out.2.2.1.drew⟩
  · rw [decide_eq_true hre]
    simp only [Bool.and_true]
    have eI : (if (!hasId x.i l) = true then ins x l else l) = (if hasId x.i l = true then l else ins x l) := by cases hasId x.i l <;> rfl
    rw [eI]
    clear eI
    generalize (if hasId x.i l = true then l else ins x l) = LL at *
    generalize (!hasId x.i l) = bb at *
    go_enter Tryd.func11, Tryd.ntmps11
    go_wp2_with (simp only [hV])
    go_still_tail 10, (by kernel_rfl)
    change wpList _ _ _ _ _ V.drew
    go_wp2_with (go_at_call 34; refine (hlv _).mono ?_; rintro e w' ⟨rfl, rfl⟩)
    have x0' : V.drew.cell? ⟨w.heap.size, 0, none⟩ = some (.int .u64 x.k) := x0
    have x1' : V.drew.cell? ⟨w.heap.size, 1, none⟩ = some (.int .i64 x.i) := x1
    obtain ⟨V2, eV2⟩ : ∃ V2, V.drew = V2 := ⟨_, rfl⟩
    rw [eV2] at x0' x1' ⊢
    have o2 : Hid (Only [] w V2.drew) := by rw [← eV2]; exact HW.out.2.2.1.drew.drew
    clear x0 x1 c1 c2 c3 eV2
    go_still_tail 4, (by kernel_rfl)
    change wpList _ _ _ _ _ V2.drew
    go_wp2_with fail
    refine (hpu.out _ (HW.out.1.only0 o2.out)).mono ?_
    rintro e w5 ⟨rfl, S5, q1, q2⟩
    have R5 := Lib.hid (And.intro q1 q2)
    clear q1 q2
    go_wp2_with fail
    go_ret
    exact ⟨rfl, S5, R5.out.1, (Moved.of_only o2.out).trans R5.out.2⟩

  · rw [decide_eq_true hre]
    simp only [Bool.and_true]
    have eI : (if (!hasId x.i l) = true then ins x l else l) = (if hasId x.i l = true then l else ins x l) := by cases hasId x.i l <;> rfl
    rw [eI]
    clear eI
    generalize (if hasId x.i l = true then l else ins x l) = LL at *
    generalize (!hasId x.i l) = bb at *
    go_enter Tryd.func11, Tryd.ntmps11
    go_wp2_with (simp only [hV])
    go_still_tail 10, (by kernel_rfl)
    change wpList _ _ _ _ _ V.drew
    go_wp2_with (go_at_call 34; refine (hlv _).mono ?_; rintro e w' ⟨rfl, rfl⟩)
    have x0' : V.drew.cell? ⟨w.heap.size, 0, none⟩ = some (.int .u64 x.k) := x0
    have x1' : V.drew.cell? ⟨w.heap.size, 1, none⟩ = some (.int .i64 x.i) := x1
    obtain ⟨V2, eV2⟩ : ∃ V2, V.drew = V2 := ⟨_, rfl⟩
    rw [eV2] at x0' x1' ⊢
    have o2 : Hid (Only [] w V2.drew) := by rw [← eV2]; exact HW.out.2.2.1.drew.drew
    clear x0 x1 c1 c2 c3 eV2
    go_still_tail 4, (by kernel_rfl)
    change wpList _ _ _ _ _ V2.drew
    go_wp2_with fail
    refine (hpu.out _ (HW.out.1.only0 o2.out)).mono ?_
    rintro e w5 ⟨rfl, S5, q1, q2⟩
    have R5 := Lib.hid (And.intro q1 q2)
    clear q1 q2
    go_wp2_with fail
    go_ret
    exact ⟨rfl, S5, R5.out.1, (Moved.of_only o2.out).trans R5.out.2⟩

set_option maxRecDepth 100000 in
set_option maxHeartbeats 2000000 in
theorem rMove (w : World) (xb : Nat) (S : List Nat) (wd : Nat) (base : Int) (l : List It) (h : RefOf w xb S wd base l) (to : Int) :
    Calls Tryd.prog 8 #[.pointer (some ⟨xb, 0, none⟩), .int .u64 to] w fun e w' => e = .returned (.bool (mayGo base l to)) ∧ ∃ S', RefOf w' xb S' wd (if mayGo base l to then to else base) l ∧ Moved w S w' S' := by
  have hmin : Calls Tryd.prog 29 #[.pointer (some ⟨xb, 0, none⟩)] w fun e w' => e = .returned (.tuple #[(first l).val, .bool (!l.isEmpty)]) ∧ Only [] w w' := xMin (Rw wd base) w xb S l h
  have H := Lib.hid h
  clear h
  unfold It.val at hmin
  have hcase : (to < base ∧ mayGo base l to = false) ∨ (¬ to < base ∧ l.isEmpty = true ∧ mayGo base l to = true) ∨ (¬ to < base ∧ l.isEmpty = false ∧ (first l).k < to ∧ mayGo base l to = false) ∨ (¬ to < base ∧ l.isEmpty = false ∧ ¬ (first l).k < to ∧ mayGo base l to = true) := by
    unfold mayGo
    by_cases c1 : base ≤ to
    · rcases c2 : l.isEmpty with _ | _
      · by_cases c3 : to ≤ (first l).k
        · refine .inr (.inr (.inr ⟨by omega, rfl, by omega, by simp [c1, c3]⟩))
        · refine .inr (.inr (.inl ⟨by omega, rfl, by omega, by simp [c3]⟩))
      · exact .inr (.inl ⟨by omega, rfl, by simp [c1]⟩)
    · exact .inl ⟨by omega, by simp [c1]⟩
  generalize first l = x at *
  rcases hcase with ⟨c, hm⟩ | ⟨c, ce, hm⟩ | ⟨c, ce, cx, hm⟩ | ⟨c, ce, cx, hm⟩
  all_goals
    rw [hm]
    simp only [if_true, if_false, Bool.false_eq_true]
    try (rw [ce] at hmin; simp only [Bool.not_true, Bool.not_false] at hmin)
    go_enter Tryd.func8, Tryd.ntmps8
    go_wp2_with fail
    refine hmin.mono ?_
    rintro e w2 ⟨rfl, o2⟩
    have q1 := H.out.only0 o2
    have q1' := H.out.only0 (o2.alloc (.cells #[.int .u64 x.k, .int .i64 x.i] 35))
    obtain ⟨c1, -, -, fr⟩ := q1'.cells
    obtain ⟨c1', -, -, fr'⟩ := q1.cells
    have f9 := fr 1
    have f9' := fr' 1
    have R2 := Lib.hid (And.intro q1 (And.intro q1' o2))
    have hxb : xb < w2.heap.size := q1.lt xb (by obtain ⟨v, rfl, -⟩ := q1; simp [iown])
    clear q1 q1' fr fr' o2 hmin
    go_wp2_with fail
    first
      | (go_ret
         exact ⟨rfl, S, R2.out.2.1, Moved.of_only (R2.out.2.2.alloc _)⟩)
      | (go_ret
         obtain ⟨q1, q1', o2⟩ := R2.out
         have q3 := (q1.rebase to).1
         have q4 := (Moved.of_only (S := S) o2).trans (q1.moved to)
         exact ⟨rfl, S, q3.only0 ((Only.refl [] _).alloc _), q4.still ((Only.refl [] _).alloc _)⟩)
end Go.Proofs.YtfgffgicfieieaaDoor
