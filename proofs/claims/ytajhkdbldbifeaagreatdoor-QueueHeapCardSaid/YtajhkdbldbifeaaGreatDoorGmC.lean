/-
  Contracts of the document's Wheel that takes what lies beyond, too: Push, Pop, Move.
  Plain words for the shard, nothing of the program in them: a list parted into what is in reach of a base and what lies beyond; what an item pushed, taken out, and a base moved do to both.
-/
import Derived.Test.YtajhkdbldbifeaaGreatDoorGmX
namespace Go.Proofs.YtajhkdbldbifeaaGreatDoor
set_option maxRecDepth 100000
open Go.RowKit Go.ChangeMaps Go.MapKept
set_option linter.unusedVariables false
set_option linter.unusedSimpArgs false

/-- The other cells of the document's wheel. -/
def Rw (wd : Nat) (base : Int) : TypeId × List Value := (49, [.int .u64 base, .int .i64 (wd : Int), .bool true])
/-- The document's wheel at xb. -/
def RefOf (w : World) (xb : Nat) (S : List Nat) (wd : Nat) (base : Int) (l : List It) : Prop := ItemsOf (Rw wd base) w xb S l
section
variable {w w' : World} {xb wd : Nat} {S T : List Nat} {base : Int} {l : List It}
theorem RefOf.only (h : RefOf w xb S wd base l) (ho : Only T w w') (hT : ∀ b ∈ S, b ∉ T) : RefOf w' xb S wd base l := ItemsOf.only h ho hT
theorem RefOf.only0 (h : RefOf w xb S wd base l) (ho : Only [] w w') : RefOf w' xb S wd base l := h.only ho (by simp)
theorem RefOf.lt (h : RefOf w xb S wd base l) : ∀ b ∈ S, b < w.heap.size := ItemsOf.lt h
theorem RefOf.cells (h : RefOf w xb S wd base l) : w.cell? ⟨xb, 1, none⟩ = some (.int .u64 base) ∧ w.cell? ⟨xb, 2, none⟩ = some (.int .i64 (wd : Int)) ∧ w.cell? ⟨xb, 3, none⟩ = some (.bool true) ∧ ∀ k, w.frozen? ⟨xb, k, none⟩ = false := by
  obtain ⟨v, rfl, h1, h2⟩ := h
  have hb := h1.blk
  refine ⟨?_, ?_, ?_, fun k => h1.fr k⟩
  · rw [cell_of_row w xb 1 _ _ _ hb]; rfl
  · rw [cell_of_row w xb 2 _ _ _ hb]; rfl
  · rw [cell_of_row w xb 3 _ _ _ hb]; rfl
theorem RefOf.rebase (h : RefOf w xb S wd base l) (to : Int) : RefOf (w.setCell ⟨xb, 1, none⟩ (.int .u64 to)) xb S wd to l ∧ Only [xb] w (w.setCell ⟨xb, 1, none⟩ (.int .u64 to)) ∧ xb ∈ S := by
  obtain ⟨v, rfl, h1, h2⟩ := h
  have ho : Only [xb] w (w.setCell ⟨xb, 1, none⟩ (.int .u64 to)) := (Only.refl [xb] w).setCell (.inl (by simp)) _
  refine ⟨⟨v, rfl, ⟨?_, h1.typ, h1.row.keep fun g hg => ho.block g (h1.row.lt hg) (by simpa using (h1.xbg hg).symm)⟩, h2⟩, ho, by simp [iown]⟩
  have hb := h1.blk
  simp only [Rw] at hb ⊢
  simp [World.setCell, Array.getElem?_modify, hb]
theorem RefOf.moved (h : RefOf w xb S wd base l) (to : Int) : Moved w S (w.setCell ⟨xb, 1, none⟩ (.int .u64 to)) S := by
  obtain ⟨-, h2, h3⟩ := h.rebase to
  exact ⟨h2.mono (by simp; exact .inl h3), fun b hb => .inl hb⟩
end

set_option maxRecDepth 100000 in
set_option maxHeartbeats 2000000 in
theorem rPush (w : World) (xb : Nat) (S : List Nat) (wd : Nat) (base : Int) (l : List It) (h : RefOf w xb S wd base l) (hwd : wd ≤ 40) (b0 : 0 ≤ base) (b1 : base ≤ 18446744073709551615) (x : It) (hx : x.ok) (hroom : l.length < 1000000) :
    Calls Tryz.prog 61 #[.pointer (some ⟨xb, 0, none⟩), .agg #[.int .u64 x.k, .int .i64 x.i]] w fun e w' => e = .returned (.bool (!hasId x.i l && decide (base ≤ x.k))) ∧ ∃ S', RefOf w' xb S' wd base (if (!hasId x.i l && decide (base ≤ x.k)) then ins x l else l) ∧ Moved w S w' S' := by
  have kk : 0 ≤ x.k ∧ x.k ≤ 18446744073709551615 := by
    have := hx.1
    simp [Lit.wf, IntKind.min, IntKind.max, IntKind.signed, IntKind.bits] at this
    omega
  have oA : Only [] w (w.alloc (.cells #[.int .u64 x.k, .int .i64 x.i] 40)) := (Only.refl [] w).alloc _
  have bX : Box _ w.heap.size x := Box.new w x
  have hlv := rlevel_any base x.k (wd : Int) b0 b1 kk.1 kk.2
  rw [wid_nat hwd] at hlv
  have hW1 := h.only0 oA
  obtain ⟨c1, c2, c3, -⟩ := hW1.cells
  have x0 := bX.c0
  have x1 := bX.c1
  have HW := Lib.hid (And.intro h (And.intro hW1 (And.intro oA bX)))
  have hpu : Hid (∀ W, RefOf W xb S wd base l → Calls Tryz.prog 23 #[.pointer (some ⟨xb, 0, none⟩), .agg #[.int .u64 x.k, .int .i64 x.i]] W fun e w' => e = .returned (.bool (!hasId x.i l)) ∧ ∃ S', RefOf w' xb S' wd base (if hasId x.i l then l else ins x l) ∧ Moved W S w' S') := fun W hW => xPush (Rw wd base) W xb S l hW x hroom
  have hlc : (¬ base ≤ x.k ∧ levM wd base x.k < 0) ∨ (base ≤ x.k ∧ ¬ levM wd base x.k < 0 ∧ 2 < levM wd base x.k) ∨ (base ≤ x.k ∧ ¬ levM wd base x.k < 0 ∧ ¬ 2 < levM wd base x.k) := by
    rcases levM_cases wd base x.k with ⟨_, _⟩ | ⟨_, h | h | h | h⟩ <;> omega
  generalize hV : w.alloc (.cells #[.int .u64 x.k, .int .i64 x.i] 40) = V at *
  clear h hW1 oA bX
  generalize levM wd base x.k = lv at *
  rcases hlc with ⟨hre, hlc⟩ | ⟨hre, hl1, hl2⟩ | ⟨hre, hl1, hl2⟩
  · rw [decide_eq_false hre]
    simp only [Bool.and_false, Bool.false_eq_true, if_false]
    go_enter Tryz.func61, Tryz.ntmps61
    go_wp2_with (simp only [hV])
    go_still_tail 10, (by kernel_rfl)
    change wpList _ _ _ _ _ V.drew
    go_wp2_with (go_at_call 84; refine (hlv _).mono ?_; rintro e w' ⟨rfl, rfl⟩)
    go_ret
    exact ⟨rfl, S, HW.out.1.only0 HW.out.2.2.1.drew, Moved.of_only HW.out.2.2.1.drew⟩
  · rw [decide_eq_true hre]
    simp only [Bool.and_true]
    have eI : (if (!hasId x.i l) = true then ins x l else l) = (if hasId x.i l = true then l else ins x l) := by cases hasId x.i l <;> rfl
    rw [eI]
    clear eI
    generalize (if hasId x.i l = true then l else ins x l) = LL at *
    generalize (!hasId x.i l) = bb at *
    go_enter Tryz.func61, Tryz.ntmps61
    go_wp2_with (simp only [hV])
    go_still_tail 10, (by kernel_rfl)
    change wpList _ _ _ _ _ V.drew
    go_wp2_with (go_at_call 84; refine (hlv _).mono ?_; rintro e w' ⟨rfl, rfl⟩)
    have x0' : V.drew.cell? ⟨w.heap.size, 0, none⟩ = some (.int .u64 x.k) := x0
    have x1' : V.drew.cell? ⟨w.heap.size, 1, none⟩ = some (.int .i64 x.i) := x1
    obtain ⟨V2, eV2⟩ : ∃ V2, V.drew = V2 := ⟨_, rfl⟩
    rw [eV2] at x0' x1' ⊢
    have o2 : Hid (Only [] w V2.drew) := by rw [← eV2]; exact HW.out.2.2.1.drew.drew
    clear x0 x1 c1 c2 c3 eV2
    go_still_tail 4, (by kernel_rfl)
    change wpList _ _ _ _ _ V2.drew
    go_wp2_with fail
    refine (hpu.out _ (HW.out.1.only0 o2.out)).mono ?_
    rintro e w5 ⟨rfl, S5, q1, q2⟩
    have R5 := Lib.hid (And.intro q1 q2)
    clear q1 q2
    go_wp2_with fail
    go_ret
    exact ⟨rfl, S5, R5.out.1, (Moved.of_only o2.out).trans R5.out.2⟩

  · rw [decide_eq_true hre]
    simp only [Bool.and_true]
    have eI : (if (!hasId x.i l) = true then ins x l else l) = (if hasId x.i l = true then l else ins x l) := by cases hasId x.i l <;> rfl
    rw [eI]
    clear eI
    generalize (if hasId x.i l = true then l else ins x l) = LL at *
    generalize (!hasId x.i l) = bb at *
    go_enter Tryz.func61, Tryz.ntmps61
    go_wp2_with (simp only [hV])
    go_still_tail 10, (by kernel_rfl)
    change wpList _ _ _ _ _ V.drew
    go_wp2_with (go_at_call 84; refine (hlv _).mono ?_; rintro e w' ⟨rfl, rfl⟩)
    have x0' : V.drew.cell? ⟨w.heap.size, 0, none⟩ = some (.int .u64 x.k) := x0
    have x1' : V.drew.cell? ⟨w.heap.size, 1, none⟩ = some (.int .i64 x.i) := x1
    obtain ⟨V2, eV2⟩ : ∃ V2, V.drew = V2 := ⟨_, rfl⟩
    rw [eV2] at x0' x1' ⊢
    have o2 : Hid (Only [] w V2.drew) := by rw [← eV2]; exact HW.out.2.2.1.drew.drew
    clear x0 x1 c1 c2 c3 eV2
    go_still_tail 4, (by kernel_rfl)
    change wpList _ _ _ _ _ V2.drew
    go_wp2_with fail
    refine (hpu.out _ (HW.out.1.only0 o2.out)).mono ?_
    rintro e w5 ⟨rfl, S5, q1, q2⟩
    have R5 := Lib.hid (And.intro q1 q2)
    clear q1 q2
    go_wp2_with fail
    go_ret
    exact ⟨rfl, S5, R5.out.1, (Moved.of_only o2.out).trans R5.out.2⟩

set_option maxRecDepth 100000 in
set_option maxHeartbeats 2000000 in
theorem rPop (w : World) (xb : Nat) (S : List Nat) (wd : Nat) (base : Int) (l : List It) (h : RefOf w xb S wd base l) :
    Calls Tryz.prog 63 #[.pointer (some ⟨xb, 0, none⟩)] w fun e w' => e = .returned (.tuple #[(first l).val, .bool (!l.isEmpty)]) ∧ ∃ S', RefOf w' xb S' wd (if l.isEmpty then base else (first l).k) l.tail ∧ Moved w S w' S' := by
  have oA : Only [] w (w.alloc (.cells #[.int .u64 0, .int .i64 0] 40)) := (Only.refl [] w).alloc _
  have bR : Box _ w.heap.size ⟨0, 0⟩ := Box.new w ⟨0, 0⟩
  have HL : Hid (∀ b ∈ S, b < w.heap.size) := h.lt
  have hpo : Calls Tryz.prog 25 #[.pointer (some ⟨xb, 0, none⟩)] _ fun e w' => e = .returned (.tuple #[(first l).val, .bool (!l.isEmpty)]) ∧ ∃ S', RefOf w' xb S' wd base l.tail ∧ Moved _ S w' S' := xPop (Rw wd base) _ xb S l (h.only0 oA)
  have hNS : w.heap.size ∉ S := fun hc => by have := HL.out _ hc; omega
  have H := Lib.hid (And.intro oA bR)
  clear h oA bR
  unfold It.val at *
  rcases hem : l.isEmpty with _ | _
  · rw [hem] at hpo
    simp only [Bool.not_true, Bool.not_false, Bool.false_eq_true, if_false, if_true] at hpo ⊢
    generalize first l = x at *
    go_enter Tryz.func63, Tryz.ntmps63
    go_wp2_with fail
    refine hpo.mono ?_
    rintro e w2 ⟨rfl, S2, q1, q2⟩
    obtain ⟨b2, n2⟩ := H.out.2.moved q2 hNS
    have q1' := q1.only0 ((Only.refl [] w2).alloc (.cells #[.int .u64 x.k, .int .i64 x.i] 40))
    obtain ⟨c1, -, -, fr⟩ := q1'.cells
    obtain ⟨c1', -, -, fr'⟩ := q1.cells
    have f9 := fr 1
    have f9' := fr' 1
    have hlt : w.heap.size < w2.heap.size := b2.lt
    have y0 := b2.c0
    have y1 := b2.c1
    have f0 := b2.fr 0
    have f1 := b2.fr 1
    have hxb : xb < w2.heap.size := q1.lt xb (by obtain ⟨v, rfl, -⟩ := q1; simp [iown])
    have hxS : Hid (xb ∈ S2) := by obtain ⟨v, rfl, -⟩ := q1; show _ ∈ _; simp [iown]
    have hnx : ¬ w.heap.size = xb := fun e => n2 (by rw [e]; exact hxS.out)
    have R2 := Lib.hid (And.intro q1 (And.intro ((Moved.of_only (S := S) H.out.1).trans q2) n2))
    clear q1 q2 b2 n2 fr fr' hpo q1'
    generalize hN : w.heap.size = N at *
    go_wp2_with fail
    (try simp only [Exit.inBlock, Exit.then])
    refine bodyPost_ret (v := .tuple #[.agg #[.int .u64 x.k, .int .i64 x.i], .bool true]) (by rw [results_cell_tmp rfl]; go_simp) rfl ?_
    obtain ⟨q1, q2, n2⟩ := R2.out
    have q3 := (q1.rebase x.k).1
    have q4 := q2.trans (q1.moved x.k)
    obtain ⟨W3, eW3⟩ : ∃ W3, w2.setCell ⟨xb, 1, none⟩ (.int .u64 x.k) = W3 := ⟨_, rfl⟩
    rw [eW3] at q3 q4 ⊢
    have o6 : Only [N] W3 (((W3.setCell ⟨N, 0, none⟩ (.int .u64 x.k)).setCell ⟨N, 1, none⟩ (.int .i64 x.i)).alloc (.cells #[.int .u64 x.k, .int .i64 x.i] 40)) := (((Only.refl _ _).setCell (by simp) _).setCell (by simp) _).alloc _
    exact ⟨rfl, S2, q3.only o6 (fun b hb e => n2 (by simp at e; rw [← e]; exact hb)), q4.1.trans o6 (by simp; exact .inr (by omega)), q4.2⟩
  · rw [hem] at hpo
    simp only [Bool.not_true, Bool.not_false, Bool.false_eq_true, if_false, if_true] at hpo ⊢
    generalize first l = x at *
    go_enter Tryz.func63, Tryz.ntmps63
    go_wp2_with fail
    refine hpo.mono ?_
    rintro e w2 ⟨rfl, S2, q1, q2⟩
    obtain ⟨b2, n2⟩ := H.out.2.moved q2 hNS
    have q1' := q1.only0 ((Only.refl [] w2).alloc (.cells #[.int .u64 x.k, .int .i64 x.i] 40))
    obtain ⟨c1, -, -, fr⟩ := q1'.cells
    obtain ⟨c1', -, -, fr'⟩ := q1.cells
    have f9 := fr 1
    have f9' := fr' 1
    have hlt : w.heap.size < w2.heap.size := b2.lt
    have y0 := b2.c0
    have y1 := b2.c1
    have f0 := b2.fr 0
    have f1 := b2.fr 1
    have hxb : xb < w2.heap.size := q1.lt xb (by obtain ⟨v, rfl, -⟩ := q1; simp [iown])
    have hxS : Hid (xb ∈ S2) := by obtain ⟨v, rfl, -⟩ := q1; show _ ∈ _; simp [iown]
    have hnx : ¬ w.heap.size = xb := fun e => n2 (by rw [e]; exact hxS.out)
    have R2 := Lib.hid (And.intro q1 (And.intro ((Moved.of_only (S := S) H.out.1).trans q2) n2))
    clear q1 q2 b2 n2 fr fr' hpo q1'
    generalize hN : w.heap.size = N at *
    go_wp2_with fail
    (try simp only [Exit.inBlock, Exit.then])
    refine bodyPost_ret (v := .tuple #[.agg #[.int .u64 x.k, .int .i64 x.i], .bool false]) (by rw [results_cell_tmp rfl]; go_simp) rfl ?_
    obtain ⟨q1, q2, n2⟩ := R2.out
    have o6 : Only [N] w2 (((w2.setCell ⟨N, 0, none⟩ (.int .u64 x.k)).setCell ⟨N, 1, none⟩ (.int .i64 x.i)).alloc (.cells #[.int .u64 x.k, .int .i64 x.i] 40)) := (((Only.refl _ _).setCell (by simp) _).setCell (by simp) _).alloc _
    exact ⟨rfl, S2, q1.only o6 (fun b hb e => n2 (by simp at e; rw [← e]; exact hb)), q2.1.trans o6 (by simp; exact .inr (by omega)), q2.2⟩

end Go.Proofs.YtajhkdbldbifeaaGreatDoor

namespace Go.Proofs.YtajhkdbldbifeaaGreatDoor
set_option maxRecDepth 100000
set_option linter.unusedVariables false
set_option linter.unusedSimpArgs false

/-- Those in reach of the base. -/
def nears (wd : Nat) (base : Int) (l : List It) : List It := l.filter fun x => inR wd base x.k
/-- Those beyond. -/
def fars (wd : Nat) (base : Int) (l : List It) : List It := l.filter fun x => !inR wd base x.k
/-- What a shard may hold. -/
structure Sits (base : Int) (l : List It) : Prop where
  b0 : 0 ≤ base
  b1 : base ≤ 18446744073709551615
  rises : Rises l
  ids : Ids l
  up : ∀ x ∈ l, base ≤ x.k
  fit : ∀ x ∈ l, x.ok
  small : l.length ≤ 300000
theorem key_le {x : It} (h : x.ok) : 0 ≤ x.k ∧ x.k ≤ 18446744073709551615 := by
  have := h.1
  simp [Lit.wf, IntKind.min, IntKind.max, IntKind.signed, IntKind.bits] at this
  omega
/-- What is in reach is less than what is not. -/
theorem near_far {wd : Nat} {base : Int} {x y : It} (hx : inR wd base x.k = true) (hy : inR wd base y.k = false) (hb : base ≤ y.k) : x.lt y = true := by
  have h1 := inR_iff.1 hx
  have h2 : ¬ reach wd base y.k := fun h => by rw [inR_iff.2 h] at hy; cases hy
  rw [It.lt_iff]
  left
  rcases Int.lt_or_le x.k y.k with h | h
  · exact h
  · exfalso
    apply h2
    have u1 := uu_le wd hb
    have u2 := uu_le wd h
    have h3 := h1.2
    refine ⟨hb, ?_⟩
    generalize uu wd base = B at *
    generalize uu wd x.k = X at *
    generalize uu wd y.k = Y at *
    omega
section
variable {wd : Nat} {base : Int} {l : List It}
theorem mem_nears {x : It} : x ∈ nears wd base l ↔ x ∈ l ∧ inR wd base x.k = true := by simp [nears]
theorem mem_fars {x : It} : x ∈ fars wd base l ↔ x ∈ l ∧ inR wd base x.k = false := by simp [fars]
theorem nears_sub (wd : Nat) (base : Int) (l : List It) : (nears wd base l).Sublist l := List.filter_sublist
theorem fars_sub (wd : Nat) (base : Int) (l : List It) : (fars wd base l).Sublist l := List.filter_sublist
theorem parts_perm (wd : Nat) (base : Int) (l : List It) : (nears wd base l ++ fars wd base l).Perm l := by
  have := List.filter_append_perm (fun x : It => inR wd base x.k) l
  unfold nears fars
  exact this
/-- Both, one behind the other, are all. -/
theorem parts_all (hr : Rises l) (hu : ∀ x ∈ l, base ≤ x.k) : nears wd base l ++ fars wd base l = l := by
  refine Rises.eq_of_perm ?_ hr (parts_perm wd base l)
  refine List.pairwise_append.2 ⟨List.Pairwise.sublist (nears_sub wd base l) hr, List.Pairwise.sublist (fars_sub wd base l) hr, fun x hx y hy => ?_⟩
  exact near_far (mem_nears.1 hx).2 (mem_fars.1 hy).2 (hu y (mem_fars.1 hy).1)
theorem parts_of {n f : List It} (hn : ∀ x ∈ n, inR wd base x.k = true) (hf : ∀ x ∈ f, inR wd base x.k = false) : nears wd base (n ++ f) = n ∧ fars wd base (n ++ f) = f := by
  unfold nears fars
  rw [List.filter_append, List.filter_append]
  have e1 : n.filter (fun x => inR wd base x.k) = n := List.filter_eq_self.2 hn
  have e2 : f.filter (fun x => inR wd base x.k) = [] := List.filter_eq_nil_iff.2 fun x hx => by rw [hf x hx]; decide
  have e3 : n.filter (fun x => !inR wd base x.k) = [] := List.filter_eq_nil_iff.2 fun x hx => by rw [hn x hx]; decide
  have e4 : f.filter (fun x => !inR wd base x.k) = f := List.filter_eq_self.2 fun x hx => by rw [hf x hx]; rfl
  rw [e1, e2, e3, e4]
  simp
theorem parts_len (wd : Nat) (base : Int) (l : List It) : (nears wd base l).length + (fars wd base l).length = l.length := by
  rw [← List.length_append, (parts_perm wd base l).length_eq]
theorem parts_has (wd : Nat) (base : Int) (l : List It) (id : Int) : (hasId id (nears wd base l) || hasId id (fars wd base l)) = hasId id l := by
  rw [← hasId_perm id (parts_perm wd base l)]
  unfold hasId
  rw [List.any_append]
theorem filter_ins {p : It → Bool} (hr : Rises l) {y : It} (hy : ∀ x ∈ l, x.i ≠ y.i) : (ins y l).filter p = if p y then ins y (l.filter p) else l.filter p := by
  have hr1 : Rises ((ins y l).filter p) := List.Pairwise.sublist List.filter_sublist (ins_rises hr hy)
  have hr2 : Rises (l.filter p) := List.Pairwise.sublist List.filter_sublist hr
  have hp : ((ins y l).filter p).Perm ((l ++ [y]).filter p) := (ins_perm y l).filter _
  rw [List.filter_append] at hp
  by_cases c : p y = true
  · rw [if_pos c]
    have e : [y].filter p = [y] := by simp [c]
    rw [e] at hp
    exact Rises.eq_of_perm hr1 (ins_rises hr2 fun x hx => hy x (List.mem_filter.1 hx).1) (hp.trans (ins_perm y _).symm)
  · rw [if_neg c]
    have e : [y].filter p = [] := by simp [c]
    rw [e, List.append_nil] at hp
    exact Rises.eq_of_perm hr1 hr2 hp
theorem filter_drop {p : It → Bool} (hi : Ids l) (id : Int) : (dropId id l).filter p = dropId id (l.filter p) := by
  unfold dropId
  rcases hf : l.find? (fun x => x.i == id) with _ | x
  · have hn : ∀ x ∈ l, ¬ (x.i == id) = true := List.find?_eq_none.1 hf
    rw [List.eraseP_of_forall_not hn, List.eraseP_of_forall_not fun x hx => hn x (List.mem_filter.1 hx).1]
  · obtain ⟨hq, us, vs, rfl, ha⟩ := List.find?_eq_some_iff_append.1 hf
    have hn : ∀ a ∈ us, ¬ (a.i == id) = true := fun a h => by simpa using ha a h
    have e1 : (us ++ x :: vs).eraseP (fun y => y.i == id) = us ++ vs := by rw [List.eraseP_append_right _ hn, List.eraseP_cons_of_pos (p := fun y : It => y.i == id) hq]
    rw [e1, List.filter_append, List.filter_append, List.filter_cons]
    have hna : ∀ a ∈ us.filter p, ¬ (a.i == id) = true := fun a h => hn a (List.mem_filter.1 h).1
    by_cases c : p x = true
    · rw [if_pos c, List.eraseP_append_right _ hna, List.eraseP_cons_of_pos (p := fun y : It => y.i == id) hq]
    · rw [if_neg c, List.eraseP_append_right _ hna]
      congr 1
      symm
      apply List.eraseP_of_forall_not
      intro b hb hc
      have hb' : b ∈ vs := (List.mem_filter.1 hb).1
      have e : b = x := hi.eq (by simp [hb']) (by simp) (by
        have h1 : b.i = id := by simpa using hc
        have h2 : x.i = id := by simpa using hq
        rw [h1, h2])
      subst e
      have h4 : (us ++ b :: vs).map It.i |>.Nodup := hi
      rw [List.map_append, List.map_cons] at h4
      have := (List.nodup_cons.1 (List.nodup_append.1 h4).2.1).1
      exact this (List.mem_map.2 ⟨b, hb', rfl⟩)
theorem parts_find (hi : Ids l) (id : Int) : findId id l = (findId id (nears wd base l)).or (findId id (fars wd base l)) := by
  have hin : Ids (nears wd base l) := hi.sub (nears_sub wd base l)
  have hif : Ids (fars wd base l) := hi.sub (fars_sub wd base l)
  rcases hf : findId id l with _ | x
  · have hn := List.find?_eq_none.1 hf
    have e1 : findId id (nears wd base l) = none := List.find?_eq_none.2 fun x hx => hn x (mem_nears.1 hx).1
    have e2 : findId id (fars wd base l) = none := List.find?_eq_none.2 fun x hx => hn x (mem_fars.1 hx).1
    rw [e1, e2]; rfl
  · obtain ⟨hx, hxi⟩ := (find_iff hi id x).1 hf
    rcases c : inR wd base x.k with _ | _
    · have e1 : findId id (nears wd base l) = none := List.find?_eq_none.2 fun y hy hc => by
        have e : y = x := hi.eq (mem_nears.1 hy).1 hx (by rw [hxi]; simpa using hc)
        rw [e] at hy
        rw [(mem_nears.1 hy).2] at c
        cases c
      rw [e1, (find_iff hif id x).2 ⟨mem_fars.2 ⟨hx, c⟩, hxi⟩]
      rfl
    · rw [(find_iff hin id x).2 ⟨mem_nears.2 ⟨hx, c⟩, hxi⟩]
      rfl
/-- Over a base that is itself in reach, what is in reach stays so. -/
theorem inR_turn {to k : Int} (h : reach wd base to) (hk : to ≤ k) : inR wd to k = inR wd base k := by
  rw [Bool.eq_iff_iff, inR_iff, inR_iff]
  have h1 := h.1
  have h2 := h.2
  constructor
  · rintro ⟨_, b⟩; exact ⟨by omega, by omega⟩
  · rintro ⟨_, b⟩; exact ⟨hk, by omega⟩
theorem parts_turn {to : Int} (h : reach wd base to) (hk : ∀ x ∈ l, to ≤ x.k) : nears wd to l = nears wd base l ∧ fars wd to l = fars wd base l := by
  unfold nears fars
  constructor
  · exact List.filter_congr fun x hx => inR_turn h (hk x hx)
  · exact List.filter_congr fun x hx => by rw [inR_turn h (hk x hx)]
end
section
variable {wd : Nat} {base : Int} {l : List It}
theorem Sits.nil (h0 : 0 ≤ base) (h1 : base ≤ 18446744073709551615) : Sits base [] := ⟨h0, h1, List.Pairwise.nil, by simp [Ids], by simp, by simp, by simp⟩
theorem Sits.all (h : Sits base l) : nears wd base l ++ fars wd base l = l := parts_all h.rises h.up
theorem Sits.ins {x : It} (h : Sits base l) (hx : x.ok) (hb : base ≤ x.k) (hno : ∀ y ∈ l, y.i ≠ x.i) (hl : l.length < 300000) : Sits base (ins x l) := by
  have hp := ins_perm x l
  have hm : ∀ y, y ∈ Go.Proofs.YtajhkdbldbifeaaGreatDoor.ins x l → y ∈ l ∨ y = x := fun y hy => by have := hp.subset hy; simpa using this
  refine ⟨h.b0, h.b1, ins_rises h.rises hno, ?_, fun y hy => ?_, fun y hy => ?_, ?_⟩
  · have : Ids (l ++ [x]) := by
      have hi := h.ids
      unfold Ids at hi ⊢
      rw [List.map_append, List.nodup_append]
      refine ⟨hi, by simp, fun a ha b hb e => ?_⟩
      simp at hb
      obtain ⟨y, hy, rfl⟩ := List.mem_map.1 ha
      exact hno y hy (e.trans hb)
    exact this.perm hp.symm
  · rcases hm y hy with h1 | rfl
    · exact h.up y h1
    · exact hb
  · rcases hm y hy with h1 | rfl
    · exact h.fit y h1
    · exact hx
  · rw [hp.length_eq]; simp; omega
theorem Sits.sub {m : List It} (h : Sits base l) (hm : m.Sublist l) : Sits base m :=
  ⟨h.b0, h.b1, List.Pairwise.sublist hm h.rises, h.ids.sub hm, fun x hx => h.up x (hm.subset hx), fun x hx => h.fit x (hm.subset hx), Nat.le_trans hm.length_le h.small⟩
theorem Sits.drop (h : Sits base l) (id : Int) : Sits base (dropId id l) := h.sub List.eraseP_sublist
theorem Sits.to {to : Int} (h : Sits base l) (t0 : 0 ≤ to) (t1 : to ≤ 18446744073709551615) (hk : ∀ x ∈ l, to ≤ x.k) : Sits to l := ⟨t0, t1, h.rises, h.ids, hk, h.fit, h.small⟩
theorem rises_up {x : It} {t : List It} (h : Rises (x :: t)) : ∀ y ∈ t, x.k ≤ y.k := fun y hy => by
  have := (List.pairwise_cons.1 h).1 y hy
  rcases (It.lt_iff x y).1 this with h | ⟨h, _⟩ <;> omega
theorem Sits.pop {x : It} {t : List It} (h : Sits base (x :: t)) : Sits x.k t :=
  (h.sub (List.sublist_cons_self x t)).to (key_le (h.fit x (by simp))).1 (key_le (h.fit x (by simp))).2 (rises_up h.rises)
end
end Go.Proofs.YtajhkdbldbifeaaGreatDoor
