/-
  Contract of the document's NewQueue.
-/
import Derived.Test.YtajhkdbldbifeaaGreatDoorQueueB
namespace Go.Proofs.YtajhkdbldbifeaaGreatDoor
set_option maxRecDepth 100000
open Go.RowKit Go.ChangeMaps Go.MapKept
set_option linter.unusedVariables false
set_option linter.unusedSimpArgs false

/-- The cells of a wheel of the document, as NewQueue lays it. -/
def wheel0 (wd : Nat) : List Value := [.slice none 0 0, .int .u64 0, .int .i64 (wd : Int), .bool true]
/-- The document's queue that is being made: p of its wheels are there. -/
structure RMade (w wr : World) (xb p : Nat) (v : Value) (P : Nat → Nat) (wd : Nat) : Prop where
  blk : Arr wr xb 44 [v]
  row : RowV wr 50 v (ptrs P p)
  sh : ∀ i, i < p → Arr wr (P i) 49 (wheel0 wd)
  inj : ∀ i j, i < p → j < p → i ≠ j → P i ≠ P j
  nv : ∀ g, v.ownBlock = some g → w.heap.size ≤ g
  newx : w.heap.size ≤ xb
  newP : ∀ i, i < p → w.heap.size ≤ P i
  only : Only [] w wr
theorem info_wp : (Tryz.prog.info? 50).map (fun i => (i.zero, i.size, i.bytes)) = some (some (.pointer none), 1, 8) := by kernel_rfl
theorem ptrs_succ (P : Nat → Nat) (p N : Nat) : ptrs P p ++ [.pointer (some ⟨N, 0, none⟩)] = ptrs (fup P p N) (p + 1) := by
  unfold ptrs
  rw [List.range_succ, List.map_append]
  congr 1
  · apply List.map_congr_left
    intro i hi
    rw [fup_other _ _ (by have := List.mem_range.1 hi; omega)]
  · simp [fup_same]
theorem RowV.blk {w : World} {e : TypeId} {v : Value} {vs : List Value} (h : RowV w e v vs) {g : Nat} (hg : v.ownBlock = some g) : ∃ cur : List Value, Arr w g e cur := by
  rcases h.2 with ⟨rfl, _⟩ | ⟨g', cap, cur, rfl, h0, hb, r⟩
  · cases hg
  · have : g' = g := by simpa [Value.ownBlock] using hg
    subst this
    exact ⟨cur.toList, by unfold Arr; simpa using hb⟩
theorem RMade.start (w : World) (wd : Nat) : RMade w (w.alloc (.cells #[.slice none 0 0] 44)) w.heap.size 0 (.slice none 0 0) (fun _ => 0) wd :=
  ⟨Arr.new w _ [_], RowV.nil _ _, fun i hi => by omega, fun i j hi => by omega, (fun g hg => by cases hg), Nat.le_refl _, fun i hi => by omega, (Only.refl [] w).alloc _⟩
theorem RMade.more {w wr W w2 : World} {xb p wd N1 : Nat} {v v' : Value} {P : Nat → Nat} (h : RMade w wr xb p v P wd) (hW : Only [] wr W) (hN : wr.heap.size ≤ N1) (ha : Arr W N1 49 (wheel0 wd)) (r2 : RowV w2 50 v' (ptrs P p ++ [.pointer (some ⟨N1, 0, none⟩)])) (g2 : W.grownBy w2 v.ownBlock) (l2 : v'.ownBlock = v.ownBlock ∨ v'.ownBlock = some W.heap.size) :
    RMade w (w2.setCell ⟨xb, 0, none⟩ v') xb (p + 1) v' (fup P p N1) wd := by
  have o2 : Only v.ownBlock.toList W w2 := (Only.refl _ _).grown g2 (fun k hk => .inl (by simp [hk]))
  have o3 : Only [xb] w2 (w2.setCell ⟨xb, 0, none⟩ v') := (Only.refl _ _).setCell (by simp) _
  have hxv : xb ∉ v.ownBlock.toList := fun hc => by
    obtain ⟨cur, hb⟩ := h.row.blk (Option.mem_toList.1 hc)
    exact h.blk.ne hb (by decide) rfl
  have hPv : ∀ i, i < p → P i ∉ v.ownBlock.toList := fun i hi hc => by
    obtain ⟨cur, hb⟩ := h.row.blk (Option.mem_toList.1 hc)
    exact (h.sh i hi).ne hb (by decide) rfl
  have hNv : N1 ∉ v.ownBlock.toList := fun hc => by have := h.row.lt (Option.mem_toList.1 hc); omega
  have hxs := h.blk.lt
  have hPx : ∀ i, i < p → P i ≠ xb := fun i hi => (h.sh i hi).ne h.blk (by decide)
  have hws := h.only.size
  have hWs := hW.size
  have hv'x : ∀ g, v'.ownBlock = some g → g ≠ xb := fun g hg e => by
    subst e
    rcases l2 with h9 | h9
    · exact hxv (by rw [← h9, hg]; simp)
    · rw [hg] at h9
      injection h9 with h9
      omega
  refine ⟨?_, ?_, fun i hi => ?_, fun i j hi hj hne => ?_, fun g hg => ?_, h.newx, fun i hi => ?_, ?_⟩
  · have := ((h.blk.only0 hW).only o2 hxv).store 0 v'
    simpa using this
  · rw [← ptrs_succ]
    exact r2.keep fun g hg => o3.block g (r2.lt hg) (by simpa using hv'x g hg)
  · by_cases e : i = p
    · subst e; rw [fup_same]; exact (ha.only o2 hNv).only o3 (by simp; omega)
    · rw [fup_other _ _ e]; exact (((h.sh i (by omega)).only0 hW).only o2 (hPv i (by omega))).only o3 (by simpa using hPx i (by omega))
  · by_cases e : i = p
    · subst e
      rw [fup_same, fup_other _ _ (Ne.symm hne)]
      have := (h.sh j (by omega)).lt
      omega
    · rw [fup_other _ _ e]
      by_cases e2 : j = p
      · subst e2
        rw [fup_same]
        have := (h.sh i (by omega)).lt
        omega
      · rw [fup_other _ _ e2]; exact h.inj i j (by omega) (by omega) hne
  · rcases l2 with h9 | h9
    · exact h.nv g (h9.symm.trans hg)
    · rw [hg] at h9
      injection h9 with h9
      omega
  · by_cases e : i = p
    · subst e; rw [fup_same]; omega
    · rw [fup_other _ _ e]; exact h.newP i (by omega)
  · refine ((h.only.trans' hW).trans o2 fun k hk => .inr (h.nv k (Option.mem_toList.1 hk))).trans o3 (by simp; exact h.newx)
theorem RMade.kept {w wr W w2 : World} {xb p wd : Nat} {v : Value} {P : Nat → Nat} (h : RMade w wr xb p v P wd) (hW : Only [] wr W) (g2 : W.grownBy w2 v.ownBlock) : w2.cell? ⟨xb, 0, none⟩ = some v ∧ w2.frozen? ⟨xb, 0, none⟩ = false := by
  have o2 : Only v.ownBlock.toList W w2 := (Only.refl _ _).grown g2 (fun k hk => .inl (by simp [hk]))
  have hxv : xb ∉ v.ownBlock.toList := fun hc => by
    obtain ⟨cur, hb⟩ := h.row.blk (Option.mem_toList.1 hc)
    exact h.blk.ne hb (by decide) rfl
  have hb := (h.blk.only0 hW).only o2 hxv
  exact ⟨by rw [hb.cell]; rfl, hb.fr 0⟩
theorem RMade.done {w wr : World} {xb n wd : Nat} {v : Value} {P : Nat → Nat} (h : RMade w wr xb n v P wd) (h1 : 1 ≤ n) (h16 : n ≤ 16) : ∃ T, RQOf wr xb T n wd (fun _ => 0) (fun _ => []) ∧ ∀ b ∈ T, w.heap.size ≤ b := by
  obtain ⟨g, cap, cur, e1, e2, e3, e4⟩ := h.row.at_ (by rw [ptrs_len]; exact h1)
  rw [ptrs_len] at e1 e4
  have hb := h.blk
  rw [e1] at hb
  have ha : Arr wr g 50 cur.toList := by unfold Arr; simpa using e3
  have hr : ∀ i, i < n → RefOf wr (P i) [P i] wd 0 [] := fun i hi => ⟨.slice none 0 0, rfl, ⟨h.sh i hi, by simp only [Rw]; decide, RowIs.nil _⟩, by simp⟩
  refine ⟨rown xb g n (fun i => [P i]), ⟨g, cap, P, _, rfl, ⟨hb, ⟨cur.toList, ha, fun i hi => ?_⟩, hr, fun i j hi hj hne b hb1 hb2 => ?_, fun i hi b hb1 hb2 => ?_, h1, h16⟩⟩, fun b hb1 => ?_⟩
  · have := e4 i hi
    rw [ptrs_at P hi] at this
    simpa using this
  · simp at hb1 hb2
    exact h.inj i j hi hj hne (hb1.symm.trans hb2)
  · simp at hb1 hb2
    subst hb1
    rcases hb2 with e | e
    · exact (h.sh i hi).ne h.blk (by decide) e
    · exact (h.sh i hi).ne ha (by decide) e
  · rcases mem_rown.1 hb1 with h9 | ⟨i, hi, h9⟩
    · simp at h9
      rcases h9 with rfl | rfl
      · exact h.newx
      · exact h.nv _ e2
    · simp at h9
      rw [h9]; exact h.newP i hi

theorem step_width {E : Prop} {w : World} {ops : Array Oper} {o : Oper} {a : Act} {K : Act → World → Prop} {Q : Exit → Act → World → Prop} (hgd : o.guard = none) (x : Operand) (tys : Array TypeId) (ho : o.op = .call { callee := .value (.func 60), args := #[x], argTypes := tys }) (width : Int) (hx : a.eval x = .int .i64 width)
    (hK : K (a.put o.dst (.int .i64 (wid width : Int))) w) : if Region.wanted o (yielded ops a.tmps) = true then Oper.wp Tryz.prog o a w K Q else E := by
  have hw : Region.wanted o (yielded ops a.tmps) = true := by simp [Region.wanted, hgd]
  rw [if_pos hw]
  unfold Oper.wp execOp
  simp only [ho, resolve, invoke, Sem.run_bind, Sem.run_pure, Result.andThen_ok, List.map_toArray, List.map_cons, List.map_nil, hx]
  go_simp
  refine (rwidth_any width w).mono ?_
  rintro e w' ⟨rfl, rfl⟩
  exact hK
theorem two_news (wr : World) (wd : Nat) : Arr ((wr.alloc (.cells #[.slice none 0 0, .int .u64 0, .int .i64 (wd : Int), .bool true] 49)).alloc (.cells #[.pointer (some ⟨wr.heap.size, 0, none⟩)] 50)) wr.heap.size 49 (wheel0 wd) ∧
    ((wr.alloc (.cells #[.slice none 0 0, .int .u64 0, .int .i64 (wd : Int), .bool true] 49)).alloc (.cells #[.pointer (some ⟨wr.heap.size, 0, none⟩)] 50)).cell? ⟨wr.heap.size + 1, 0, none⟩ = some (.pointer (some ⟨wr.heap.size, 0, none⟩)) ∧
    Only [] wr ((wr.alloc (.cells #[.slice none 0 0, .int .u64 0, .int .i64 (wd : Int), .bool true] 49)).alloc (.cells #[.pointer (some ⟨wr.heap.size, 0, none⟩)] 50)) := by
  refine ⟨(Arr.new wr _ (wheel0 wd)).only0 ((Only.refl [] _).alloc _), ?_, ((Only.refl [] wr).alloc _).alloc _⟩
  have := Arr.new (wr.alloc (.cells #[.slice none 0 0, .int .u64 0, .int .i64 (wd : Int), .bool true] 49)) 50 [.pointer (some ⟨wr.heap.size, 0, none⟩)]
  have e : (wr.alloc (.cells #[.slice none 0 0, .int .u64 0, .int .i64 (wd : Int), .bool true] 49)).heap.size = wr.heap.size + 1 := by simp
  rw [e] at this
  rw [this.cell]
  rfl

set_option maxHeartbeats 4000000 in
theorem rqNew (w : World) (a width : Int) : Calls Tryz.prog 32 #[.int .i64 a, .int .i64 width] w fun e w' => ∃ xb, e = .returned (.pointer (some ⟨xb, 0, none⟩)) ∧ ∃ T, RQOf w' xb T (clampM a) (wid width) (fun _ => 0) (fun _ => []) ∧ (∀ b ∈ T, w.heap.size ≤ b) ∧ Only [] w w' := by
  have hc := clampM_eq a
  obtain ⟨h1, h16⟩ := clampM_le a
  generalize clampM a = n at *
  have M0 := Lib.hid (RMade.start w (wid width))
  go_enter Tryz.func32, Tryz.ntmps32
  go_wp2_with fail
  generalize w.alloc _ = W0 at *
  generalize w.heap.size = xb at *
  go_loopg [6] (n + 1) (fun gk si wr => ∃ (p : Nat) (v : Value) (P : Nat → Nat), si = .int .i64 (p : Int) ∧ p ≤ n ∧ n + 1 ≤ gk + p ∧ Hid (RMade w wr xb p v P (wid width)))
  case atStart => exact ⟨0, _, _, rfl, by omega, by omega, M0⟩
  case round =>
    obtain ⟨p, v, P, rfl, hp, hg, M⟩ := hrel
    clear M0
    have c0 : wr.cell? ⟨xb, 0, none⟩ = some v := by rw [M.out.blk.cell]; rfl
    have f0 := M.out.blk.fr 0
    have hxl := M.out.blk.lt
    by_cases hpl : p < n
    · have hpl' : (p : Int) < (n : Int) := by omega
      obtain ⟨A, cap, ev⟩ := M.out.row.form
      rw [ptrs_len] at ev
      subst ev
      go_wp2_with fail
      have oX := Lib.hid (two_news wr (wid width))
      go_region_law (first
        | (refine step_width rfl (.tmp 21) _ rfl width (by simp [Act.eval, Act.put]) ?_)
        | (refine step_append_one rfl Tryz.underlying42 info_wp rfl (by decide) (.tmp 20) (.tmp 25) rfl (.slice A p cap) (ptrs P p) (by simp [Act.eval, Act.put]) (M.out.row.keep (fun g hg => by exact oX.out.2.2.block g (M.out.row.lt hg) (by simp))) ⟨wr.heap.size + 1, 0, none⟩ 1 (.pointer (some ⟨wr.heap.size, 0, none⟩)) (by simp [Act.eval, Act.put]) (by exact oX.out.2.1) rfl (p + 1) (by simp) (by omega) ?_
           intro A2 c2 w2 r2 g2 l2
           have M2 := Lib.hid (M.out.more oX.out.2.2.drew (Nat.le_refl _) (by exact oX.out.1) r2 g2 l2)
           obtain ⟨c2, k2⟩ := M.out.kept oX.out.2.2.drew g2
           clear r2 g2 l2))
      all_goals
        go_wp2_with fail
        go_roundg (n + 1 - (p + 1))
        case measure => omega
        case rel => exact ⟨p + 1, _, _, by simp, by omega, by omega, M2⟩
    · have hpe : p = n := by omega
      subst hpe
      have hpl' : ¬ ((p : Int) < (p : Int)) := by omega
      go_wp2_with fail
      go_ret
      obtain ⟨T, q1, q2⟩ := M.out.done h1 h16
      exact ⟨_, rfl, T, q1, q2, M.out.only⟩
end Go.Proofs.YtajhkdbldbifeaaGreatDoor
