/-
  What lies in memory where there is a wheel.
  Contracts of the wheel's New, Base, Has, Len, Map, where, put.
  Contract of the wheel's put.
  Contract of the wheel's remove.
  The wheel as a whole, told by the list of its items; contract of turn.
-/
import Derived.Test.YtajhkdbldbifeaaGreatDoorGmS
import Derived.Test.YtajhkdbldbifeaaGreatDoorGmB
namespace Go.Proofs.YtajhkdbldbifeaaGreatDoor
set_option maxRecDepth 100000
open Go.RowKit Go.ChangeMaps Go.MapKept
set_option linter.unusedVariables false
set_option linter.unusedSimpArgs false

/-! ### bitmaps -/
theorem bit_with (m b j : Nat) (hb : b < 64) : (withM m (b : Int)).testBit j = (m.testBit j || decide (b = j)) := by
  unfold withM oneM
  rw [if_pos (by omega), Nat.testBit_or, Int.toNat_natCast, Nat.testBit_two_pow]
theorem bit_without (m b j : Nat) (hb : b < 64) (hj : j < 64) : (withoutM m (b : Int)).testBit j = (m.testBit j && !decide (b = j)) := by
  unfold withoutM oneM
  have e : 18446744073709551615 - 2 ^ b = 2 ^ 64 - (2 ^ b + 1) := by omega
  rw [if_pos (by omega), Nat.testBit_and, Int.toNat_natCast, e, Nat.testBit_two_pow_sub_succ (Nat.pow_lt_pow_right (by decide) hb), Nat.testBit_two_pow, decide_eq_true hj, Bool.true_and]
/-- A level's bitmap tells which of its buckets have something. -/
def Tells (ms : Nat → Nat) (f : Nat → List It) : Prop := ∀ L, L < 3 → ms L < 18446744073709551616 ∧ ∀ b, b < 64 → (ms L).testBit b = !(f (L * 64 + b)).isEmpty
def setN {α : Type} (f : Nat → α) (i : Nat) (v : α) : Nat → α := fun j => if j = i then v else f j
@[simp] theorem setN_same {α : Type} (f : Nat → α) (i : Nat) (v : α) : setN f i v i = v := by simp [setN]
theorem setN_ne {α : Type} (f : Nat → α) {i j : Nat} (v : α) (h : j ≠ i) : setN f i v j = f j := by simp [setN, h]
theorem Tells.with_ {ms : Nat → Nat} {f : Nat → List It} (h : Tells ms f) {L b : Nat} (hL : L < 3) (hb : b < 64) {xs : List It} (hx : xs ≠ []) : Tells (setN ms L (withM (ms L) (b : Int))) (setN f (L * 64 + b) xs) := by
  intro L' hL'
  by_cases e : L' = L
  · subst e
    rw [setN_same]
    refine ⟨withM_lt _ _ (h L' hL).1, fun j hj => ?_⟩
    rw [bit_with _ _ _ hb]
    by_cases e2 : b = j
    · subst e2
      rw [setN_same, decide_eq_true rfl, Bool.or_true]
      cases xs with
      | nil => exact absurd rfl hx
      | cons x xs => rfl
    · rw [setN_ne _ _ (by omega), decide_eq_false e2, Bool.or_false]
      exact (h L' hL).2 j hj
  · rw [setN_ne _ _ e]
    refine ⟨(h L' hL').1, fun j hj => ?_⟩
    rw [setN_ne _ _ (by omega)]
    exact (h L' hL').2 j hj
theorem Tells.without_ {ms : Nat → Nat} {f : Nat → List It} (h : Tells ms f) {L b : Nat} (hL : L < 3) (hb : b < 64) : Tells (setN ms L (withoutM (ms L) (b : Int))) (setN f (L * 64 + b) []) := by
  intro L' hL'
  by_cases e : L' = L
  · subst e
    rw [setN_same]
    refine ⟨withoutM_lt _ _ (h L' hL).1, fun j hj => ?_⟩
    rw [bit_without _ _ _ hb hj]
    by_cases e2 : b = j
    · subst e2
      rw [setN_same, decide_eq_true rfl]
      simp
    · rw [setN_ne _ _ (by omega), decide_eq_false e2]
      simp only [Bool.not_false, Bool.and_true]
      exact (h L' hL).2 j hj
  · rw [setN_ne _ _ e]
    refine ⟨(h L' hL').1, fun j hj => ?_⟩
    rw [setN_ne _ _ (by omega)]
    exact (h L' hL').2 j hj
theorem Tells.keep {ms : Nat → Nat} {f : Nat → List It} (h : Tells ms f) {i : Nat} {xs : List It} (hx : xs.isEmpty = (f i).isEmpty) : Tells ms (setN f i xs) := by
  intro L hL
  refine ⟨(h L hL).1, fun b hb => ?_⟩
  by_cases e : L * 64 + b = i
  · rw [e, setN_same, hx, ← e]; exact (h L hL).2 b hb
  · rw [setN_ne _ _ e]; exact (h L hL).2 b hb

/-! ### the struct -/
def wcell (wd : Nat) (base : Int) (vs : Nat → Value) (ms : Nat → Nat) (mb k : Nat) : Option Value :=
  if k = 0 then some (.int .i64 (wd : Int)) else if k = 1 then some (.int .u64 base) else if k < 194 then some (vs (k - 2)) else if k < 197 then some (.int .u64 ((ms (k - 194) : Nat) : Int)) else if k = 197 then some (.map (some mb)) else none
def WBlk (w : World) (wb wd : Nat) (base : Int) (vs : Nat → Value) (ms : Nat → Nat) (mb : Nat) : Prop :=
  ∃ cs, w.heap[wb]? = some (.cells cs 106 (0, 0)) ∧ ∀ k, cs[k]? = wcell wd base vs ms mb k
section
variable {w w' : World} {wb wd mb : Nat} {base : Int} {vs : Nat → Value} {ms : Nat → Nat}
theorem WBlk.cell (h : WBlk w wb wd base vs ms mb) (k : Nat) : w.cell? ⟨wb, k, none⟩ = wcell wd base vs ms mb k := by
  obtain ⟨cs, hc, hk⟩ := h
  rw [cell_of_row w wb k _ _ _ hc, hk]
theorem WBlk.c0 (h : WBlk w wb wd base vs ms mb) : w.cell? ⟨wb, 0, none⟩ = some (.int .i64 (wd : Int)) := h.cell 0
theorem WBlk.c1 (h : WBlk w wb wd base vs ms mb) : w.cell? ⟨wb, 1, none⟩ = some (.int .u64 base) := h.cell 1
theorem WBlk.c2 (h : WBlk w wb wd base vs ms mb) : w.cell? ⟨wb, 197, none⟩ = some (.map (some mb)) := h.cell 197
theorem WBlk.list (h : WBlk w wb wd base vs ms mb) {i : Nat} (hi : i < 192) : w.cell? ⟨wb, 2 + i, none⟩ = some (vs i) := by
  rw [h.cell]
  unfold wcell
  rw [if_neg (by omega), if_neg (by omega), if_pos (by omega)]
  congr 2
  omega
theorem WBlk.bmap (h : WBlk w wb wd base vs ms mb) {L : Nat} (hL : L < 3) : w.cell? ⟨wb, 194 + L, none⟩ = some (.int .u64 ((ms L : Nat) : Int)) := by
  rw [h.cell]
  unfold wcell
  rw [if_neg (by omega), if_neg (by omega), if_neg (by omega), if_pos (by omega), Nat.add_sub_cancel_left]
theorem WBlk.fr (h : WBlk w wb wd base vs ms mb) (k : Nat) : w.frozen? ⟨wb, k, none⟩ = false := by
  obtain ⟨cs, hc, hk⟩ := h
  simp [World.frozen?, hc]
theorem WBlk.keep (h : WBlk w wb wd base vs ms mb) (hk : w'.heap[wb]? = w.heap[wb]?) : WBlk w' wb wd base vs ms mb := by
  obtain ⟨cs, hc, h⟩ := h
  exact ⟨cs, hk.trans hc, h⟩
theorem WBlk.lt (h : WBlk w wb wd base vs ms mb) : wb < w.heap.size := by
  obtain ⟨cs, hc, h⟩ := h
  exact (Array.getElem?_eq_some_iff.1 hc).1
theorem WBlk.set (h : WBlk w wb wd base vs ms mb) (j : Nat) (v : Value) (hj : j < 198) : ∃ cs, (w.setCell ⟨wb, j, none⟩ v).heap[wb]? = some (.cells cs 106 (0, 0)) ∧ ∀ k, cs[k]? = if k = j then some v else wcell wd base vs ms mb k := by
  obtain ⟨cs, hc, h⟩ := h
  refine ⟨cs.setIfInBounds j v, by simp [World.setCell, Array.getElem?_modify, hc], fun k => ?_⟩
  rw [Array.getElem?_setIfInBounds]
  by_cases e : j = k
  · subst e
    have hs : j < cs.size := by
      rcases Nat.lt_or_ge j cs.size with h1 | h1
      · exact h1
      · have := h j
        rw [Array.getElem?_eq_none h1] at this
        unfold wcell at this
        exfalso
        revert this
        split
        · simp
        · split
          · simp
          · split
            · simp
            · split
              · simp
              · rw [if_pos (by omega)]; simp
    rw [if_pos rfl, if_pos hs, if_pos rfl]
  · rw [if_neg e, if_neg (fun e2 => e e2.symm), h]
theorem WBlk.setList (h : WBlk w wb wd base vs ms mb) {i : Nat} (hi : i < 192) (v : Value) : WBlk (w.setCell ⟨wb, 2 + i, none⟩ v) wb wd base (setN vs i v) ms mb := by
  obtain ⟨cs, hc, hk⟩ := h.set (2 + i) v (by omega)
  refine ⟨cs, hc, fun k => ?_⟩
  rw [hk]
  unfold wcell setN
  by_cases e : k = 2 + i
  · subst e
    rw [if_pos rfl, if_neg (by omega), if_neg (by omega), if_pos (by omega), if_pos (by omega)]
  · rw [if_neg e]
    split
    · rfl
    · split
      · rfl
      · split
        · rw [if_neg (by omega)]
        · rfl
theorem WBlk.setMap (h : WBlk w wb wd base vs ms mb) {L : Nat} (hL : L < 3) (m : Nat) : WBlk (w.setCell ⟨wb, 194 + L, none⟩ (.int .u64 ((m : Nat) : Int))) wb wd base vs (setN ms L m) mb := by
  obtain ⟨cs, hc, hk⟩ := h.set (194 + L) (.int .u64 ((m : Nat) : Int)) (by omega)
  refine ⟨cs, hc, fun k => ?_⟩
  rw [hk]
  unfold wcell setN
  by_cases e : k = 194 + L
  · subst e
    rw [if_pos rfl, if_neg (by omega), if_neg (by omega), if_neg (by omega), if_pos (by omega), if_pos (by omega)]
  · rw [if_neg e]
    split
    · rfl
    · split
      · rfl
      · split
        · rfl
        · split
          · rw [if_neg (by omega)]
          · rfl
theorem WBlk.setBase (h : WBlk w wb wd base vs ms mb) (to : Int) : WBlk (w.setCell ⟨wb, 1, none⟩ (.int .u64 to)) wb wd to vs ms mb := by
  obtain ⟨cs, hc, hk⟩ := h.set 1 (.int .u64 to) (by omega)
  refine ⟨cs, hc, fun k => ?_⟩
  rw [hk]
  unfold wcell
  by_cases e : k = 1
  · subst e; simp
  · simp [e]
end

/-! ### all of it -/
/-- The blocks of a wheel. -/
def wown (wb mb : Nat) (vs : Nat → Value) : List Nat := wb :: mb :: (List.range 192).flatMap fun i => (vs i).ownBlock.toList
theorem mem_wown {wb mb : Nat} {vs : Nat → Value} {b : Nat} : b ∈ wown wb mb vs ↔ b = wb ∨ b = mb ∨ ∃ i, i < 192 ∧ (vs i).ownBlock = some b := by
  simp [wown, List.mem_flatMap]
structure WheelIs (w : World) (wb mb : Nat) (vs : Nat → Value) (ms : Nat → Nat) (wd : Nat) (base : Int) (f : Nat → List It) (K : Int → Option Int) : Prop where
  blk : WBlk w wb wd base vs ms mb
  tells : Tells ms f
  rows : ∀ i, i < 192 → RowIs w (vs i) (f i)
  apart : ∀ i j g, i < 192 → j < 192 → (vs i).ownBlock = some g → (vs j).ownBlock = some g → i = j
  map : MapU w mb K
section
variable {w w' : World} {wb wd mb : Nat} {base : Int} {vs : Nat → Value} {ms : Nat → Nat} {f : Nat → List It} {K : Int → Option Int} {S : List Nat}
theorem WheelIs.lt (h : WheelIs w wb mb vs ms wd base f K) : ∀ b ∈ wown wb mb vs, b < w.heap.size := by
  intro b hb
  rcases mem_wown.1 hb with rfl | rfl | ⟨i, hi, e⟩
  · exact h.blk.lt
  · exact h.map.lt
  · exact (h.rows i hi).lt e
theorem WheelIs.keep (h : WheelIs w wb mb vs ms wd base f K) (hk : ∀ b ∈ wown wb mb vs, w'.heap[b]? = w.heap[b]?) : WheelIs w' wb mb vs ms wd base f K :=
  ⟨h.blk.keep (hk _ (mem_wown.2 (.inl rfl))), h.tells, fun i hi => (h.rows i hi).keep fun g hg => hk g (mem_wown.2 (.inr (.inr ⟨i, hi, hg⟩))), h.apart, h.map.keep (hk _ (mem_wown.2 (.inr (.inl rfl))))⟩
theorem WheelIs.only (h : WheelIs w wb mb vs ms wd base f K) (ho : Only S w w') (hS : ∀ b ∈ wown wb mb vs, b ∉ S) : WheelIs w' wb mb vs ms wd base f K := h.keep fun b hb => ho.block b (h.lt b hb) (hS b hb)
theorem WheelIs.only0 (h : WheelIs w wb mb vs ms wd base f K) (ho : Only [] w w') : WheelIs w' wb mb vs ms wd base f K := h.only ho (by simp)
theorem WheelIs.wbmb (h : WheelIs w wb mb vs ms wd base f K) : wb ≠ mb := by
  rintro rfl
  obtain ⟨es, cl, he, _⟩ := h.map
  obtain ⟨cs, hc, _⟩ := h.blk
  rw [he] at hc
  cases hc
theorem WheelIs.wbg (h : WheelIs w wb mb vs ms wd base f K) {i g : Nat} (hi : i < 192) (hg : (vs i).ownBlock = some g) : wb ≠ g := by
  rintro rfl
  obtain ⟨cur, hc⟩ := own_item_blk (h.rows i hi) hg
  obtain ⟨cs, hc2, _⟩ := h.blk
  rw [hc] at hc2
  injection hc2 with hc2
  injection hc2 with _ hc2
  cases hc2
theorem WheelIs.mbg (h : WheelIs w wb mb vs ms wd base f K) {i g : Nat} (hi : i < 192) (hg : (vs i).ownBlock = some g) : mb ≠ g := by
  rintro rfl
  obtain ⟨cur, hc⟩ := own_item_blk (h.rows i hi) hg
  obtain ⟨es, cl, he, _⟩ := h.map
  rw [hc] at he
  cases he
/-- One row put in another's place: what lies behind it. -/
theorem WheelIs.row {w1 : World} (h : WheelIs w wb mb vs ms wd base f K) {i : Nat} (hi : i < 192) {v' : Value} {zs : List It} (hr : RowIs w1 v' zs) (ho : Only (vs i).ownBlock.toList w w1) (hv : (v'.ownBlock = (vs i).ownBlock ∨ ∃ g, v'.ownBlock = some g ∧ w.heap.size ≤ g))
    {ms' : Nat → Nat} (hT : Tells ms' (setN f i zs)) {w2 : World} (hb : WBlk w2 wb wd base (setN vs i v') ms' mb) (ho2 : Only [wb] w1 w2) :
    WheelIs w2 wb mb (setN vs i v') ms' wd base (setN f i zs) K ∧ Moved w (wown wb mb vs) w2 (wown wb mb (setN vs i v')) := by
  have hwb := h.blk.lt
  have hne : ∀ g, (vs i).ownBlock = some g → g ≠ wb ∧ g ≠ mb := fun g hg => ⟨(h.wbg hi hg).symm, (h.mbg hi hg).symm⟩
  have hv' : ∀ g, v'.ownBlock = some g → g ≠ wb := fun g hg e => by
    rcases hv with e2 | ⟨g2, e2, h2⟩
    · exact (hne g (by rw [← e2]; exact hg)).1 e
    · rw [hg] at e2; injection e2 with e2; omega
  refine ⟨⟨hb, hT, fun j hj => ?_, fun j k g hj hk e1 e2 => ?_, ?_⟩, ?_, ?_⟩
  · by_cases e : j = i
    · subst e
      rw [setN_same, setN_same]
      exact hr.keep fun g hg => ho2.block g (hr.lt hg) (by simpa using hv' g hg)
    · rw [setN_ne _ _ e, setN_ne _ _ e]
      have hrj := h.rows j hj
      refine hrj.keep fun g hg => ?_
      have h1 : g ∉ (vs i).ownBlock.toList := fun hm => e (h.apart j i g hj hi hg (Option.mem_toList.1 hm))
      have e1 := ho.block g (hrj.lt hg) h1
      have e2 := ho2.block g (Nat.lt_of_lt_of_le (hrj.lt hg) ho.size) (by simpa using (h.wbg hj hg).symm)
      exact e2.trans e1
  · have hnew : ∀ j, j < 192 → j ≠ i → ∀ g, (vs j).ownBlock = some g → v'.ownBlock = some g → False := fun j hj hji g h1 h2 => by
      rcases hv with e | ⟨g2, e, hg2⟩
      · exact hji (h.apart j i g hj hi h1 (by rw [← e]; exact h2))
      · rw [h2] at e
        injection e with e
        have := (h.rows j hj).lt h1
        omega
    by_cases ej : j = i <;> by_cases ek : k = i
    · omega
    · subst ej
      rw [setN_same] at e1
      rw [setN_ne _ _ ek] at e2
      exact (hnew k hk ek g e2 e1).elim
    · subst ek
      rw [setN_same] at e2
      rw [setN_ne _ _ ej] at e1
      exact (hnew j hj ej g e1 e2).elim
    · rw [setN_ne _ _ ej] at e1
      rw [setN_ne _ _ ek] at e2
      exact h.apart j k g hj hk e1 e2
  · have hmb := h.map.lt
    have e1 := ho.block mb hmb (fun hm => (hne mb (Option.mem_toList.1 hm)).2 rfl)
    have e2 := ho2.block mb (Nat.lt_of_lt_of_le hmb ho.size) (by simpa using h.wbmb.symm)
    exact h.map.keep (e2.trans e1)
  · refine (ho.mono (T := wown wb mb vs) fun k hk => .inl (mem_wown.2 (.inr (.inr ⟨i, hi, Option.mem_toList.1 hk⟩)))).trans ho2 fun k hk => .inl (mem_wown.2 (.inl (by simpa using hk)))
  · intro b hb'
    rcases mem_wown.1 hb' with rfl | rfl | ⟨j, hj, e⟩
    · exact .inl (mem_wown.2 (.inl rfl))
    · exact .inl (mem_wown.2 (.inr (.inl rfl)))
    · by_cases ej : j = i
      · subst ej
        rw [setN_same] at e
        rcases hv with e2 | ⟨g, e2, hg⟩
        · exact .inl (mem_wown.2 (.inr (.inr ⟨j, hj, by rw [← e2]; exact e⟩)))
        · rw [e] at e2; injection e2 with e2; exact .inr (by omega)
      · rw [setN_ne _ _ ej] at e
        exact .inl (mem_wown.2 (.inr (.inr ⟨j, hj, e⟩)))
end
end Go.Proofs.YtajhkdbldbifeaaGreatDoor

namespace Go.Proofs.YtajhkdbldbifeaaGreatDoor
set_option maxRecDepth 100000
open Go.RowKit Go.ChangeMaps Go.MapKept
set_option linter.unusedVariables false
set_option linter.unusedSimpArgs false

/-- The bucket that where tells. -/
def bkW (wd : Nat) (base key : Int) : Int := if 0 ≤ levM wd base key ∧ levM wd base key ≤ 2 then bkM wd key (levM wd base key).toNat else -1
set_option maxHeartbeats 1000000 in
theorem where_any (w : World) (wb wd mb : Nat) (base : Int) (vs : Nat → Value) (ms : Nat → Nat) (h : WBlk w wb wd base vs ms mb) (hwd : wd ≤ 40) (key : Int) (b0 : 0 ≤ base) (b1 : base ≤ 18446744073709551615) (k0 : 0 ≤ key) (k1 : key ≤ 18446744073709551615) :
    Calls Tryz.prog 113 #[.pointer (some ⟨wb, 0, none⟩), .int .u64 key] w fun e w' => e = .returned (.tuple #[.int .i64 (levM wd base key), .int .i64 (bkW wd base key)]) ∧ Only [] w w' := by
  have c0 := h.c0
  have c1 := h.c1
  have hlv := level_any base key (wd : Int) b0 b1 k0 k1
  rw [wid_nat hwd] at hlv
  have hbk : ∀ W, Calls Tryz.prog 135 #[.int .u64 key, .int .i64 (levM wd base key), .int .i64 (wd : Int)] W fun e w' => e = .returned (.int .i64 (bkW wd base key)) ∧ W = w' := by
    intro W
    unfold bkW
    split
    · rename_i hr
      obtain ⟨L, hL⟩ := Int.eq_ofNat_of_zero_le hr.1
      have := bucket_in key (wd : Int) L (by omega) k0 k1 W
      rw [wid_nat hwd] at this
      rw [hL]
      exact this
    · exact bucket_out key (wd : Int) _ (by omega) W
  clear h
  generalize levM wd base key = lv at *
  generalize bkW wd base key = bk at *
  go_enter Tryz.func113, Tryz.ntmps113
  go_wp2_with fail
  go_still_tail 9, (by kernel_rfl)
  change wpList _ _ _ _ _ w.drew
  go_wp2_with (first | (go_at_call 93; refine (hlv _).mono ?_; rintro e w' ⟨rfl, rfl⟩) | (go_at_call 135; refine (hbk _).mono ?_; rintro e w' ⟨rfl, rfl⟩))
  go_ret2
  exact ⟨rfl, (Only.refl _ _).drew⟩

theorem wBase (w : World) (wb wd mb : Nat) (base : Int) (vs : Nat → Value) (ms : Nat → Nat) (h : WBlk w wb wd base vs ms mb) :
    Calls Tryz.prog 68 #[.pointer (some ⟨wb, 0, none⟩)] w fun e w' => e = .returned (.int .u64 base) ∧ w' = w := by
  have c1 := h.c1
  clear h
  go_enter Tryz.func68, Tryz.ntmps68
  go_wp2
  go_ret
  exact ⟨rfl, rfl⟩
theorem wHas (w : World) (wb wd mb : Nat) (base : Int) (vs : Nat → Value) (ms : Nat → Nat) (h : WBlk w wb wd base vs ms mb) (K : Int → Option Int) (hm : MapU w mb K) (id : Int) (hid : i64ok id) :
    Calls Tryz.prog 85 #[.pointer (some ⟨wb, 0, none⟩), .int .i64 id] w fun e w' => e = .returned (.bool (K id).isSome) ∧ w' = w := by
  have c2 := h.c2
  have lk := hm.look hid 104 Tryz.underlying104
  clear h hm
  generalize (K id).isSome = b at *
  generalize (K id).getD 0 = z at *
  go_enter Tryz.func85, Tryz.ntmps85
  go_wp2
  go_ret
  exact ⟨rfl, rfl⟩
theorem wLen (w : World) (wb wd mb : Nat) (base : Int) (vs : Nat → Value) (ms : Nat → Nat) (h : WBlk w wb wd base vs ms mb) (es : Array MapEntry) (cl : Nat) (hm : w.heap[mb]? = some (.map es cl)) :
    Calls Tryz.prog 66 #[.pointer (some ⟨wb, 0, none⟩)] w fun e w' => e = .returned (.int .i64 (es.size : Int)) ∧ w' = w := by
  have c2 := h.c2
  have hg : (Builtin.len_ #[104] 3 #[.map (some mb)]).run Tryz.prog w = .ok (.int .i64 (es.size : Int)) w := by
    simp [Builtin.len_, Builtin.lenOf, run_underlying Tryz.underlying104, MapKept.run_getObj_map hm, goInt]
  clear h
  go_enter Tryz.func66, Tryz.ntmps66
  go_wp2
  go_ret
  exact ⟨rfl, rfl⟩
theorem zero_wheel : Tryz.zeroCells106.toList = Value.int .i64 0 :: Value.int .u64 0 :: (List.replicate 192 (Value.slice none 0 0) ++ [Value.int .u64 0, Value.int .u64 0, Value.int .u64 0, Value.map none]) := by kernel_rfl
set_option maxRecDepth 100000 in
theorem zero_wcell (wd mb k : Nat) : ((Tryz.zeroCells106.setIfInBounds 0 (.int .i64 (wd : Int))).setIfInBounds 197 (.map (some mb)))[k]? = wcell wd 0 (fun _ => .slice none 0 0) (fun _ => 0) mb k := by
  have hs : Tryz.zeroCells106.size = 198 := by kernel_rfl
  have hz : ∀ k, Tryz.zeroCells106[k]? = (Value.int .i64 0 :: Value.int .u64 0 :: (List.replicate 192 (Value.slice none 0 0) ++ [Value.int .u64 0, Value.int .u64 0, Value.int .u64 0, Value.map none]))[k]? := fun k => by rw [← zero_wheel, Array.getElem?_toList]
  rw [Array.getElem?_setIfInBounds, Array.getElem?_setIfInBounds, Array.size_setIfInBounds, hs, hz]
  unfold wcell
  by_cases e0 : k = 0
  · subst e0; simp
  · by_cases e1 : k = 1
    · subst e1; simp
    · obtain ⟨j, rfl⟩ : ∃ j, k = j + 2 := ⟨k - 2, by omega⟩
      rw [if_neg e0, if_neg e1]
      by_cases e9 : 197 = j + 2
      · rw [if_pos e9, if_pos (by omega), if_neg (by omega), if_neg (by omega), if_pos (by omega)]
      · rw [if_neg e9, if_neg (by omega)]
        simp only [List.getElem?_cons_succ]
        by_cases h2 : j + 2 < 194
        · rw [if_pos h2, List.getElem?_append_left (by simp; omega), List.getElem?_replicate, if_pos (by omega)]
        · rw [if_neg h2, List.getElem?_append_right (by simp; omega)]
          simp only [List.length_replicate]
          by_cases h3 : j + 2 < 197
          · rw [if_pos h3]
            have h4 : j - 192 = 0 ∨ j - 192 = 1 ∨ j - 192 = 2 := by omega
            rcases h4 with h | h | h <;> rw [h] <;> rfl
          · rw [if_neg h3, if_neg (by omega)]
            apply List.getElem?_eq_none
            simp; omega
set_option maxRecDepth 100000 in
theorem wNew (w : World) (width : Int) :
    Calls Tryz.prog 82 #[.int .i64 width] w fun e w' => ∃ wb mb, e = .returned (.pointer (some ⟨wb, 0, none⟩)) ∧ w.heap.size ≤ wb ∧ w.heap.size ≤ mb ∧ WBlk w' wb (wid width) 0 (fun _ => .slice none 0 0) (fun _ => 0) mb ∧ MapU w' mb (fun _ => none) ∧ Only [] w w' := by
  have hmm := @run_makeMap Tryz.prog
  have hc := clamp_any width w
  go_enter Tryz.func82, Tryz.ntmps82
  go_wp2_with (go_at_call 104; refine hc.mono ?_; rintro e w' ⟨rfl, rfl⟩)
  go_ret
  have hm := MapU.made w
  have o1 : Only [] (w.alloc (.map #[] 0)) ((w.alloc (.map #[] 0)).alloc (.cells ((Tryz.zeroCells106.setIfInBounds 0 (.int .i64 ((wid width : Nat) : Int))).setIfInBounds 197 (.map (some w.heap.size))) 106)) := (Only.refl _ _).alloc _
  refine ⟨w.heap.size + 1, w.heap.size, rfl, by omega, by omega, ⟨_, ?_, fun k => zero_wcell (wid width) w.heap.size k⟩, hm.keep (o1.block _ hm.lt (by simp)), ((Only.refl _ _).alloc _).alloc _⟩
  have := heap_alloc_new (w.alloc (.map #[] 0)) (.cells ((Tryz.zeroCells106.setIfInBounds 0 (.int .i64 ((wid width : Nat) : Int))).setIfInBounds 197 (.map (some w.heap.size))) 106)
  simpa using this

theorem ins_ne (y : It) (l : List It) : ins y l ≠ [] := by unfold ins; simp
/-- Behind a row's new form. -/
theorem WheelIs.mid {w W w3 : World} {wb mb wd : Nat} {vs : Nat → Value} {ms : Nat → Nat} {base : Int} {f : Nat → List It} {K : Int → Option Int} (h : WheelIs w wb mb vs ms wd base f K) (oW : Only [] w W) {i : Nat} (hi : i < 192) (o3 : Only (vs i).ownBlock.toList W w3) : WBlk w3 wb wd base vs ms mb := by
  have hW := h.only0 oW
  refine hW.blk.keep (o3.block wb hW.blk.lt fun hm => ?_)
  exact (hW.wbg hi (Option.mem_toList.1 hm)) rfl
theorem WheelIs.done {w W w3 w5 : World} {wb mb wd : Nat} {vs : Nat → Value} {ms : Nat → Nat} {base : Int} {f : Nat → List It} {K : Int → Option Int} (h : WheelIs w wb mb vs ms wd base f K) (oW : Only [] w W) {i : Nat} (hi : i < 192) {v' : Value} {zs : List It} (r3 : RowIs w3 v' zs) (o3 : Only (vs i).ownBlock.toList W w3)
    (l3 : v'.ownBlock = (vs i).ownBlock ∨ ∃ g, v'.ownBlock = some g ∧ W.heap.size ≤ g) {ms' : Nat → Nat} (hT : Tells ms' (setN f i zs)) (hb : WBlk w5 wb wd base (setN vs i v') ms' mb) (ho : Only [wb] w3 w5) :
    ∃ vs' ms', WheelIs w5 wb mb vs' ms' wd base (setN f i zs) K ∧ Moved w (wown wb mb vs) w5 (wown wb mb vs') := by
  obtain ⟨q1, q2⟩ := (h.only0 oW).row hi r3 o3 l3 hT hb ho
  exact ⟨_, _, q1, (Moved.of_only oW).trans q2⟩

end Go.Proofs.YtajhkdbldbifeaaGreatDoor

namespace Go.Proofs.YtajhkdbldbifeaaGreatDoor
set_option maxRecDepth 100000
open Go.RowKit Go.ChangeMaps Go.MapKept
set_option linter.unusedVariables false
set_option linter.unusedSimpArgs false

set_option maxRecDepth 100000 in
set_option maxHeartbeats 4000000 in
/-- put: an item in reach is laid into its bucket. -/
theorem wPut (w : World) (wb mb wd : Nat) (vs : Nat → Value) (ms : Nat → Nat) (base : Int) (f : Nat → List It) (K : Int → Option Int) (h : WheelIs w wb mb vs ms wd base f K) (hwd : wd ≤ 40) (b0 : 0 ≤ base) (b1 : base ≤ 18446744073709551615)
    (x : It) (hx : x.ok) (hr : reach wd base x.k) (hf : Rises (f (pl wd base x))) (hl : (f (pl wd base x)).length ≤ 1000000) :
    Calls Tryz.prog 94 #[.pointer (some ⟨wb, 0, none⟩), .agg #[.int .u64 x.k, .int .i64 x.i]] w fun e w' => e = .returned (.tuple #[]) ∧
      ∃ vs' ms', WheelIs w' wb mb vs' ms' wd base (setN f (pl wd base x) (ins x (f (pl wd base x)))) K ∧ Moved w (wown wb mb vs) w' (wown wb mb vs') := by
  have kk : 0 ≤ x.k ∧ x.k ≤ 18446744073709551615 := by
    have := hx.1
    simp [Lit.wf, IntKind.min, IntKind.max, IntKind.signed, IntKind.bits] at this
    omega
  obtain ⟨L, hL, eL, b, hb, eb, ep⟩ := pos_is hr
  have hbw : bkW wd base x.k = (b : Int) := by
    unfold bkW
    rw [if_pos (reach_iff.1 hr), eL, Int.toNat_natCast, eb]
  have hp : pl wd base x = L * 64 + b := ep
  rw [hp] at hf hl ⊢
  have hi : L * 64 + b < 192 := by omega
  have oA : Only [] w (w.alloc (.cells #[.int .u64 x.k, .int .i64 x.i] 40)) := (Only.refl [] w).alloc _
  have bX : Box _ w.heap.size x := Box.new w x
  have hwh := where_any _ wb wd mb base vs ms (h.blk.keep (oA.block wb h.blk.lt (by simp))) hwd x.k b0 b1 kk.1 kk.2
  rw [eL, hbw] at hwh
  have H := Lib.hid h
  have HA := Lib.hid oA
  have HX := Lib.hid bX
  have hwb := h.blk.lt
  have HO : Hid (∀ b' ∈ wown wb mb vs, b' < w.heap.size) := h.lt
  clear h oA bX
  go_enter Tryz.func94, Tryz.ntmps94
  go_wp2_with fail
  refine hwh.mono ?_
  rintro e w1 ⟨rfl, o1⟩
  clear hwh
  have h1 := H.out.only0 (HA.out.trans' o1)
  have bX1 := HX.out.only o1 (by simp)
  have c0 := bX1.c0
  have c1 := bX1.c1
  have cl : w1.cell? ⟨wb, 2 + L * 64 + b, none⟩ = some (vs (L * 64 + b)) := by rw [Nat.add_assoc]; exact h1.blk.list hi
  have hL' : (L : Int) < 3 := by omega
  have hb' : (b : Int) < 64 := by omega
  have hse := search_any w1 (vs (L * 64 + b)) (f (L * 64 + b)) (h1.rows _ hi) hf x hl
  have H1 := Lib.hid (And.intro h1 (And.intro bX1 (HA.out.trans' o1)))
  have hatl := at_le (f (L * 64 + b)) x
  clear h1 bX1 o1 H HA HX
  obtain ⟨N, eN⟩ : ∃ N, w.heap.size = N := ⟨_, rfl⟩
  rw [eN] at c0 c1 H1 hwb HO ⊢
  generalize hq : at_ (f (L * 64 + b)) x = q at *
  go_wp2_with fail
  refine hse.mono ?_
  rintro e w2 ⟨⟨fd, rfl⟩, o2⟩
  obtain ⟨h1, bX1, oW1⟩ := H1.out
  have h2 := h1.only0 o2
  have bX2 := bX1.only o2 (by simp)
  have d0 := bX2.c0
  have d1 := bX2.c1
  have fr2 := h2.blk.fr (2 + L * 64 + b)
  have hins : Hid (∀ W vb, Only [] w2 W → w2.heap.size ≤ vb → Box W vb x → Calls Tryz.prog 116 #[vs (L * 64 + b), .int .i64 (q : Int), .slice (some ⟨vb, 0, none⟩) 1 1] W (Put W (vs (L * 64 + b)) (ins x (f (L * 64 + b))))) := fun W vb oW hvb hB => by
    have h3 := (h2.only0 oW).rows _ hi
    have := insert_any W _ _ h3 vb x hB (fun e => by have := (h2.rows _ hi).lt e; omega) q hatl hl
    rw [← hq, ins_at, hq] at this
    exact this
  have H2 := Lib.hid (And.intro h2 (And.intro bX2 (oW1.trans' o2)))
  clear h1 bX1 oW1 H1 h2 bX2 hse o2 c0 c1 cl hq
  go_wp2_with fail
  have hN1 : N ≠ w2.heap.size := by have := H2.out.2.1.lt; omega
  have hNp : N ∉ (vs (L * 64 + b)).ownBlock.toList := fun hm => by
    have := HO.out N (mem_wown.2 (.inr (.inr ⟨_, hi, Option.mem_toList.1 hm⟩)))
    omega
  go_region_held3 (fun w' => w'.cell? ⟨N, 0, none⟩ = some (.int .u64 x.k) ∧ w'.cell? ⟨N, 1, none⟩ = some (.int .i64 x.i))
    (first | go_keep | (exact ⟨k0, k1⟩) | (exact ⟨k2 _ _, k3 _ _⟩))
    (first | (go_at_call 116; refine (hins.out _ _ (by first | exact (Only.refl [] w2).drew.alloc _ | exact ((Only.refl [] w2).alloc _).drew) (Nat.le_refl _) (by exact Box.new w2 x)).mono ?_; rintro e w3 ⟨v', rfl, r3, o3, l3⟩; obtain ⟨A3, cap3, rfl⟩ := r3.form; have B3 := H2.out.1.mid (by first | exact (Only.refl [] w2).drew.alloc _ | exact ((Only.refl [] w2).alloc _).drew) hi o3; have cl3 : w3.cell? ⟨wb, 2 + L * 64 + b, none⟩ = some (vs (L * 64 + b)) := (by rw [Nat.add_assoc]; exact B3.list hi); have fr3 := B3.fr (2 + L * 64 + b); have bX3 : Box w3 N x := (H2.out.2.1.only (show Only [] w2 _ from (by first | exact (Only.refl [] w2).drew.alloc _ | exact ((Only.refl [] w2).alloc _).drew)) (by simp)).only o3 hNp; have k0 := bX3.c0; have k1 := bX3.c1; have k2 : ∀ (j : Nat) (u : Value), (w3.setCell ⟨wb, j, none⟩ u).cell? ⟨N, 0, none⟩ = some (.int .u64 x.k) := (fun j u => (((Only.refl [wb] w3).setCell (.inl (by simp)) u).cell (p := ⟨N, 0, none⟩) bX3.lt (by simp; omega)).trans k0); have k3 : ∀ (j : Nat) (u : Value), (w3.setCell ⟨wb, j, none⟩ u).cell? ⟨N, 1, none⟩ = some (.int .i64 x.i) := (fun j u => (((Only.refl [wb] w3).setCell (.inl (by simp)) u).cell (p := ⟨N, 1, none⟩) bX3.lt (by simp; omega)).trans k1); have R3 := Lib.hid (And.intro r3 (And.intro o3 l3)); have HB3 := Lib.hid B3; clear B3 bX3 r3 o3 l3))
  clear k0 k1 k2 k3 cl3 fr3
  have B4 := HB3.out.setList hi (.slice A3 (ins x (f (L * 64 + b))).length cap3)
  rw [← Nat.add_assoc] at B4
  have hms := (H2.out.1.tells L hL).1
  have m0 := B4.bmap hL
  have fm := B4.fr (194 + L)
  have hwt := fun W => with_any (ms L) (b : Int) W hms
  have HB4 := Lib.hid B4
  have ho4 : Hid (Only [wb] w3 (w3.setCell ⟨wb, 2 + L * 64 + b, none⟩ (.slice A3 (ins x (f (L * 64 + b))).length cap3))) := (Only.refl [wb] w3).setCell (.inl (by simp)) _
  clear B4
  generalize w3.setCell ⟨wb, 2 + L * 64 + b, none⟩ (.slice A3 (ins x (f (L * 64 + b))).length cap3) = w4 at *
  go_wp2_with fail
  go_still_tail 13, (by kernel_rfl)
  still_call ((hwt _).mono fun _ _ q => ⟨q.1, q.2.symm⟩)
  repeat still_step
  refine wpStill_nil ?_
  change wpList _ _ _ _ _ w4.drew
  go_wp2_with fail
  go_end0
  obtain ⟨r3, o3, l3⟩ := R3.out
  have B5 := (HB4.out.keep (w' := w4.drew) rfl).setMap hL (withM (ms L) (b : Int))
  obtain ⟨vs', ms', q1, q2⟩ := H2.out.1.done (by first | exact (Only.refl [] w2).drew.alloc _ | exact ((Only.refl [] w2).alloc _).drew) hi r3 o3 l3 (H2.out.1.tells.with_ hL hb (ins_ne _ _)) B5 (ho4.out.drew.setCell (.inl (by simp)) _)
  exact ⟨rfl, vs', ms', q1, (Moved.of_only H2.out.2.2).trans q2⟩
end Go.Proofs.YtajhkdbldbifeaaGreatDoor

namespace Go.Proofs.YtajhkdbldbifeaaGreatDoor
set_option maxRecDepth 100000
open Go.RowKit Go.ChangeMaps Go.MapKept
set_option linter.unusedVariables false
set_option linter.unusedSimpArgs false

/-- The map turned. -/
theorem WheelIs.remap {w w' : World} {wb mb wd : Nat} {vs : Nat → Value} {ms : Nat → Nat} {base : Int} {f : Nat → List It} {K K' : Int → Option Int} (h : WheelIs w wb mb vs ms wd base f K) (hm : MapU w' mb K') (hg : w.grownBy w' (some mb)) :
    WheelIs w' wb mb vs ms wd base f K' ∧ Moved w (wown wb mb vs) w' (wown wb mb vs) := by
  have ho : Only [mb] w w' := (Only.refl [mb] w).grown hg (by simp)
  refine ⟨⟨h.blk.keep (ho.block wb h.blk.lt (by simpa using h.wbmb)), h.tells, fun i hi => (h.rows i hi).keep fun g hg => ho.block g ((h.rows i hi).lt hg) (by simpa using (h.mbg hi hg).symm), h.apart, hm⟩, ho.mono (by intro k hk; simp at hk; exact .inl (mem_wown.2 (.inr (.inl hk)))), fun b hb => .inl hb⟩

theorem erase_one {l : List It} {q : Nat} (hq : q < l.length) (h1 : l.length = 1) : l.eraseIdx q = [] := List.length_eq_zero_iff.1 (by rw [List.length_eraseIdx_of_lt hq, h1])
theorem erase_more {l : List It} {q : Nat} (hq : q < l.length) (h1 : l.length ≠ 1) : (l.eraseIdx q).isEmpty = l.isEmpty := by
  have e1 : (l.eraseIdx q).length = l.length - 1 := List.length_eraseIdx_of_lt hq
  cases hh : l.eraseIdx q with
  | nil => rw [hh] at e1; simp at e1; omega
  | cons y m =>
    cases l with
    | nil => simp at hq
    | cons z l => rfl
theorem beq_one {n : Nat} (h : n ≠ 1) : ((n : Int) == 1) = false := by simp; omega

set_option maxRecDepth 100000 in
set_option maxHeartbeats 4000000 in
theorem wRemove (w : World) (wb mb wd : Nat) (vs : Nat → Value) (ms : Nat → Nat) (base : Int) (f : Nat → List It) (K : Int → Option Int) (h : WheelIs w wb mb vs ms wd base f K) (hwd : wd ≤ 40) (b0 : 0 ≤ base) (b1 : base ≤ 18446744073709551615)
    (x : It) (hx : x.ok) (hr : reach wd base x.k) (hf : Rises (f (pl wd base x))) (hl : (f (pl wd base x)).length ≤ 1000000) (hin : at_ (f (pl wd base x)) x < (f (pl wd base x)).length) :
    Calls Tryz.prog 99 #[.pointer (some ⟨wb, 0, none⟩), .agg #[.int .u64 x.k, .int .i64 x.i]] w fun e w' => e = .returned (.tuple #[]) ∧
      ∃ vs' ms', WheelIs w' wb mb vs' ms' wd base (setN f (pl wd base x) ((f (pl wd base x)).eraseIdx (at_ (f (pl wd base x)) x))) (off K x.i) ∧ Moved w (wown wb mb vs) w' (wown wb mb vs') := by
  have kk : 0 ≤ x.k ∧ x.k ≤ 18446744073709551615 := by
    have := hx.1
    simp [Lit.wf, IntKind.min, IntKind.max, IntKind.signed, IntKind.bits] at this
    omega
  obtain ⟨L, hL, eL, b, hb, eb, ep⟩ := pos_is hr
  have hbw : bkW wd base x.k = (b : Int) := by
    unfold bkW
    rw [if_pos (reach_iff.1 hr), eL, Int.toNat_natCast, eb]
  have hp : pl wd base x = L * 64 + b := ep
  rw [hp] at hf hl hin ⊢
  have hi : L * 64 + b < 192 := by omega
  have oA : Only [] w (w.alloc (.cells #[.int .u64 x.k, .int .i64 x.i] 40)) := (Only.refl [] w).alloc _
  have bX : Box _ w.heap.size x := Box.new w x
  have hwh := where_any _ wb wd mb base vs ms (h.blk.keep (oA.block wb h.blk.lt (by simp))) hwd x.k b0 b1 kk.1 kk.2
  rw [eL, hbw] at hwh
  obtain ⟨A, cap, ev⟩ := (h.rows _ hi).form
  have H := Lib.hid h
  have HA := Lib.hid oA
  have HX := Lib.hid bX
  have hwb := h.blk.lt
  have hmb := h.map.lt
  have HO : Hid (∀ b' ∈ wown wb mb vs, b' < w.heap.size) := h.lt
  have EV := Lib.hid ev
  clear h oA bX
  go_enter Tryz.func99, Tryz.ntmps99
  go_wp2_with fail
  refine hwh.mono ?_
  rintro e w1 ⟨rfl, o1⟩
  clear hwh
  have h1 := H.out.only0 (HA.out.trans' o1)
  have bX1 := HX.out.only o1 (by simp)
  have c0 := bX1.c0
  have c1 := bX1.c1
  have cl : w1.cell? ⟨wb, 2 + L * 64 + b, none⟩ = some (.slice A (f (L * 64 + b)).length cap) := by rw [Nat.add_assoc, ← ev]; exact h1.blk.list hi
  have hL' : (L : Int) < 3 := by omega
  have hb' : (b : Int) < 64 := by omega
  have hse := search_any w1 (vs (L * 64 + b)) (f (L * 64 + b)) (h1.rows _ hi) hf x hl
  rw [ev] at hse
  have H1 := Lib.hid (And.intro h1 (And.intro bX1 (HA.out.trans' o1)))
  clear h1 bX1 o1 H HA HX ev
  obtain ⟨N, eN⟩ : ∃ N, w.heap.size = N := ⟨_, rfl⟩
  rw [eN] at c0 c1 H1 hwb HO hmb ⊢
  generalize hq : at_ (f (L * 64 + b)) x = q at *
  go_wp2_with fail
  refine hse.mono ?_
  rintro e w2 ⟨⟨fd, rfl⟩, o2⟩
  obtain ⟨h1, bX1, oW1⟩ := H1.out
  have h2 := h1.only0 o2
  have bX2 := bX1.only o2 (by simp)
  have d0 := bX2.c0
  have d1 := bX2.c1
  have fr2 := h2.blk.fr (2 + L * 64 + b)
  have hdel : Hid (∀ W, Only [] w2 W → Calls Tryz.prog 120 #[.slice A (f (L * 64 + b)).length cap, .int .i64 (q : Int), .int .i64 ((q : Int) + 1)] W (Put W (vs (L * 64 + b)) ((f (L * 64 + b)).eraseIdx q))) := fun W oW => by
    have h3 := (h2.only0 oW).rows _ hi
    have := delete_any W _ _ h3 q hin hl
    rw [EV.out] at this ⊢
    exact this
  have H2 := Lib.hid (And.intro h2 (And.intro bX2 (oW1.trans' o2)))
  clear h1 bX1 oW1 H1 h2 bX2 hse o2 c0 c1 cl
  have hNp : N ∉ (vs (L * 64 + b)).ownBlock.toList := fun hm => by
    have := HO.out N (mem_wown.2 (.inr (.inr ⟨_, hi, Option.mem_toList.1 hm⟩)))
    omega
  generalize hn : (f (L * 64 + b)).length = n at *
  go_wp2_with fail
  have hw1 : IntKind.i64.wrap ((q : Int) + 1) = (q : Int) + 1 := by rw [IntKind.wrap_i64]; omega
  have hw2 : wrap64 ((q : Int) + 1) = (q : Int) + 1 := by unfold wrap64; omega
  have hNw : ¬ N = wb := by omega
  go_region_held3 (fun w' => w'.cell? ⟨N, 0, none⟩ = some (.int .u64 x.k) ∧ w'.cell? ⟨N, 1, none⟩ = some (.int .i64 x.i))
    (first | go_keep | (exact ⟨k0, k1⟩) | (exact ⟨k2 _ _, k3 _ _⟩))
    (first | (go_at_call 120; refine (hdel.out _ ((Only.refl [] w2).drew)).mono ?_; rintro e w3 ⟨v', rfl, r3, o3, l3⟩; obtain ⟨A3, cap3, rfl⟩ := r3.form; have B3 := H2.out.1.mid ((Only.refl [] w2).drew) hi o3; have cl3 : w3.cell? ⟨wb, 2 + L * 64 + b, none⟩ = some (vs (L * 64 + b)) := (by rw [Nat.add_assoc]; exact B3.list hi); have fr3 := B3.fr (2 + L * 64 + b); have bX3 : Box w3 N x := (H2.out.2.1.only (show Only [] w2 _ from (Only.refl [] w2).drew) (by simp)).only o3 hNp; have k0 := bX3.c0; have k1 := bX3.c1; have k2 : ∀ (j : Nat) (u : Value), (w3.setCell ⟨wb, j, none⟩ u).cell? ⟨N, 0, none⟩ = some (.int .u64 x.k) := (fun j u => (((Only.refl [wb] w3).setCell (.inl (by simp)) u).cell (p := ⟨N, 0, none⟩) bX3.lt (by simp; omega)).trans k0); have k3 : ∀ (j : Nat) (u : Value), (w3.setCell ⟨wb, j, none⟩ u).cell? ⟨N, 1, none⟩ = some (.int .i64 x.i) := (fun j u => (((Only.refl [wb] w3).setCell (.inl (by simp)) u).cell (p := ⟨N, 1, none⟩) bX3.lt (by simp; omega)).trans k1); have R3 := Lib.hid (And.intro r3 (And.intro o3 (And.intro l3 bX3))); have HB3 := Lib.hid B3; clear B3 bX3 r3 o3 l3))
  clear k0 k1 k2 k3 cl3 fr3 hw1 hw2
  have B4 := HB3.out.setList hi (.slice A3 ((f (L * 64 + b)).eraseIdx q).length cap3)
  rw [← Nat.add_assoc] at B4
  have hms := (H2.out.1.tells L hL).1
  have m0 := B4.bmap hL
  have fm := B4.fr (194 + L)
  have hwt := fun W => without_any (ms L) (b : Int) W hms
  have HB4 := Lib.hid B4
  have ho4 : Hid (Only [wb] w3 (w3.setCell ⟨wb, 2 + L * 64 + b, none⟩ (.slice A3 ((f (L * 64 + b)).eraseIdx q).length cap3))) := (Only.refl [wb] w3).setCell (.inl (by simp)) _
  clear B4
  generalize w3.setCell ⟨wb, 2 + L * 64 + b, none⟩ (.slice A3 ((f (L * 64 + b)).eraseIdx q).length cap3) = w4 at *
  have hql : q < (f (L * 64 + b)).length := by rw [hn]; exact hin
  by_cases hn1 : n = 1
  · have hn1' : ((n : Int) == 1) = true := by rw [hn1]; rfl
    have hnil : Hid ((f (L * 64 + b)).eraseIdx q = []) := erase_one hql (by rw [hn]; exact hn1)
    clear hn1
    go_wp2_with fail
    go_still_tail 13, (by kernel_rfl)
    still_call ((hwt _).mono fun _ _ q => ⟨q.1, q.2.symm⟩)
    repeat still_step
    refine wpStill_nil ?_
    change wpList _ _ _ _ _ w4.drew
    go_wp2_with fail
    obtain ⟨w5, e5⟩ : ∃ w5, w5 = (w4.setCell ⟨wb, 194 + L, none⟩ (.int .u64 ((withoutM (ms L) (b : Int) : Nat) : Int))).drew := ⟨_, rfl⟩
    obtain ⟨vs', ms', HD⟩ : ∃ vs' ms', Hid (WheelIs w5 wb mb vs' ms' wd base (setN f (L * 64 + b) ((f (L * 64 + b)).eraseIdx q)) K ∧ Moved w (wown wb mb vs) w5 (wown wb mb vs') ∧ Box w5 N x ∧ True) := by
      obtain ⟨r3, o3, l3, bX3⟩ := R3.out
      have B5' := (HB4.out.setMap hL (withoutM (ms L) (b : Int))).keep (w' := (w4.setCell ⟨wb, 194 + L, none⟩ (.int .u64 ((withoutM (ms L) (b : Int) : Nat) : Int))).drew) rfl
      rw [← e5] at B5'
      have B5 := B5'
      have ho5 : Only [wb] w3 w5 := by rw [e5]; exact (ho4.out.setCell (.inl (by simp)) _).drew
      obtain ⟨vs', ms', q1, q2⟩ := H2.out.1.done ((Only.refl [] w2).drew) hi r3 o3 l3 (by rw [hnil.out]; exact H2.out.1.tells.without_ hL hb) B5 ho5
      exact ⟨vs', ms', q1, (Moved.of_only H2.out.2.2).trans q2, bX3.only ho5 (by simpa using hNw), trivial⟩
    rw [← e5]
    clear e5
    have y0 := HD.out.2.2.1.c0
    have y1 := HD.out.2.2.1.c1
    have c2 := HD.out.1.blk.c2
    go_wp2_with fail
    go_still_tail 6, (by kernel_rfl)
    change wpList _ _ _ _ _ w5.drew
    refine wpList_del rfl (.tmp 61) (.tmp 63) rfl mb K x.i rfl rfl (HD.out.1.map.keep (w' := w5.drew) rfl) hx.2 ?_
    intro w6 m6 g6
    have R6 := Lib.hid (And.intro m6 g6)
    clear m6 g6
    go_wp2_with fail
    go_end0
    obtain ⟨q1, q2⟩ := (HD.out.1.only0 (Only.refl [] w5).drew).remap R6.out.1 R6.out.2
    first | exact ⟨rfl, vs', ms', q1, (HD.out.2.1.still (Only.refl [] w5).drew).trans q2⟩ | exact ⟨rfl, vs', ⟨ms', q1⟩, (HD.out.2.1.still (Only.refl [] w5).drew).trans q2⟩
  · have hn1' : ((n : Int) == 1) = false := beq_one hn1
    have hne : Hid (((f (L * 64 + b)).eraseIdx q).isEmpty = (f (L * 64 + b)).isEmpty) := erase_more hql (by rw [hn]; exact hn1)
    obtain ⟨w5, e5⟩ : ∃ w5, w4 = w5 := ⟨_, rfl⟩
    obtain ⟨vs', ms', HD⟩ : ∃ vs' ms', Hid (WheelIs w5 wb mb vs' ms' wd base (setN f (L * 64 + b) ((f (L * 64 + b)).eraseIdx q)) K ∧ Moved w (wown wb mb vs) w5 (wown wb mb vs') ∧ Box w5 N x ∧ True) := by
      obtain ⟨r3, o3, l3, bX3⟩ := R3.out
      rw [← e5]
      obtain ⟨vs', ms', q1, q2⟩ := H2.out.1.done ((Only.refl [] w2).drew) hi r3 o3 l3 (H2.out.1.tells.keep hne.out) HB4.out ho4.out
      exact ⟨vs', ms', q1, (Moved.of_only H2.out.2.2).trans q2, bX3.only ho4.out (by simpa using hNw), trivial⟩
    rw [e5]
    clear e5
    have y0 := HD.out.2.2.1.c0
    have y1 := HD.out.2.2.1.c1
    have c2 := HD.out.1.blk.c2
    go_wp2_with fail
    go_still_tail 6, (by kernel_rfl)
    change wpList _ _ _ _ _ w5.drew
    refine wpList_del rfl (.tmp 61) (.tmp 63) rfl mb K x.i rfl rfl (HD.out.1.map.keep (w' := w5.drew) rfl) hx.2 ?_
    intro w6 m6 g6
    have R6 := Lib.hid (And.intro m6 g6)
    clear m6 g6
    go_wp2_with fail
    go_end0
    obtain ⟨q1, q2⟩ := (HD.out.1.only0 (Only.refl [] w5).drew).remap R6.out.1 R6.out.2
    first | exact ⟨rfl, vs', ms', q1, (HD.out.2.1.still (Only.refl [] w5).drew).trans q2⟩ | exact ⟨rfl, vs', ⟨ms', q1⟩, (HD.out.2.1.still (Only.refl [] w5).drew).trans q2⟩
end Go.Proofs.YtajhkdbldbifeaaGreatDoor

namespace Go.Proofs.YtajhkdbldbifeaaGreatDoor
set_option maxRecDepth 100000
open Go.RowKit Go.ChangeMaps Go.MapKept
set_option linter.unusedVariables false
set_option linter.unusedSimpArgs false

/-- The key of each ID. -/
def keysOf (l : List It) : Int → Option Int := fun id => (findId id l).map It.k
/-- The wheel at wb, of the blocks S, of that width and base, holds the items of l. -/
def WheelOf (w : World) (wb : Nat) (S : List Nat) (wd : Nat) (base : Int) (l : List It) : Prop :=
  ∃ vs ms mb, S = wown wb mb vs ∧ WheelIs w wb mb vs ms wd base (fun i => part (pl wd base) i l) (keysOf l) ∧ Lies wd base l ∧ (∀ x ∈ l, x.ok) ∧ l.length ≤ 400000 ∧ wd ≤ 40 ∧ base ≤ 18446744073709551615
section
variable {w w' : World} {wb wd : Nat} {S T : List Nat} {base : Int} {l : List It}
theorem WheelOf.only (h : WheelOf w wb S wd base l) (ho : Only T w w') (hT : ∀ b ∈ S, b ∉ T) : WheelOf w' wb S wd base l := by
  obtain ⟨vs, ms, mb, rfl, h1, h2⟩ := h
  exact ⟨vs, ms, mb, rfl, h1.only ho hT, h2⟩
theorem WheelOf.only0 (h : WheelOf w wb S wd base l) (ho : Only [] w w') : WheelOf w' wb S wd base l := h.only ho (by simp)
theorem WheelOf.lt (h : WheelOf w wb S wd base l) : ∀ b ∈ S, b < w.heap.size := by
  obtain ⟨vs, ms, mb, rfl, h1, h2⟩ := h
  exact h1.lt
theorem WheelOf.lies (h : WheelOf w wb S wd base l) : Lies wd base l := by
  obtain ⟨vs, ms, mb, rfl, h1, h2, h3, h4, h5, h6⟩ := h
  exact h2
theorem WheelOf.fit (h : WheelOf w wb S wd base l) : ∀ x ∈ l, x.ok := by
  obtain ⟨vs, ms, mb, rfl, h1, h2, h3, h4, h5, h6⟩ := h
  exact h3
theorem WheelOf.small (h : WheelOf w wb S wd base l) : l.length ≤ 400000 := by
  obtain ⟨vs, ms, mb, rfl, h1, h2, h3, h4, h5, h6⟩ := h
  exact h4
theorem WheelOf.wd40 (h : WheelOf w wb S wd base l) : wd ≤ 40 := by
  obtain ⟨vs, ms, mb, rfl, h1, h2, h3, h4, h5, h6⟩ := h
  exact h5
theorem WheelOf.bases (h : WheelOf w wb S wd base l) : 0 ≤ base ∧ base ≤ 18446744073709551615 := by
  obtain ⟨vs, ms, mb, rfl, h1, h2, h3, h4, h5, h6⟩ := h
  exact ⟨h2.b0, h6⟩
end
theorem keysOf_nil : keysOf [] = fun _ => none := rfl
theorem keysOf_some (l : List It) (id : Int) : (keysOf l id).isSome = hasId id l := by
  unfold keysOf
  rw [Option.isSome_map]
  unfold findId
  rw [Bool.eq_iff_iff, List.find?_isSome, hasId_iff]
  simp
theorem keysOf_ins {l : List It} (h : Ids l) (hr : Rises l) {y : It} (hy : ∀ x ∈ l, x.i ≠ y.i) : keysOf (ins y l) = upd (keysOf l) y.i y.k := by
  have hp := ins_perm y l
  have hi : Ids (ins y l) := by
    have : Ids (l ++ [y]) := by
      unfold Ids at h ⊢
      rw [List.map_append, List.nodup_append]
      refine ⟨h, by simp, fun a ha b hb e => ?_⟩
      simp at hb
      obtain ⟨x, hx, rfl⟩ := List.mem_map.1 ha
      exact hy x hx (e.trans hb)
    exact this.perm hp.symm
  funext id
  unfold keysOf upd
  have find : ∀ {m : List It}, Ids m → ∀ z, findId id m = some z ↔ z ∈ m ∧ z.i = id := fun {m} hm z => by
    unfold findId
    constructor
    · intro e
      exact ⟨List.mem_of_find?_eq_some e, by simpa using List.find?_some e⟩
    · rintro ⟨hz, e⟩
      cases hf : m.find? (fun x => x.i == id) with
      | none =>
        have := List.find?_eq_none.1 hf z hz
        simp [e] at this
      | some u =>
        have hu := List.mem_of_find?_eq_some hf
        have hui : u.i = id := by simpa using List.find?_some hf
        rw [hm.eq hu hz (hui.trans e.symm)]
  split
  · rename_i e
    have : findId id (ins y l) = some y := (find hi y).2 ⟨hp.symm.subset (by simp), e.symm⟩
    rw [this]; rfl
  · rename_i e
    show (findId id (ins y l)).map It.k = (findId id l).map It.k
    cases hf : findId id l with
    | none =>
      cases hg : findId id (ins y l) with
      | none => rfl
      | some u =>
        obtain ⟨h1, h2⟩ := (find hi u).1 hg
        have : u ∈ l ++ [y] := hp.subset h1
        rcases List.mem_append.1 this with h3 | h3
        · rw [(find h u).2 ⟨h3, h2⟩] at hf; cases hf
        · simp at h3; rw [h3] at h2; exact absurd h2.symm e
    | some u =>
      obtain ⟨h1, h2⟩ := (find h u).1 hf
      rw [(find hi u).2 ⟨hp.symm.subset (by simp [h1]), h2⟩]
theorem keysOf_drop {l : List It} (h : Ids l) (id : Int) : keysOf (dropId id l) = off (keysOf l) id := by
  funext q
  unfold keysOf off findId dropId
  by_cases hq : q = id
  · subst hq
    rw [if_pos rfl]
    have : (l.eraseP fun x => x.i == q).find? (fun x => x.i == q) = none := by
      rw [List.find?_eq_none]
      intro x hx hc
      simp at hc
      cases hf : hasId q l with
      | false =>
        have := (hasId_not q l).1 hf x (List.mem_of_mem_eraseP hx)
        exact this hc
      | true =>
        obtain ⟨z, hz, hzi⟩ := (hasId_iff q l).1 hf
        obtain ⟨a, l1, l2, h2, h3, h4, h5⟩ := List.exists_of_eraseP (p := fun x : It => x.i == q) hz (by simpa using hzi)
        have hx' : x ∈ l1 ++ l2 := by rw [← h5]; exact hx
        have hia : a.i = q := by simpa using h3
        rw [h4] at h
        unfold Ids at h
        have hx2 : x.i ∈ (l1 ++ l2).map It.i := List.mem_map.2 ⟨x, hx', rfl⟩
        have hn : (a :: (l1 ++ l2)).map It.i |>.Nodup := (List.perm_middle.map It.i).nodup_iff.1 h
        rw [List.map_cons, List.nodup_cons] at hn
        exact hn.1 (by rw [hia, ← hc]; exact hx2)
    rw [this]; rfl
  · rw [if_neg hq]
    congr 1
    have key : ∀ m : List It, (m.eraseP fun x => x.i == id).find? (fun x => x.i == q) = m.find? (fun x => x.i == q) := by
      intro m
      induction m with
      | nil => rfl
      | cons x m ih =>
        rw [List.eraseP_cons]
        by_cases hx : x.i = id
        · have h1 : (x.i == id) = true := by simpa using hx
          have h2 : (x.i == q) = false := by simp; omega
          rw [h1, List.find?_cons, h2]
          rfl
        · have h1 : (x.i == id) = false := by simpa using hx
          rw [h1]
          show (x :: m.eraseP _).find? _ = _
          rw [List.find?_cons, List.find?_cons, ih]
    exact key l

/-! ### the parts while the base turns -/
/-- Behind k of them. -/
def Turning (p : It → Nat) (f0 : Nat → List It) (xs : List It) (k : Nat) (f : Nat → List It) : Prop := ∀ i, Rises (f i) ∧ (f i).Perm (f0 i ++ part p i (xs.take k))
theorem Turning.step {p : It → Nat} {f0 f : Nat → List It} {xs : List It} {k : Nat} (h : Turning p f0 xs k f) (hk : k < xs.length) (hx : Ids xs) (hd : ∀ i, ∀ y ∈ f0 i, ∀ x ∈ xs, y.i ≠ x.i) :
    Turning p f0 xs (k + 1) (setN f (p (gOf xs k)) (ins (gOf xs k) (f (p (gOf xs k))))) := by
  have et : xs.take (k + 1) = xs.take k ++ [gOf xs k] := by rw [List.take_add_one, gOf_get hk, List.getElem?_eq_getElem hk]; rfl
  intro i
  have hi := h i
  by_cases e : i = p (gOf xs k)
  · rw [← e, setN_same, et]
    have hp : part p i (xs.take k ++ [gOf xs k]) = part p i (xs.take k) ++ [gOf xs k] := by unfold part; rw [List.filter_append]; simp [← e]
    refine ⟨ins_rises hi.1 fun y hy hc => ?_, ?_⟩
    · have := hi.2.subset hy
      rcases List.mem_append.1 this with h1 | h1
      · exact hd i y h1 (gOf xs k) (by rw [gOf_get hk]; exact List.getElem_mem _) hc
      · have h2 := (mem_part.1 h1).1
        obtain ⟨j, hj, rfl⟩ := List.getElem_of_mem h2
        rw [List.getElem_take] at hc
        have hjk : j < k := by simp at hj; omega
        have := hx.place (a := j) (b := k) (by omega) hk (by rw [gOf_get (by omega : j < xs.length)]; exact hc)
        omega
    · rw [hp, ← List.append_assoc]
      exact (ins_perm _ _).trans (hi.2.append_right _)
  · rw [setN_ne _ _ e, et]
    have hp : part p i (xs.take k ++ [gOf xs k]) = part p i (xs.take k) := by
      unfold part
      rw [List.filter_append]
      have : (p (gOf xs k) == i) = false := by simp; exact fun h => e h.symm
      simp [this]
    rw [hp]
    exact hi
/-- All of them laid anew: the parts by the new base. -/
theorem turned {wd : Nat} {base to : Int} {l : List It} (h : Lies wd base l) (h1 : base ≤ to) (h2 : ∀ x ∈ l, to ≤ x.k) {L : Nat} (hL : levM wd base to = (L : Int)) (hL1 : 1 ≤ L) (hL2 : L ≤ 2) {f : Nat → List It}
    (ht : Turning (pl wd to) (setN (fun i => part (pl wd base) i l) (pos wd base to) []) (part (pl wd base) (pos wd base to) l) (part (pl wd base) (pos wd base to) l).length f) : f = fun i => part (pl wd to) i l := by
  funext i
  obtain ⟨hr, hp⟩ := ht i
  rw [List.take_length] at hp
  refine Rises.eq_of_perm hr (part_rises h.rises i) (hp.trans ?_)
  have hq : ∀ x ∈ l, (pl wd base x ≠ pos wd base to → pl wd to x = pl wd base x ∧ pl wd to x ≠ pos wd base to) := fun x hx => ((pos_turn h.b0 h1 (h2 x hx) (h.near x hx)).2.2.2.2 L hL hL1 hL2).1
  generalize pos wd base to = r at *
  generalize pl wd base = p at *
  generalize pl wd to = q at *
  have e1 : setN (fun i => part p i l) r [] i = part q i (l.filter fun x => !(p x == r)) := by
    by_cases e : i = r
    · subst e
      rw [setN_same]
      symm
      rw [part_nil_iff]
      intro x hx
      obtain ⟨hx1, hx2⟩ := List.mem_filter.1 hx
      exact (hq x hx1 (by simpa using hx2)).2
    · rw [setN_ne _ _ e]
      unfold part
      rw [List.filter_filter]
      apply List.filter_congr
      intro x hx
      by_cases c : p x = r
      · have c1 : (p x == i) = false := by simp; omega
        simp [c, c1]
        omega
      · have := (hq x hx c).1
        rw [this]
        have c1 : (p x == r) = false := by simpa using c
        simp [c1]
  rw [e1]
  unfold part
  rw [List.filter_filter, List.filter_filter]
  have : ∀ m : List It, (m.filter (fun a => (q a == i) && !(p a == r)) ++ m.filter (fun a => (q a == i) && (p a == r))).Perm (m.filter fun x => q x == i) := by
    intro m
    induction m with
    | nil => exact List.Perm.refl _
    | cons x m ih =>
      simp only [List.filter_cons]
      by_cases c1 : q x = i
      · by_cases c2 : p x = r
        · simp only [c1, c2, beq_self_eq_true, Bool.not_true, Bool.and_false, Bool.true_and, if_true]
          simp only [Bool.false_eq_true, if_false]
          exact (List.perm_middle).trans (ih.cons x)
        · have c3 : (p x == r) = false := by simpa using c2
          simp only [c1, c3, beq_self_eq_true, Bool.not_false, Bool.and_true, Bool.and_false, if_true]
          simp only [Bool.false_eq_true, if_false]
          exact ih.cons x
      · have c3 : (q x == i) = false := by simpa using c1
        simp only [c3, Bool.false_and]
        simp only [Bool.false_eq_true, if_false]
        exact ih
  exact this l
end Go.Proofs.YtajhkdbldbifeaaGreatDoor
