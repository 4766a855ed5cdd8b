/-
  Ours: New; taken, refusal.
-/
import Derived.Test.YtklolepmmabijaaMdA
import Derived.Test.YtklolepmmabijaaGmL
import Derived.Carry
namespace Go.Proofs.Ytklolepmmabijaa
set_option maxRecDepth 100000
open Go.RowKit
set_option linter.unusedVariables false
set_option linter.unusedSimpArgs false
set_option maxRecDepth 100000

/-- A new one: its parts, wherever they lie. -/
theorem md_new {w w1 : World} {c : Cf} {s m b : Nat} (ho : Only [] w w1) (hs : SqOf w1 s Sq.new [s]) (hm : MapAt w1 m (fun _ => none)) (hb : MBlk w1 b c s m 0) (h1 : w.heap.size ≤ s) (h2 : w.heap.size ≤ m) (h3 : w.heap.size ≤ b) (e1 : b ≠ s) (e2 : m ≠ s) (e3 : b ≠ m) :
    ∃ O, MdOf b ⟨c, Sq.new, 0⟩ w1 O ∧ Only [] w w1 ∧ ∀ k ∈ O, w.heap.size ≤ k := by
  refine ⟨ownM b m [s], ⟨s, m, [s], ⟨hb, hs, ?_, by simpa using e1, by simpa using e2, e3⟩, rfl⟩, ho, fun k hk => ?_⟩
  · have : lensK Sq.new.l = fun _ => none := by funext q; rfl
    show MapAt w1 m (lensK Sq.new.l)
    rw [this]
    exact hm
  · simp [ownM] at hk
    rcases hk with rfl | rfl | rfl <;> assumption
set_option maxHeartbeats 4000000 in
theorem mNew (c : Cf) (h : c.right) (w : World) : Calls Try.prog 6 #[.agg #[.int .i64 c.sh, .int .i64 c.sl, .int .i64 c.wk, .int .i64 c.wd, .int .u64 c.un]] w fun e w' =>
    ∃ b, e = .returned (.tuple #[.pointer (some ⟨b, 0, none⟩), .int .i64 0]) ∧ ∃ O, MdOf b ⟨c, Sq.new, 0⟩ w' O ∧ Only [] w w' ∧ ∀ k ∈ O, w.heap.size ≤ k := by
  have oA : Only [] w (w.alloc (.cells #[.int .i64 c.sh, .int .i64 c.sl, .int .i64 c.wk, .int .i64 c.wd, .int .u64 c.un] 24)) := (Only.refl [] w).alloc _
  have bA : (w.alloc (.cells #[.int .i64 c.sh, .int .i64 c.sl, .int .i64 c.wk, .int .i64 c.wd, .int .u64 c.un] 24)).heap[w.heap.size]? = some (.cells #[.int .i64 c.sh, .int .i64 c.sl, .int .i64 c.wk, .int .i64 c.wd, .int .u64 c.un] 24 (0, 0)) := heap_alloc_new w _
  have k1 := mRight c (w.alloc (.cells #[.int .i64 c.sh, .int .i64 c.sl, .int .i64 c.wk, .int .i64 c.wd, .int .u64 c.un] 24))
  rw [show (decide (1 ≤ c.sh ∧ c.sh ≤ 4) && (decide (1 ≤ c.sl ∧ c.sl ≤ 4) && (decide (1 ≤ c.wk ∧ c.wk ≤ 6) && (decide (0 ≤ c.wd ∧ c.wd ≤ 40) && decide (1 ≤ c.un ∧ c.un ≤ 4611686018427387904))))) = true from (rightB_iff c).2 h] at k1
  clear h
  go_enter Try.func6, Try.ntmps6
  go_wp2_with fail
  refine k1.mono ?_
  rintro e w1 ⟨rfl, o1⟩
  have b1 := o1.get bA (by simp)
  have c0 : w1.cell? ⟨w.heap.size, 0, none⟩ = some (.int .i64 c.sh) := by rw [cell_of_row w1 _ 0 _ _ _ b1]; rfl
  have c1 : w1.cell? ⟨w.heap.size, 1, none⟩ = some (.int .i64 c.sl) := by rw [cell_of_row w1 _ 1 _ _ _ b1]; rfl
  have c4 : w1.cell? ⟨w.heap.size, 4, none⟩ = some (.int .u64 c.un) := by rw [cell_of_row w1 _ 4 _ _ _ b1]; rfl
  have hlt : w.heap.size < w1.heap.size := (Array.getElem?_eq_some_iff.1 b1).1
  have HO := Lib.hid (And.intro (oA.trans' o1) b1)
  obtain ⟨N, eN⟩ : ∃ N, w.heap.size = N := ⟨_, rfl⟩
  rw [eN] at c0 c1 c4 hlt ⊢
  have HN := Lib.hid eN
  clear oA bA k1 o1 b1 eN
  go_wp2_with fail
  have st : Hid (Only [] w1 w1.drew) := (Only.refl [] w1).drew
  have hmm := @run_makeMap Try.prog
  have bl : Hid (∀ W, Only [] w1 W → W.cell? ⟨N, 0, none⟩ = some (.int .i64 c.sh) ∧ W.cell? ⟨N, 1, none⟩ = some (.int .i64 c.sl) ∧ W.cell? ⟨N, 4, none⟩ = some (.int .u64 c.un)) := fun W hW => ⟨(hW.cell hlt (by simp)).trans c0, (hW.cell hlt (by simp)).trans c1, (hW.cell hlt (by simp)).trans c4⟩
  go_region_held3 (fun w' => w'.cell? ⟨N, 0, none⟩ = some (.int .i64 c.sh) ∧ w'.cell? ⟨N, 1, none⟩ = some (.int .i64 c.sl) ∧ w'.cell? ⟨N, 4, none⟩ = some (.int .u64 c.un))
    (first | (exact bl.out _ st.out) | go_keep)
    (first
      | (go_at_call 18
         refine (sNew _).mono ?_
         rintro e u ⟨rfl, f2, o2⟩
         first
           | have st := Lib.hid (st.out.trans' o2)
           | have st := Lib.hid ((st.out.alloc _).trans' o2)
         have R2 := Lib.hid (And.intro f2 o2)
         clear f2 o2))
  · go_wp2_with fail
    go_ret2
    have o1 := HO.out.1
    have ou : Only [] w u := o1.trans' st.out
    have s1 := o1.size
    have s2 := R2.out.2.size
    have s3 : w1.drew.heap.size = w1.heap.size := rfl
    have oB : Only [] u ((u.alloc (.map #[] 0)).alloc (.cells #[.int .i64 c.sh, .int .i64 c.sl, .int .u64 c.un, .pointer (some ⟨w1.drew.heap.size, 0, none⟩), .map (some u.heap.size), .int .i64 0] 56)) := ((Only.refl [] u).alloc _).alloc _
    have hs := R2.out.1.lt w1.drew.heap.size (by simp)
    refine ⟨u.heap.size + 1, rfl, md_new (s := w1.drew.heap.size) (m := u.heap.size) (ou.trans' oB) (R2.out.1.only0 oB) ((MapAt.made u).keep (Below.heap_alloc _ _ _ (by simp))) ?_ ?_ ?_ ?_ ?_ ?_ ?_⟩
    · have := heap_alloc_new (u.alloc (.map #[] 0)) (.cells #[.int .i64 c.sh, .int .i64 c.sl, .int .u64 c.un, .pointer (some ⟨w1.drew.heap.size, 0, none⟩), .map (some u.heap.size), .int .i64 0] 56)
      simpa [MBlk] using this
    all_goals omega
  · go_wp2_with fail
    go_ret2
    have o1 := HO.out.1
    have ou : Only [] w u := o1.trans' st.out
    have s1 := o1.size
    have s2 := R2.out.2.size
    have s3 : (w1.alloc (.map #[] 0)).drew.heap.size = w1.heap.size + 1 := by simp [World.drew]
    have hs := R2.out.1
    rw [s3] at hs s2
    have oB : Only [] u (u.alloc (.cells #[.int .i64 c.sh, .int .i64 c.sl, .int .u64 c.un, .pointer (some ⟨w1.heap.size + 1, 0, none⟩), .map (some w1.heap.size), .int .i64 0] 56)) := (Only.refl [] u).alloc _
    have hm : MapAt u w1.heap.size (fun _ => none) := (MapAt.made w1).only (w := (w1.alloc (.map #[] 0))) (S := []) ((Only.refl [] _).drew.trans' R2.out.2) (by simp)
    have hs2 := hs.lt (w1.heap.size + 1) (by simp)
    refine ⟨u.heap.size, rfl, md_new (s := w1.heap.size + 1) (m := w1.heap.size) (ou.trans' oB) (hs.only0 oB) (hm.only oB (by simp)) (heap_alloc_new u _) ?_ ?_ ?_ ?_ ?_ ?_⟩
    all_goals omega

/-! ### how many fall to a shard -/
section
variable (w : World) (b : Nat) (M : Md) (O : List Nat) (h : MdOf b M w O)
include h
set_option maxHeartbeats 4000000 in
theorem mTaken (r : Int) (hs1 : 1 ≤ M.c.sh) (hl : M.S.l.length ≤ 1000) : Calls Try.prog 57 #[.pointer (some ⟨b, 0, none⟩), .int .i64 r] w fun e w' => e = .returned (.int .i64 (takenI (idsOf M.S.l) M.c.sh r : Int)) ∧ Only [] w w' := by
  have hk := mFlows w b M O h
  have hlen : (idsK M.S.l).length ≤ 1000 := by unfold idsK; rw [List.length_map]; exact hl
  have eI : idsOf M.S.l = idsK M.S.l := rfl
  have hc : Hid (∀ W, Only [] w W → W.cell? ⟨b, 0, none⟩ = some (.int .i64 M.c.sh)) := fun W hW => by
    obtain ⟨s, m, Q, h, rfl⟩ := h
    exact (h.only0 hW).blk.c.1
  rw [eI]
  generalize idsK M.S.l = L at *
  generalize M.c.sh = sh at *
  have hne : ¬ (sh = 0) := by omega
  have hne' : (sh == 0) = false := by simpa using hne
  obtain ⟨n, en⟩ : ∃ n, L.length = n := ⟨_, rfl⟩
  clear eI hl h
  go_enter Try.func57, Try.ntmps57
  go_wp2_with fail
  refine hk.mono ?_
  rintro e w1 ⟨A, cap, rfl, r1, _, o1⟩
  rw [en] at r1 hlen ⊢
  have row := Lib.hid (irow_at r1)
  have c0 := hc.out w1 o1
  have HO := Lib.hid o1
  have HE := Lib.hid en
  clear hk r1 o1 hc en
  go_wp2_with fail
  go_loopg [5, 11] (n + 1) (fun gk sn si wr => ∃ p : Nat, sn = .int .i64 (takenI (L.take p) sh r : Int) ∧ si = .int .i64 (p : Int) ∧ p ≤ n ∧ n + 1 ≤ gk + p ∧ wr = w1)
  case atStart => exact ⟨0, by simp [takenI], rfl, by omega, by omega, rfl⟩
  case round =>
    obtain ⟨p, rfl, rfl, hp, hg, rfl⟩ := hrel
    have hT : Hid (takenI (L.take p) sh r ≤ p) := by
      have h1 := takenI_le (L.take p) sh r
      rw [List.length_take] at h1
      show _ ≤ _
      omega
    by_cases hpl : p < n
    · have hpl' : (p : Int) < (n : Int) := by omega
      obtain ⟨x, hx⟩ : ∃ x, L[p]? = some x := ⟨_, List.getElem?_eq_getElem (by rw [HE.out]; exact hpl)⟩
      obtain ⟨g, rfl, d0⟩ := row.out wr (Only.refl [] wr) p x hx
      have hS := Lib.hid (takenI_step hx sh r)
      clear hx
      obtain ⟨T, eT⟩ : ∃ T, takenI (L.take p) sh r = T := ⟨_, rfl⟩
      rw [eT] at hS hT ⊢
      have hT' : T ≤ p := hT.out
      clear eT
      by_cases hxr : (x.tmod sh == r) = true
      · have hS1 : Hid (takenI (L.take (p + 1)) sh r = T + 1) := by have := hS.out; rw [if_pos hxr] at this; exact this
        go_wp2_with fail
        go_roundg (n + 1 - (p + 1))
        case measure => omega
        case rel => exact ⟨p + 1, by rw [hS1.out]; simp, by simp, by omega, by omega, rfl⟩
      · have hS1 : Hid (takenI (L.take (p + 1)) sh r = T) := by have := hS.out; rw [if_neg hxr] at this; exact this
        have hxr' : (x.tmod sh == r) = false := by simpa using hxr
        go_wp2_with fail
        go_roundg (n + 1 - (p + 1))
        case measure => omega
        case rel => exact ⟨p + 1, by rw [hS1.out], by simp, by omega, by omega, rfl⟩
    · have hpl' : ¬ ((p : Int) < (n : Int)) := by omega
      obtain rfl : p = n := by omega
      have eL : L.take p = L := by rw [List.take_of_length_le (by rw [HE.out]; exact Nat.le_refl _)]
      rw [eL]
      go_wp2_with fail
      go_ret
      exact ⟨rfl, HO.out⟩
end
end Go.Proofs.Ytklolepmmabijaa
