/-
  Contracts of New, ours and the document's.
-/
import Derived.Test.YtjblafpbffkapaaTourR
import Derived.Test.YtjblafpbffkapaaTourC
namespace Go.Proofs.Ytjblafpbffkapaa
set_option maxRecDepth 100000
open Go.RowKit Go.ChangeMaps Go.MapKept
set_option linter.unusedVariables false
set_option linter.unusedSimpArgs false

/-- A number of leaves, held. -/
def clampM (a : Int) : Nat := (min (max a 1) 16).toNat
theorem clampM_le (a : Int) : 1 ≤ clampM a ∧ clampM a ≤ 16 := by unfold clampM; omega
theorem clampM_eq (a : Int) : min (max a 1) 16 = (clampM a : Int) := by unfold clampM; omega

theorem made_at (z : Array Value) (m j : Nat) (hj : j < m) : (madeCells z m).toList[j]? = some (z[j % z.size]!) := by
  simp [madeCells, hj]
theorem made_one (z : Value) (m : Nat) : madeCells #[z] m = (List.replicate m z).toArray := by
  apply Array.ext'
  apply List.ext_getElem?
  intro j
  by_cases hj : j < m
  · rw [made_at _ _ _ hj]
    simp [hj, Nat.mod_one]
  · simp [madeCells, hj]
theorem made_items (n : Nat) : madeCells #[.int .u64 0, .int .i64 0] (n * 2) = (flat (List.replicate n ⟨0, 0⟩)).toArray := by
  apply Array.ext'
  apply List.ext_getElem?
  intro j
  by_cases hj : j < n * 2
  · rw [made_at _ _ _ hj]
    have hk : j / 2 < (List.replicate n (⟨0, 0⟩ : It)).length := by simp; omega
    have hf := flat_key (List.replicate n ⟨0, 0⟩) (j / 2) hk
    have hg : gOf (List.replicate n ⟨0, 0⟩) (j / 2) = ⟨0, 0⟩ := by rw [gOf_get hk]; simp
    rw [hg] at hf
    rcases Nat.mod_two_eq_zero_or_one j with h | h
    · have e : j / 2 * 2 = j := by omega
      rw [e] at hf
      simp [h, hf.1]
    · have e : j / 2 * 2 + 1 = j := by omega
      rw [e] at hf
      simp [h, hf.2]
  · have h1 : (madeCells #[.int .u64 0, .int .i64 0] (n * 2)).toList[j]? = none := by simp [madeCells]; omega
    have h2 : (flat (List.replicate n (⟨0, 0⟩ : It))).toArray.toList[j]? = none := by simp; omega
    rw [h1, h2]

theorem info_b : (Try.prog.info? 4).map (fun i => (i.zero, i.size, i.bytes)) = some (some (.bool false), 1, 1) := by kernel_rfl
theorem info_i : (Try.prog.info? 3).map (fun i => (i.zero, i.size, i.bytes)) = some (some (.int .i64 0), 1, 8) := by kernel_rfl
theorem make_ints (m : Nat) (h : m ≤ 1000) (w : World) : (Instr.makeSlice 54 (.int .i64 (m : Int)) (.int .i64 (m : Int))).run Try.prog w = .ok (.slice (some ⟨w.heap.size, 0, none⟩) m m) (w.alloc (.cells (ints (List.replicate m 0)).toArray 3)) := by
  have := run_make_row' (P := Try.prog) 54 3 (.int .i64 0) 8 Try.underlying54 info_i rfl .i64 .i64 m (by omega) (by omega) w
  rw [made_one] at this
  rw [this]
  simp [ints]
theorem make_bools (m : Nat) (h : m ≤ 1000) (w : World) : (Instr.makeSlice 29 (.int .i64 (m : Int)) (.int .i64 (m : Int))).run Try.prog w = .ok (.slice (some ⟨w.heap.size, 0, none⟩) m m) (w.alloc (.cells (bools (List.replicate m false)).toArray 4)) := by
  have := run_make_row' (P := Try.prog) 29 4 (.bool false) 1 Try.underlying29 info_b rfl .i64 .i64 m (by omega) (by omega) w
  rw [made_one] at this
  rw [this]
  simp [bools]
theorem make_items (m : Nat) (h : m ≤ 1000) (w : World) : (Instr.makeSlice 30 (.int .i64 (m : Int)) (.int .i64 (m : Int))).run Try.prog w = .ok (.slice (some ⟨w.heap.size, 0, none⟩) m m) (w.alloc (.cells (flat (List.replicate m ⟨0, 0⟩)).toArray 43)) := by
  obtain ⟨i, hi, hz0, hz1, hz2⟩ := info_parts item_info
  have := run_makeSlice (P := Try.prog) w 30 43 i (.agg #[.int .u64 0, .int .i64 0]) Try.underlying30 hi hz0 .i64 .i64 (m : Int) (m : Int) (by omega) (Int.le_refl _) (by rw [hz1]; omega) (by rw [hz2]; omega) (by omega)
  rw [this, Int.toNat_natCast, hz1]
  have e : Value.cells (.agg #[.int .u64 0, .int .i64 0]) = #[.int .u64 0, .int .i64 0] := rfl
  rw [e, made_items]

theorem new3 (w : World) (e1 e2 e3 : TypeId) (v1 v2 v3 : List Value) : Arr (((w.alloc (.cells v1.toArray e1)).alloc (.cells v2.toArray e2)).alloc (.cells v3.toArray e3)).drew w.heap.size e1 v1 ∧ Arr (((w.alloc (.cells v1.toArray e1)).alloc (.cells v2.toArray e2)).alloc (.cells v3.toArray e3)).drew (w.heap.size + 1) e2 v2 ∧
    Arr (((w.alloc (.cells v1.toArray e1)).alloc (.cells v2.toArray e2)).alloc (.cells v3.toArray e3)).drew (w.heap.size + 1 + 1) e3 v3 ∧ Only [] w (((w.alloc (.cells v1.toArray e1)).alloc (.cells v2.toArray e2)).alloc (.cells v3.toArray e3)).drew := by
  have s1 : (w.alloc (.cells v1.toArray e1)).heap.size = w.heap.size + 1 := by simp
  have s2 : ((w.alloc (.cells v1.toArray e1)).alloc (.cells v2.toArray e2)).heap.size = w.heap.size + 1 + 1 := by simp
  have b1 := Arr.new w e1 v1
  have b2 := Arr.new (w.alloc (.cells v1.toArray e1)) e2 v2
  have b3 := Arr.new ((w.alloc (.cells v1.toArray e1)).alloc (.cells v2.toArray e2)) e3 v3
  rw [s1] at b2
  rw [s2] at b3
  refine ⟨b1.only0 ((((Only.refl [] _).alloc _).alloc _).drew), b2.only0 (((Only.refl [] _).alloc _).drew), b3.only0 ((Only.refl [] _).drew), ((((Only.refl [] w).alloc _).alloc _).alloc _).drew⟩

theorem make_bools' (m : Nat) (z : Int) (hz : z = (m : Int)) (h : m ≤ 1000) (w : World) : (Instr.makeSlice 29 (.int .i64 z) (.int .i64 z)).run Try.prog w = .ok (.slice (some ⟨w.heap.size, 0, none⟩) m m) (w.alloc (.cells (bools (List.replicate m false)).toArray 4)) := by
  rw [hz]; exact make_bools m h w
theorem make_items' (m : Nat) (z : Int) (hz : z = (m : Int)) (h : m ≤ 1000) (w : World) : (Instr.makeSlice 30 (.int .i64 z) (.int .i64 z)).run Try.prog w = .ok (.slice (some ⟨w.heap.size, 0, none⟩) m m) (w.alloc (.cells (flat (List.replicate m ⟨0, 0⟩)).toArray 43)) := by
  rw [hz]; exact make_items m h w

set_option maxRecDepth 100000 in
set_option maxHeartbeats 1000000 in
theorem rNew (w : World) (a : Int) : Calls Try.prog 22 #[.int .i64 a] w fun e w' => ∃ xb, e = .returned (.pointer (some ⟨xb, 0, none⟩)) ∧ ∃ hb yb, RefTour w' xb hb yb (clampM a) (fun _ => false) (fun _ => ⟨0, 0⟩) ∧ (∀ b ∈ [xb, hb, yb], w.heap.size ≤ b) ∧ Only [] w w' := by
  have hc := clampM_eq a
  obtain ⟨h1, h16⟩ := clampM_le a
  generalize clampM a = n at *
  have fin : Hid (∀ (W : World) (xb hb yb : Nat), Arr W xb 32 [.slice (some ⟨hb, 0, none⟩) n n, .slice (some ⟨yb, 0, none⟩) n n] → Arr W hb 4 (bools (List.replicate n false)) → Arr W yb 43 (flat (List.replicate n ⟨0, 0⟩)) → RefTour W xb hb yb n (fun _ => false) (fun _ => ⟨0, 0⟩)) := fun W xb hb yb a1 a2 a3 =>
    ⟨_, _, ⟨a1, a2, a3, by simp, by simp, h1, h16⟩, fun i hi => by simp [bOf, hi], fun i hi h => by cases h⟩
  have hcase : (a < 1 ∧ (1 : Int) = n) ∨ (1 ≤ a ∧ a ≤ 16 ∧ a = n) ∨ (1 ≤ a ∧ 16 < a ∧ (16 : Int) = n) := by omega
  rcases hcase with ⟨g1, hz⟩ | ⟨g1, g2, hz⟩ | ⟨g1, g2, hz⟩
  all_goals
    have mk1 := make_bools' n _ hz (by omega)
    have mk2 := make_items' n _ hz (by omega)
    clear hc hz
    go_enter Try.func22, Try.ntmps22
    go_wp2_with fail
    go_region
    all_goals
      go_wp2_with fail
      go_ret
      first
        | (obtain ⟨a1, a2, a3, o⟩ := new3 w 4 43 32 (bools (List.replicate n false)) (flat (List.replicate n ⟨0, 0⟩)) [.slice (some ⟨w.heap.size, 0, none⟩) n n, .slice (some ⟨w.heap.size + 1, 0, none⟩) n n]; exact ⟨_, rfl, _, _, fin.out _ _ _ _ a3 a1 a2, by simp; omega, o⟩)
        | (obtain ⟨a1, a2, a3, o⟩ := new3 w 43 4 32 (flat (List.replicate n ⟨0, 0⟩)) (bools (List.replicate n false)) [.slice (some ⟨w.heap.size + 1, 0, none⟩) n n, .slice (some ⟨w.heap.size, 0, none⟩) n n]; exact ⟨_, rfl, _, _, fin.out _ _ _ _ a3 a2 a1, by simp; omega, o⟩)

theorem make_ints' (m : Nat) (z : Int) (hz : z = (m : Int)) (h : m ≤ 1000) (w : World) : (Instr.makeSlice 54 (.int .i64 z) (.int .i64 z)).run Try.prog w = .ok (.slice (some ⟨w.heap.size, 0, none⟩) m m) (w.alloc (.cells (ints (List.replicate m 0)).toArray 3)) := by
  rw [hz]; exact make_ints m h w
theorem tSizeFor' (n : Nat) (z : Int) (hz : z = (n : Int)) (hn : n ≤ 16) (w : World) : Calls Try.prog 27 #[.int .i64 z] w fun e w' => e = .returned (.int .i64 ((sz n : Nat) : Int)) ∧ w' = w := by
  rw [hz]; exact tSizeFor n hn w

set_option maxRecDepth 100000 in
set_option maxHeartbeats 4000000 in
theorem tNew (w : World) (a : Int) : Calls Try.prog 20 #[.int .i64 a] w fun e w' => ∃ tb, e = .returned (.pointer (some ⟨tb, 0, none⟩)) ∧ ∃ ib nb, TourOf w' tb ib nb (clampM a) (fun _ => false) (fun _ => ⟨0, 0⟩) ∧ (∀ b ∈ [tb, ib, nb], w.heap.size ≤ b) ∧ Only [] w w' := by
  have hc := clampM_eq a
  obtain ⟨h1, h16⟩ := clampM_le a
  generalize clampM a = n at *
  have hs16 := (sz_Sz n).le
  obtain ⟨s, es⟩ : ∃ s, sz n = s := ⟨_, rfl⟩
  obtain ⟨m, em⟩ : ∃ m, m = 2 * s := ⟨_, rfl⟩
  have fin : Hid (∀ (W : World) (tb ib nb : Nat), Arr W tb 56 [.slice (some ⟨ib, 0, none⟩) n n, .slice (some ⟨nb, 0, none⟩) m m] → Arr W ib 43 (flat (List.replicate n ⟨0, 0⟩)) → Arr W nb 3 (ints (List.replicate m 0)) → TourIs W tb ib nb n (List.replicate n ⟨0, 0⟩) (List.replicate m 0)) := fun W tb ib nb a1 a2 a3 =>
    ⟨by rw [es, ← em]; exact a1, a2, a3, by simp, by simp; omega, h1, h16⟩
  have done : Hid (∀ (W : World) (tb ib nb : Nat) (ns : List Int), TourIs W tb ib nb n (List.replicate n ⟨0, 0⟩) ns → (∀ j, j < m → ndOf ns j = -1) → TourOf W tb ib nb n (fun _ => false) (fun _ => ⟨0, 0⟩)) := fun W tb ib nb ns h hj =>
    ⟨_, ns, h, Tree.empty (fun j => by
      by_cases hjm : j < m
      · exact hj j hjm
      · unfold ndOf; rw [List.getD_eq_getElem?_getD, List.getElem?_eq_none (by rw [h.nlen]; omega)]; rfl), fun i hi hb => by cases hb⟩
  have hmm : IntKind.i64.wrap (2 * (s : Int)) = (m : Int) := by rw [IntWalk.i64_in _ (by omega)]; omega
  have hsm := tSizeFor' n
  rw [es] at hsm hs16
  have hm32 : m ≤ 32 := by omega
  have ES := Lib.hid es
  have EM := Lib.hid em
  clear es em
  have mk3 := make_ints m (by omega)
  have hcase : (a < 1 ∧ (1 : Int) = n) ∨ (1 ≤ a ∧ a ≤ 16 ∧ a = n) ∨ (1 ≤ a ∧ 16 < a ∧ (16 : Int) = n) := by omega
  rcases hcase with ⟨g1, hz⟩ | ⟨g1, g2, hz⟩ | ⟨g1, g2, hz⟩
  all_goals
    have mk2 := make_items' n _ hz (by omega)
    have sf := Lib.hid (hsm _ hz h16)
    clear hc hz hsm
    go_enter Try.func20, Try.ntmps20
    go_wp2_with fail
    go_region_with (go_at_call 27; refine (sf.out _).mono ?_; rintro e w' ⟨rfl, rfl⟩)
    all_goals
      go_wp2_with fail
      go_loopg [21] (m + 1) (fun gk si wr => ∃ (p ib nb : Nat) (ns : List Int), si = .int .i64 (p : Int) ∧ p ≤ m ∧ m + 1 ≤ gk + p ∧ Hid (TourIs wr (w.heap.size + 1 + 1) ib nb n (List.replicate n ⟨0, 0⟩) ns ∧ (∀ j, j < p → ndOf ns j = -1) ∧ (∀ b ∈ [w.heap.size + 1 + 1, ib, nb], w.heap.size ≤ b) ∧ Only [] w wr))
      case atStart =>
        first
          | (obtain ⟨a1, a2, a3, o⟩ := new3 w 43 3 56 (flat (List.replicate n ⟨0, 0⟩)) (ints (List.replicate m 0)) [.slice (some ⟨w.heap.size, 0, none⟩) n n, .slice (some ⟨w.heap.size + 1, 0, none⟩) m m]; exact ⟨0, _, _, _, rfl, by omega, by omega, fin.out _ _ _ _ a3 a1 a2, fun j hj => absurd hj (by omega), by simp; omega, o⟩)
          | (obtain ⟨a1, a2, a3, o⟩ := new3 w 3 43 56 (ints (List.replicate m 0)) (flat (List.replicate n ⟨0, 0⟩)) [.slice (some ⟨w.heap.size + 1, 0, none⟩) n n, .slice (some ⟨w.heap.size, 0, none⟩) m m]; exact ⟨0, _, _, _, rfl, by omega, by omega, fin.out _ _ _ _ a3 a2 a1, fun j hj => absurd hj (by omega), by simp; omega, o⟩)
      case round =>
        obtain ⟨p, ib, nb, ns, rfl, hp, hg, HT⟩ := hrel
        clear mk2 mk3 sf
        by_cases hpm : p < m
        · have hpm' : (p : Int) < (m : Int) := by omega
          have hT := HT.out.1
          have c1 := hT.c1
          rw [ES.out, ← EM.out] at c1
          have fr := hT.nodes.fr p
          have cp := hT.nd (k := p) (by rw [ES.out, ← EM.out]; exact hpm)
          clear hT
          go_wp2_with fail
          go_roundg (m + 1 - (p + 1))
          case measure => omega
          case rel =>
            have hT := HT.out
            refine ⟨p + 1, ib, nb, ns.set p (-1), by simp, by omega, by omega, hT.1.setNode p (-1), fun j hj => ?_, hT.2.2.1, hT.2.2.2.setCell (.inr (hT.2.2.1 nb (by simp))) _⟩
            rw [ndOf_set ns p (-1) (by rw [hT.1.nlen, ES.out, ← EM.out]; exact hpm)]
            by_cases e : j = p
            · rw [e, fup_same]
            · rw [fup_other _ _ e]; exact hT.2.1 j (by omega)
        · have hpm' : decide ((p : Int) < (m : Int)) = false := decide_eq_false (by omega)
          have hpm2 : ¬ ((p : Int) < (m : Int)) := by omega
          have hpe : m ≤ p := by omega
          clear hpm
          go_wp2_with fail
          go_ret
          have hT := HT.out
          exact ⟨_, rfl, ib, nb, done.out _ _ _ _ ns hT.1 (fun j hj => hT.2.1 j (by omega)), by simpa using hT.2.2.1, hT.2.2.2⟩
end Go.Proofs.Ytjblafpbffkapaa
