/-
  The bitmaps within a walk.
-/
import Derived.Test.YtlokeennplhflaaDoorWheelT2
import Derived.Test.YtlokeennplhflaaDoorWheelMp
namespace Go.Proofs.YtlokeennplhflaaDoor
open Go.RowKit Go.ChangeMaps Go.MapKept
set_option linter.unusedVariables false
set_option linter.unusedSimpArgs false

theorem map_same {wd : Nat} {base : Int} {l : List It} {L m m' : Nat} (h : mapM wd base l L m) (h' : mapM wd base l L m') : m = m' := by
  apply Nat.eq_of_testBit_eq
  intro i
  rcases Nat.lt_or_ge i 64 with hi | hi
  · rw [h.2 i hi, h'.2 i hi]
  · rw [upper_bit m i h.1 hi, upper_bit m' i h'.1 hi]
/-- Both Maps, at any level, within a walk. -/
theorem Sound.maps {w wr : World} {wb xb wd : Nat} {S T : List Nat} {base : Int} {l : List It} (h : Sound w wr wb S xb T wd base l) (level : Int) : ∃ m : Nat, (∀ w0, Only [] wr w0 → Calls Tryd.prog 20 #[.pointer (some ⟨wb, 0, none⟩), .int .i64 level] w0 fun e w' => e = .returned (.int .u64 (m : Int)) ∧ w' = w0) ∧
    ∀ w0, Only [] wr w0 → Calls Tryd.prog 27 #[.pointer (some ⟨xb, 0, none⟩), .int .i64 level] w0 fun e w' => e = .returned (.int .u64 (m : Int)) ∧ Only [] w0 w' := by
  have hO := h.pair.ours
  have hlen : l.length ≤ 1000000 := Nat.le_trans hO.small (by omega)
  have hr : ∀ w0, Only [] wr w0 → _ := fun w0 o0 => rMapAny w0 xb T wd base l (h.pair.ref.only0 o0) hO.wd40 hO.bases.1 hO.bases.2 hO.fit hlen level
  by_cases hl : 0 ≤ level ∧ level < 3
  · obtain ⟨L, rfl⟩ := Int.eq_ofNat_of_zero_le hl.1
    have hL : L < 3 := by omega
    obtain ⟨m, hm, hc⟩ := wMapOf wr wb S wd base l hO L hL
    have e := map_same hm (hits_map hL hO.lies)
    rw [← e] at hr
    exact ⟨m, hc, hr⟩
  · have e : mapN (hits wd base level l) 64 = 0 := mapN_none (hits_out hl) 64
    rw [e] at hr
    exact ⟨0, fun w0 _ => wMapOut w0 wb level (by omega), hr⟩
end Go.Proofs.YtlokeennplhflaaDoor
