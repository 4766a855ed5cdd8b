/-
  Contracts of tag.Ahead and of the document's own Ahead: by key, and for equal keys by ID. No condition but that the arguments are items.
-/
import Derived.Test.YtamokhoiglklkaaTagC
namespace Go.Proofs.Ytamokhoiglklkaa
open Go.ChangeShapes Go.WideShapes Go.ChangeAt Go.RowKit
set_option linter.unusedVariables false

/-- Behind a call: at most new blocks, and each cell that was there reads as it did. -/
def Keeps (w w' : World) : Prop := Grown w w' ∧ ∀ a v, w.cell? a = some v → w'.cell? a = some v
theorem Keeps.of {w w' : World} (h : Grown w w') (hb : Below w.heap.size w w') : Keeps w w' :=
  ⟨h, fun a v hv => by rw [hb.cell (World.block_lt_of_cell? w a hv)]; exact hv⟩
theorem Keeps.trans {w1 w2 w3 : World} (h : Keeps w1 w2) (h2 : Keeps w2 w3) : Keeps w1 w3 :=
  ⟨⟨World.keptBut_trans h.1.1 h2.1.1, fun a => (h2.1.2.1 a).trans (h.1.2.1 a), Nat.le_trans h.1.2.2 h2.1.2.2⟩, fun a v hv => h2.2 a v (h.2 a v hv)⟩
theorem Keeps.refl (w : World) : Keeps w w := ⟨Grown.refl w, fun _ _ h => h⟩
theorem Keeps.drew (w : World) : Keeps w w.drew := ⟨(Grown.refl w).drew, fun _ _ h => h⟩
theorem Keeps.alloc (w : World) (c : Array Value) (t : TypeId) : Keeps w (w.alloc (.cells c t)) :=
  .of ((Grown.refl w).alloc c t) ((Below.refl _ _).alloc (Nat.le_refl _) _)

set_option maxHeartbeats 400000 in
/-- Ahead, with the world behind it: nothing that was there has turned. -/
theorem ahead_keeps (k1 i1 k2 i2 : Int) (w : World) :
    Calls Try.prog 19 #[.agg #[.int .u64 k1, .int .i64 i1], .agg #[.int .u64 k2, .int .i64 i2]] w fun e w' => e = .returned (.bool (aheadB k1 i1 k2 i2)) ∧ Keeps w w' := by
  by_cases h : k1 = k2
  · subst h
    rw [ahead_same]
    go_enter Try.func19, Try.ntmps19
    go_wp2
    go_ret
    exact ⟨rfl, (Keeps.alloc _ _ _).trans (Keeps.alloc _ _ _)⟩
  · rw [ahead_not i1 i2 h]
    have t : (k1 != k2) = true := by simp; omega
    go_enter Try.func19, Try.ntmps19
    go_wp2
    go_ret
    exact ⟨rfl, (Keeps.alloc _ _ _).trans (Keeps.alloc _ _ _)⟩

theorem ahead_any (k1 i1 k2 i2 : Int) (w : World) :
    Calls Try.prog 19 #[.agg #[.int .u64 k1, .int .i64 i1], .agg #[.int .u64 k2, .int .i64 i2]] w fun e w' => e = .returned (.bool (aheadB k1 i1 k2 i2)) ∧ Grown w w' :=
  (ahead_keeps k1 i1 k2 i2 w).mono fun _ _ h => ⟨h.1, h.2.1⟩

set_option maxHeartbeats 400000 in
theorem rahead_keeps (k1 i1 k2 i2 : Int) (w : World) :
    Calls Try.prog 20 #[.agg #[.int .u64 k1, .int .i64 i1], .agg #[.int .u64 k2, .int .i64 i2]] w fun e w' => e = .returned (.bool (aheadB k1 i1 k2 i2)) ∧ Keeps w w' := by
  by_cases h : k1 = k2
  · subst h
    rw [ahead_same]
    go_enter Try.func20, Try.ntmps20
    go_wp2
    go_ret
    exact ⟨rfl, (Keeps.alloc _ _ _).trans (Keeps.alloc _ _ _)⟩
  · rw [ahead_not i1 i2 h]
    have t : (k1 == k2) = false := by simp; omega
    by_cases hl : k1 < k2
    all_goals
      go_enter Try.func20, Try.ntmps20
      go_wp2
      go_ret
      exact ⟨by simp [hl], (Keeps.alloc _ _ _).trans (Keeps.alloc _ _ _)⟩
end Go.Proofs.Ytamokhoiglklkaa
