/-
  awake: what a program that does nothing does not answer.
-/
import Derived.Test.YtajhkdbldbifeaaGreatDoorQueueB
import Derived.Test.YtajhkdbldbifeaaGreatDoorQueueR
import Derived.Test.YtajhkdbldbifeaaGreatDoorQueueN
import Derived.Test.YtajhkdbldbifeaaGreatDoorGmI
namespace Go.Proofs.YtajhkdbldbifeaaGreatDoor
set_option maxRecDepth 100000
open Go.RowKit Go.ChangeMaps Go.MapKept
set_option linter.unusedVariables false
set_option linter.unusedSimpArgs false

/-- Three lists, as awake's pushes leave them. -/
def aw0 : Nat → List It := fun _ => []
def awB : Nat → Int := fun _ => 0
def aw1 : Nat → List It := pushL aw0 2 awB ⟨9, 0⟩
def aw2 : Nat → List It := pushL aw1 2 awB ⟨3, 1⟩
def aw3 : Nat → List It := pushL aw2 2 awB ⟨4, 2⟩
theorem aw_b1 : pushB aw0 2 awB ⟨9, 0⟩ = true := by decide +kernel
theorem aw_b2 : pushB aw1 2 awB ⟨3, 1⟩ = true := by decide +kernel
theorem aw_b3 : pushB aw2 2 awB ⟨4, 2⟩ = true := by decide +kernel
theorem aw_min : (minX aw3 2).k = 3 ∧ (minX aw3 2).i = 1 ∧ minB aw3 2 = true := by decide +kernel
theorem aw_bases : basesL (popB aw3 2 awB) 2 = [0, 3] := by decide +kernel
theorem aw_len : (catL (popL aw3 2) 2).length = 2 := by decide +kernel
theorem aw_room : (∀ i, i < 2 → (aw0 i).length < 200000) ∧ (∀ i, i < 2 → (aw1 i).length < 200000) ∧ (∀ i, i < 2 → (aw2 i).length < 200000) := by decide +kernel

set_option maxHeartbeats 4000000 in
theorem hAwake8 (w : World) (hT : Tab w) : Calls Tryz.prog 9 #[] w fun e w' => e = .returned (.bool true) ∧ Only [] w w' := by
  have hnew := qNew w 2 0
  have e1 : clampM 2 = 2 := by decide
  have e2 : wid 0 = 0 := by decide
  rw [e1, e2] at hnew
  clear e1 e2
  have hTg : Hid (∀ b, w.heap.size ≤ b → 0 ≠ b) := fun b hb e => by
    have h2 := World.block_lt_of_cell? w _ (hT 0 (by omega))
    simp only at h2
    omega
  have HT := Lib.hid hT
  clear hT
  have he := item_eql ⟨3, 1⟩ ⟨3, 1⟩
  have hgi := item_guard
  simp only [decide_true] at he
  go_enter Tryz.func9, Tryz.ntmps9
  go_wp2_with fail
  refine hnew.mono ?_
  rintro e w1 ⟨qb, rfl, S1, q1, f1, o1⟩
  have p1 := qPush w1 qb S1 2 0 awB aw0 q1 (HT.out.only0 o1) (fun hc => hTg.out _ (f1 _ hc) rfl) ⟨9, 0⟩ ⟨by decide, by unfold i64ok; decide⟩ aw_room.1
  rw [aw_b1] at p1
  simp only at p1
  have R1 := Lib.hid (And.intro f1 o1)
  clear q1 f1 o1 hnew
  go_wp2_with fail
  refine p1.mono ?_
  rintro e w2 ⟨rfl, S2, q2, m2⟩
  have f2 : ∀ b ∈ S2, w.heap.size ≤ b := fun b hb => by
    rcases m2.2 b hb with h | h
    · exact R1.out.1 b h
    · exact Nat.le_trans R1.out.2.size h
  have o2 : Only [] w w2 := R1.out.2.trans m2.1 fun b hb => .inr (R1.out.1 b hb)
  have p2 := qPush w2 qb S2 2 0 awB aw1 q2 (HT.out.only0 o2) (fun hc => hTg.out _ (f2 _ hc) rfl) ⟨3, 1⟩ ⟨by decide, by unfold i64ok; decide⟩ aw_room.2.1
  rw [aw_b2] at p2
  simp only at p2
  have R2 := Lib.hid (And.intro f2 o2)
  clear q2 m2 f2 o2 p1 R1
  go_wp2_with fail
  refine p2.mono ?_
  rintro e w3 ⟨rfl, S3, q3, m3⟩
  have f3 : ∀ b ∈ S3, w.heap.size ≤ b := fun b hb => by
    rcases m3.2 b hb with h | h
    · exact R2.out.1 b h
    · exact Nat.le_trans R2.out.2.size h
  have o3 : Only [] w w3 := R2.out.2.trans m3.1 fun b hb => .inr (R2.out.1 b hb)
  have p3 := qPush w3 qb S3 2 0 awB aw2 q3 (HT.out.only0 o3) (fun hc => hTg.out _ (f3 _ hc) rfl) ⟨4, 2⟩ ⟨by decide, by unfold i64ok; decide⟩ aw_room.2.2
  rw [aw_b3] at p3
  simp only at p3
  have R3 := Lib.hid (And.intro f3 o3)
  clear q3 m3 f3 o3 p2 R2
  go_wp2_with fail
  refine p3.mono ?_
  rintro e w4 ⟨rfl, S4, q4, m4⟩
  have f4 : ∀ b ∈ S4, w.heap.size ≤ b := fun b hb => by
    rcases m4.2 b hb with h | h
    · exact R3.out.1 b h
    · exact Nat.le_trans R3.out.2.size h
  have o4 : Only [] w w4 := R3.out.2.trans m4.1 fun b hb => .inr (R3.out.1 b hb)
  have p4 := qPop w4 qb S4 2 0 awB aw3 q4 (HT.out.only0 o4) (fun hc => hTg.out _ (f4 _ hc) rfl)
  obtain ⟨x1, x2, x3⟩ := aw_min
  unfold It.val at p4
  rw [x1, x2, x3] at p4
  have R4 := Lib.hid (And.intro f4 o4)
  clear q4 m4 f4 o4 p3 R3 x1 x2 x3
  go_wp2_with fail
  refine p4.mono ?_
  rintro e w5 ⟨rfl, S5, q5, m5⟩
  have o5 : Only [] w w5 := R4.out.2.trans m5.1 fun b hb => .inr (R4.out.1 b hb)
  have oA : Only [] w5 (w5.alloc (.cells #[.int .u64 3, .int .i64 1] 40)) := (Only.refl [] w5).alloc _
  have q6 := q5.only0 oA
  have p6 := qBases _ qb S5 2 0 _ _ q6
  rw [aw_bases] at p6
  have bX : Box _ w5.heap.size ⟨3, 1⟩ := Box.new w5 ⟨3, 1⟩
  have x0 := bX.c0
  have x1 := bX.c1
  simp only at x0 x1
  have R5 := Lib.hid (And.intro (o5.trans' oA) q6)
  clear q5 m5 o5 oA q6 p4 bX R4
  go_wp2_with fail
  refine p6.mono ?_
  rintro e w7 ⟨g, rfl, a7, f7, o7⟩
  have oB : Only [] w7 (w7.alloc (.cells #[.int .u64 0, .int .u64 3] 29)) := (Only.refl [] w7).alloc _
  have u1 := a7.uat.only0 oB
  have u2 : UAt (w7.alloc (.cells #[.int .u64 0, .int .u64 3] 29)) (some ⟨w7.heap.size, 0, none⟩) [0, 3] := (Arr.new w7 29 (u64s [0, 3])).uat
  have p8 := uPlain _ _ 2 2 2 [0, 3] _ rfl (by omega) (by omega) u1 u2
  have R7 := Lib.hid (And.intro ((R5.out.1.trans' o7).trans' oB) (R5.out.2.only0 (o7.trans' oB)))
  clear a7 f7 o7 oB u1 u2 p6 R5 x0 x1
  go_wp2_with fail
  refine p8.mono ?_
  rintro e w9 ⟨rfl, o9⟩
  have p9 := qLen w9 qb S5 2 0 _ _ (R7.out.2.only0 o9)
  rw [aw_len] at p9
  have O9 := Lib.hid (R7.out.1.trans' o9)
  clear o9 p8
  go_wp2_with fail
  refine p9.mono ?_
  rintro e w10 ⟨rfl, o10⟩
  go_wp2_with fail
  go_ret
  exact ⟨by simp, O9.out.trans' o10⟩
end Go.Proofs.YtajhkdbldbifeaaGreatDoor
