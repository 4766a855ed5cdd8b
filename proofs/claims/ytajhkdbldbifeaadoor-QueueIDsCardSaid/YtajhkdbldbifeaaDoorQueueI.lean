/-
  Contracts of the statements' base and made.
-/
import Derived.Test.YtajhkdbldbifeaaDoorQueueH
import Derived.Test.YtajhkdbldbifeaaDoorShardH
namespace Go.Proofs.YtajhkdbldbifeaaDoor
set_option maxRecDepth 100000
open Go.RowKit Go.ChangeMaps Go.MapKept
set_option linter.unusedVariables false
set_option linter.unusedSimpArgs false

/-- A queue and the document's that hold the same, apart. -/
structure QPair (w : World) (qb : Nat) (S : List Nat) (xb : Nat) (T : List Nat) (n wd : Nat) (B : Nat → Int) (L : Nat → List It) : Prop where
  ours : QueueOf w qb S n wd B L
  ref : RQOf w xb T n wd B L
  dis : ∀ b ∈ S, b ∉ T
theorem QPair.only {w w' : World} {qb xb n wd : Nat} {S T U : List Nat} {B : Nat → Int} {L : Nat → List It} (h : QPair w qb S xb T n wd B L) (ho : Only U w w') (hS : ∀ b ∈ S, b ∉ U) (hT : ∀ b ∈ T, b ∉ U) : QPair w' qb S xb T n wd B L := ⟨h.ours.only ho hS, h.ref.only ho hT, h.dis⟩
theorem QPair.only0 {w w' : World} {qb xb n wd : Nat} {S T : List Nat} {B : Nat → Int} {L : Nat → List It} (h : QPair w qb S xb T n wd B L) (ho : Only [] w w') : QPair w' qb S xb T n wd B L := h.only ho (by simp) (by simp)

set_option maxHeartbeats 2000000 in
/-- made: a queue and the document's, of the same shards and width. -/
theorem hMade8 (shards width : Int) (w : World) : Calls Tryd.prog 4 #[.int .i64 shards, .int .i64 width] w fun e w' => ∃ qb xb, e = .returned (.tuple #[.pointer (some ⟨qb, 0, none⟩), .pointer (some ⟨xb, 0, none⟩)]) ∧ ∃ n wd S T, QPair w' qb S xb T n wd (fun _ => 0) (fun _ => []) ∧ (∀ b ∈ S, w.heap.size ≤ b) ∧ (∀ b ∈ T, w.heap.size ≤ b) ∧ Only [] w w' := by
  obtain ⟨m5, hm5, hmod5⟩ := hModN shards 5 (by omega) (by omega)
  obtain ⟨m6, hm6, hmod6⟩ := hModN shards 6 (by omega) (by omega)
  obtain ⟨m3, hm3, hmod3⟩ := hModN width 3 (by omega) (by omega)
  obtain ⟨m7, hm7, hmod7⟩ := hModN width 7 (by omega) (by omega)
  change ∀ w, Calls _ _ #[.int .i64 shards, .int .i64 5] w _ at hmod5
  change ∀ w, Calls _ _ #[.int .i64 shards, .int .i64 6] w _ at hmod6
  change ∀ w, Calls _ _ #[.int .i64 width, .int .i64 3] w _ at hmod3
  change ∀ w, Calls _ _ #[.int .i64 width, .int .i64 7] w _ at hmod7
  by_cases h5 : m5 = 0
  · subst h5
    by_cases h3 : m3 = 0
    · subst h3
      go_enter Tryd.func4, Tryd.ntmps4
      go_wp2_with fail
      refine (hmod5 _).mono ?_
      rintro e w ⟨rfl, rfl⟩
      go_wp2_with fail
      refine (hmod3 _).mono ?_
      rintro e w ⟨rfl, rfl⟩
      go_wp2_with fail
      refine (qNew _ shards width).mono ?_
      rintro e w2 ⟨qb, rfl, S, h1, h2, h3⟩
      have R2 := Lib.hid (And.intro h1 (And.intro h2 h3))
      clear h1 h2 h3
      go_wp2_with fail
      refine (rqNew _ shards width).mono ?_
      rintro e w3 ⟨xb, rfl, T, h4, h5, h6⟩
      have R3 := Lib.hid (And.intro h4 (And.intro h5 h6))
      clear h4 h5 h6
      go_wp2_with fail
      go_ret2
      refine ⟨qb, xb, rfl, _, _, S, T, ⟨R2.out.1.only0 R3.out.2.2, R3.out.1, fun b hb hc => ?_⟩, R2.out.2.1, fun b hb => Nat.le_trans R2.out.2.2.size (R3.out.2.1 b hb), R2.out.2.2.trans' R3.out.2.2⟩
      have h7 := R2.out.1.lt b hb
      have h8 := R3.out.2.1 b hc
      omega
    · have h3' : (0 : Int) < (m3 : Int) := by omega
      go_enter Tryd.func4, Tryd.ntmps4
      go_wp2_with fail
      refine (hmod5 _).mono ?_
      rintro e w ⟨rfl, rfl⟩
      go_wp2_with fail
      refine (hmod3 _).mono ?_
      rintro e w ⟨rfl, rfl⟩
      go_wp2_with fail
      refine (hmod7 _).mono ?_
      rintro e w ⟨rfl, rfl⟩
      go_wp2_with fail
      refine (qNew _ shards (m7 : Int)).mono ?_
      rintro e w2 ⟨qb, rfl, S, h1, h2, h3⟩
      have R2 := Lib.hid (And.intro h1 (And.intro h2 h3))
      clear h1 h2 h3
      go_wp2_with fail
      refine (rqNew _ shards (m7 : Int)).mono ?_
      rintro e w3 ⟨xb, rfl, T, h4, h5, h6⟩
      have R3 := Lib.hid (And.intro h4 (And.intro h5 h6))
      clear h4 h5 h6
      go_wp2_with fail
      go_ret2
      refine ⟨qb, xb, rfl, _, _, S, T, ⟨R2.out.1.only0 R3.out.2.2, R3.out.1, fun b hb hc => ?_⟩, R2.out.2.1, fun b hb => Nat.le_trans R2.out.2.2.size (R3.out.2.1 b hb), R2.out.2.2.trans' R3.out.2.2⟩
      have h7 := R2.out.1.lt b hb
      have h8 := R3.out.2.1 b hc
      omega
  · have h5' : (0 : Int) < (m5 : Int) := by omega
    by_cases h3 : m3 = 0
    · subst h3
      go_enter Tryd.func4, Tryd.ntmps4
      go_wp2_with fail
      refine (hmod5 _).mono ?_
      rintro e w ⟨rfl, rfl⟩
      go_wp2_with fail
      refine (hmod6 _).mono ?_
      rintro e w ⟨rfl, rfl⟩
      go_wp2_with fail
      refine (hmod3 _).mono ?_
      rintro e w ⟨rfl, rfl⟩
      go_wp2_with fail
      refine (qNew _ (m6 : Int) width).mono ?_
      rintro e w2 ⟨qb, rfl, S, h1, h2, h3⟩
      have R2 := Lib.hid (And.intro h1 (And.intro h2 h3))
      clear h1 h2 h3
      go_wp2_with fail
      refine (rqNew _ (m6 : Int) width).mono ?_
      rintro e w3 ⟨xb, rfl, T, h4, h5, h6⟩
      have R3 := Lib.hid (And.intro h4 (And.intro h5 h6))
      clear h4 h5 h6
      go_wp2_with fail
      go_ret2
      refine ⟨qb, xb, rfl, _, _, S, T, ⟨R2.out.1.only0 R3.out.2.2, R3.out.1, fun b hb hc => ?_⟩, R2.out.2.1, fun b hb => Nat.le_trans R2.out.2.2.size (R3.out.2.1 b hb), R2.out.2.2.trans' R3.out.2.2⟩
      have h7 := R2.out.1.lt b hb
      have h8 := R3.out.2.1 b hc
      omega
    · have h3' : (0 : Int) < (m3 : Int) := by omega
      go_enter Tryd.func4, Tryd.ntmps4
      go_wp2_with fail
      refine (hmod5 _).mono ?_
      rintro e w ⟨rfl, rfl⟩
      go_wp2_with fail
      refine (hmod6 _).mono ?_
      rintro e w ⟨rfl, rfl⟩
      go_wp2_with fail
      refine (hmod3 _).mono ?_
      rintro e w ⟨rfl, rfl⟩
      go_wp2_with fail
      refine (hmod7 _).mono ?_
      rintro e w ⟨rfl, rfl⟩
      go_wp2_with fail
      refine (qNew _ (m6 : Int) (m7 : Int)).mono ?_
      rintro e w2 ⟨qb, rfl, S, h1, h2, h3⟩
      have R2 := Lib.hid (And.intro h1 (And.intro h2 h3))
      clear h1 h2 h3
      go_wp2_with fail
      refine (rqNew _ (m6 : Int) (m7 : Int)).mono ?_
      rintro e w3 ⟨xb, rfl, T, h4, h5, h6⟩
      have R3 := Lib.hid (And.intro h4 (And.intro h5 h6))
      clear h4 h5 h6
      go_wp2_with fail
      go_ret2
      refine ⟨qb, xb, rfl, _, _, S, T, ⟨R2.out.1.only0 R3.out.2.2, R3.out.1, fun b hb hc => ?_⟩, R2.out.2.1, fun b hb => Nat.le_trans R2.out.2.2.size (R3.out.2.1 b hb), R2.out.2.2.trans' R3.out.2.2⟩
      have h7 := R2.out.1.lt b hb
      have h8 := R3.out.2.1 b hc
      omega
end Go.Proofs.YtajhkdbldbifeaaDoor
