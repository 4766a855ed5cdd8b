/-
  Contracts of the statements' base and made.
-/
import Derived.Test.YtajhkdbldbifeaaGreatDoorQueueH
import Derived.Test.YtajhkdbldbifeaaGreatDoorShardH
namespace Go.Proofs.YtajhkdbldbifeaaGreatDoor
set_option maxRecDepth 100000
open Go.RowKit Go.ChangeMaps Go.MapKept
set_option linter.unusedVariables false
set_option linter.unusedSimpArgs false

set_option maxHeartbeats 2000000 in
/-- The least base: whichever it is, it fits. -/
theorem hBase (w : World) (xb : Nat) (T : List Nat) (n wd : Nat) (B : Nat → Int) (L : Nat → List It) (h : RQOf w xb T n wd B L) (hb : ∀ i, i < n → 0 ≤ B i ∧ B i ≤ 18446744073709551615) :
    Calls Tryz.prog 33 #[.pointer (some ⟨xb, 0, none⟩)] w fun e w' => ∃ z, e = .returned (.int .u64 z) ∧ (0 ≤ z ∧ z ≤ 18446744073709551615) ∧ Only [] w w' := by
  obtain ⟨ab, cap, P, TT, rfl, h⟩ := h
  have n16 := h.n16
  have n1 := h.n1
  have H := Lib.hid h
  have HB := Lib.hid hb
  have c0 := h.c0
  have d0 := h.at_ (i := 0) (by omega)
  obtain ⟨b0, -, -, -⟩ := (h.sh 0 (by omega)).cells
  have hb0 := hb 0 (by omega)
  have hI0 : (0 : Int) < (n : Int) := by omega
  clear h hb
  go_enter Tryz.func33, Tryz.ntmps33
  go_wp2_with fail
  go_loopg [3, 4] (n + 1) (fun gk sz si wr => ∃ (p : Nat) (z : Int), sz = .int .u64 z ∧ si = .int .i64 (p : Int) ∧ 1 ≤ p ∧ p ≤ n ∧ n + 1 ≤ gk + p ∧ Hid (0 ≤ z ∧ z ≤ 18446744073709551615) ∧ Hid (Only [] w wr))
  case atStart => exact ⟨1, _, rfl, rfl, by omega, by omega, by omega, hb0, Only.refl [] w⟩
  case round =>
    clear c0 d0 b0 hb0
    obtain ⟨p, z, rfl, rfl, h1, hp, hg, hz, O⟩ := hrel
    have hQ := H.out.only0 O.out
    have c0 := hQ.c0
    by_cases hpl : p < n
    · have hpl' : (p : Int) < (n : Int) := by omega
      have hI : (0 : Int) ≤ (p : Int) ∧ (p : Int) < (n : Int) := by omega
      have di := hQ.at_ hpl
      obtain ⟨bi, -, -, -⟩ := (hQ.sh p hpl).cells
      have hbp := HB.out p hpl
      generalize B p = b at *
      obtain ⟨y, ey⟩ : ∃ y, min z b = y := ⟨_, rfl⟩
      have ey2 : (if b < z then b else z) = y := by rw [← ey]; split <;> omega
      have hy : Hid (0 ≤ y ∧ y ≤ 18446744073709551615) := by
        have := hz.out
        refine ⟨?_, ?_⟩ <;> omega
      clear hQ hbp
      go_wp2_with fail
      go_roundg (n + 1 - (p + 1))
      case measure => omega
      case rel => exact ⟨p + 1, y, by first | rfl | (rw [ey]) | (rw [ey2]), by simp, by omega, by omega, by omega, hy, O⟩
    · have hpe : p = n := by omega
      subst hpe
      have hpl' : ¬ ((p : Int) < (p : Int)) := by omega
      clear hQ
      go_wp2_with fail
      go_ret
      exact ⟨z, rfl, hz.out, O.out⟩

/-- A queue and the document's that hold the same, apart. -/
structure QPair (w : World) (qb : Nat) (S : List Nat) (xb : Nat) (T : List Nat) (n wd : Nat) (B : Nat → Int) (L : Nat → List It) : Prop where
  ours : QueueOf w qb S n wd B L
  ref : RQOf w xb T n wd B L
  dis : ∀ b ∈ S, b ∉ T
theorem QPair.only {w w' : World} {qb xb n wd : Nat} {S T U : List Nat} {B : Nat → Int} {L : Nat → List It} (h : QPair w qb S xb T n wd B L) (ho : Only U w w') (hS : ∀ b ∈ S, b ∉ U) (hT : ∀ b ∈ T, b ∉ U) : QPair w' qb S xb T n wd B L := ⟨h.ours.only ho hS, h.ref.only ho hT, h.dis⟩
theorem QPair.only0 {w w' : World} {qb xb n wd : Nat} {S T : List Nat} {B : Nat → Int} {L : Nat → List It} (h : QPair w qb S xb T n wd B L) (ho : Only [] w w') : QPair w' qb S xb T n wd B L := h.only ho (by simp) (by simp)

set_option maxHeartbeats 2000000 in
/-- made: a queue and the document's, of the same shards and width. -/
theorem hMade8 (shards width : Int) (w : World) : Calls Tryz.prog 8 #[.int .i64 shards, .int .i64 width] w fun e w' => ∃ qb xb, e = .returned (.tuple #[.pointer (some ⟨qb, 0, none⟩), .pointer (some ⟨xb, 0, none⟩)]) ∧ ∃ n wd S T, QPair w' qb S xb T n wd (fun _ => 0) (fun _ => []) ∧ (∀ b ∈ S, w.heap.size ≤ b) ∧ (∀ b ∈ T, w.heap.size ≤ b) ∧ Only [] w w' := by
  obtain ⟨m5, hm5, hmod5⟩ := hModN shards 5 (by omega) (by omega)
  obtain ⟨m6, hm6, hmod6⟩ := hModN shards 6 (by omega) (by omega)
  obtain ⟨m3, hm3, hmod3⟩ := hModN width 3 (by omega) (by omega)
  obtain ⟨m7, hm7, hmod7⟩ := hModN width 7 (by omega) (by omega)
  change ∀ w, Calls _ _ #[.int .i64 shards, .int .i64 5] w _ at hmod5
  change ∀ w, Calls _ _ #[.int .i64 shards, .int .i64 6] w _ at hmod6
  change ∀ w, Calls _ _ #[.int .i64 width, .int .i64 3] w _ at hmod3
  change ∀ w, Calls _ _ #[.int .i64 width, .int .i64 7] w _ at hmod7
  by_cases h5 : m5 = 0
  · subst h5
    by_cases h3 : m3 = 0
    · subst h3
      go_enter Tryz.func8, Tryz.ntmps8
      go_wp2_with fail
      refine (hmod5 _).mono ?_
      rintro e w ⟨rfl, rfl⟩
      go_wp2_with fail
      refine (hmod3 _).mono ?_
      rintro e w ⟨rfl, rfl⟩
      go_wp2_with fail
      refine (qNew _ shards width).mono ?_
      rintro e w2 ⟨qb, rfl, S, h1, h2, h3⟩
      have R2 := Lib.hid (And.intro h1 (And.intro h2 h3))
      clear h1 h2 h3
      go_wp2_with fail
      refine (rqNew _ shards width).mono ?_
      rintro e w3 ⟨xb, rfl, T, h4, h5, h6⟩
      have R3 := Lib.hid (And.intro h4 (And.intro h5 h6))
      clear h4 h5 h6
      go_wp2_with fail
      go_ret2
      refine ⟨qb, xb, rfl, _, _, S, T, ⟨R2.out.1.only0 R3.out.2.2, R3.out.1, fun b hb hc => ?_⟩, R2.out.2.1, fun b hb => Nat.le_trans R2.out.2.2.size (R3.out.2.1 b hb), R2.out.2.2.trans' R3.out.2.2⟩
      have h7 := R2.out.1.lt b hb
      have h8 := R3.out.2.1 b hc
      omega
    · have h3' : (0 : Int) < (m3 : Int) := by omega
      go_enter Tryz.func8, Tryz.ntmps8
      go_wp2_with fail
      refine (hmod5 _).mono ?_
      rintro e w ⟨rfl, rfl⟩
      go_wp2_with fail
      refine (hmod3 _).mono ?_
      rintro e w ⟨rfl, rfl⟩
      go_wp2_with fail
      refine (hmod7 _).mono ?_
      rintro e w ⟨rfl, rfl⟩
      go_wp2_with fail
      refine (qNew _ shards (m7 : Int)).mono ?_
      rintro e w2 ⟨qb, rfl, S, h1, h2, h3⟩
      have R2 := Lib.hid (And.intro h1 (And.intro h2 h3))
      clear h1 h2 h3
      go_wp2_with fail
      refine (rqNew _ shards (m7 : Int)).mono ?_
      rintro e w3 ⟨xb, rfl, T, h4, h5, h6⟩
      have R3 := Lib.hid (And.intro h4 (And.intro h5 h6))
      clear h4 h5 h6
      go_wp2_with fail
      go_ret2
      refine ⟨qb, xb, rfl, _, _, S, T, ⟨R2.out.1.only0 R3.out.2.2, R3.out.1, fun b hb hc => ?_⟩, R2.out.2.1, fun b hb => Nat.le_trans R2.out.2.2.size (R3.out.2.1 b hb), R2.out.2.2.trans' R3.out.2.2⟩
      have h7 := R2.out.1.lt b hb
      have h8 := R3.out.2.1 b hc
      omega
  · have h5' : (0 : Int) < (m5 : Int) := by omega
    by_cases h3 : m3 = 0
    · subst h3
      go_enter Tryz.func8, Tryz.ntmps8
      go_wp2_with fail
      refine (hmod5 _).mono ?_
      rintro e w ⟨rfl, rfl⟩
      go_wp2_with fail
      refine (hmod6 _).mono ?_
      rintro e w ⟨rfl, rfl⟩
      go_wp2_with fail
      refine (hmod3 _).mono ?_
      rintro e w ⟨rfl, rfl⟩
      go_wp2_with fail
      refine (qNew _ (m6 : Int) width).mono ?_
      rintro e w2 ⟨qb, rfl, S, h1, h2, h3⟩
      have R2 := Lib.hid (And.intro h1 (And.intro h2 h3))
      clear h1 h2 h3
      go_wp2_with fail
      refine (rqNew _ (m6 : Int) width).mono ?_
      rintro e w3 ⟨xb, rfl, T, h4, h5, h6⟩
      have R3 := Lib.hid (And.intro h4 (And.intro h5 h6))
      clear h4 h5 h6
      go_wp2_with fail
      go_ret2
      refine ⟨qb, xb, rfl, _, _, S, T, ⟨R2.out.1.only0 R3.out.2.2, R3.out.1, fun b hb hc => ?_⟩, R2.out.2.1, fun b hb => Nat.le_trans R2.out.2.2.size (R3.out.2.1 b hb), R2.out.2.2.trans' R3.out.2.2⟩
      have h7 := R2.out.1.lt b hb
      have h8 := R3.out.2.1 b hc
      omega
    · have h3' : (0 : Int) < (m3 : Int) := by omega
      go_enter Tryz.func8, Tryz.ntmps8
      go_wp2_with fail
      refine (hmod5 _).mono ?_
      rintro e w ⟨rfl, rfl⟩
      go_wp2_with fail
      refine (hmod6 _).mono ?_
      rintro e w ⟨rfl, rfl⟩
      go_wp2_with fail
      refine (hmod3 _).mono ?_
      rintro e w ⟨rfl, rfl⟩
      go_wp2_with fail
      refine (hmod7 _).mono ?_
      rintro e w ⟨rfl, rfl⟩
      go_wp2_with fail
      refine (qNew _ (m6 : Int) (m7 : Int)).mono ?_
      rintro e w2 ⟨qb, rfl, S, h1, h2, h3⟩
      have R2 := Lib.hid (And.intro h1 (And.intro h2 h3))
      clear h1 h2 h3
      go_wp2_with fail
      refine (rqNew _ (m6 : Int) (m7 : Int)).mono ?_
      rintro e w3 ⟨xb, rfl, T, h4, h5, h6⟩
      have R3 := Lib.hid (And.intro h4 (And.intro h5 h6))
      clear h4 h5 h6
      go_wp2_with fail
      go_ret2
      refine ⟨qb, xb, rfl, _, _, S, T, ⟨R2.out.1.only0 R3.out.2.2, R3.out.1, fun b hb hc => ?_⟩, R2.out.2.1, fun b hb => Nat.le_trans R2.out.2.2.size (R3.out.2.1 b hb), R2.out.2.2.trans' R3.out.2.2⟩
      have h7 := R2.out.1.lt b hb
      have h8 := R3.out.2.1 b hc
      omega
end Go.Proofs.YtajhkdbldbifeaaGreatDoor
