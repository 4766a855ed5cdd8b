/-
  awake; some.
-/
import Derived.Test.YtjmnklmomdfpfaaSfqHA
namespace Go.Proofs.Ytjmnklmomdfpfaa
set_option maxRecDepth 100000
open Go.RowKit
set_option linter.unusedVariables false
set_option linter.unusedSimpArgs false
set_option maxRecDepth 100000

/-! ### some -/
def someF (S : Sq) (i : Nat) : Sq := S.add (i : Int) (1 + (i : Int)) (room (2 + 2 * (i : Int)))
def someN (S : Sq) : Nat → Sq
  | 0 => S
  | n + 1 => someF (someN S n) n
def someS : Sq := someN Sq.new 4
theorem i64_nat {n : Nat} (h : n ≤ 1000000) : i64ok (n : Int) := i64_of (by omega)
theorem someN_len (S : Sq) : ∀ n, (someN S n).l.length ≤ S.l.length + n
  | 0 => Nat.le_refl _
  | n + 1 => by
    have h1 := someN_len S n
    have h2 := Sq.add_len (someN S n) (n : Int) (1 + (n : Int)) (room (2 + 2 * (n : Int)))
    show (someF (someN S n) n).l.length ≤ _
    unfold someF
    omega
set_option maxHeartbeats 2000000 in
theorem sSome (w : World) (b c : Nat) (O P : List Nat) (h : Dq w b c Sq.new O P) :
    Calls Try.prog 12 #[.pointer (some ⟨b, 0, none⟩), .pointer (some ⟨c, 0, none⟩)] w fun e w' => e = .returned (.tuple #[]) ∧ Fin2 w b c someS O P w' := by
  have H := Lib.hid h
  clear h
  go_enter Try.func12, Try.ntmps12
  go_wp2_with fail
  go_loopg [4] 5 (fun gk si wr => ∃ p : Nat, si = .int .i64 (p : Int) ∧ p ≤ 4 ∧ 5 ≤ gk + p ∧ Hid (Fin2 w b c (someN Sq.new p) O P wr))
  case atStart => exact ⟨0, rfl, by omega, by omega, ⟨O, P, H.out, Went.refl _ _⟩⟩
  case round =>
    obtain ⟨p, rfl, hp, hg, hF⟩ := hrel
    by_cases hpl : p < 4
    · have hpl' : (p : Int) < 4 := by omega
      obtain ⟨O1, P1, d1, g1⟩ := hF.out
      have hl : (someN Sq.new p).l.length < 1000 := by have := someN_len Sq.new p; have h0 : Sq.new.l.length = 0 := rfl; omega
      have k1 := sAdd wr b (someN Sq.new p) O1 d1.fl (p : Int) (1 + (p : Int)) (2 + 2 * (p : Int)) (i64_nat (by omega)) (by unfold U64; omega) hl
      have w1 : IntKind.u64.wrap (1 + (p : Int)) = 1 + (p : Int) := by rw [IntKind.wrap_u64]; omega
      have R := Lib.hid (And.intro d1 g1)
      clear d1 g1
      go_wp2_with fail
      refine k1.mono ?_
      rintro e w2 ⟨rfl, t2⟩
      have m2 := R.out.1.mid t2
      have k2 := zAdd w2 c (someN Sq.new p) P1 m2.rf (p : Int) (1 + (p : Int)) (2 + 2 * (p : Int)) (i64_nat (by omega)) (by unfold U64; omega) hl
      have M2 := Lib.hid m2
      clear k1 t2 m2
      go_wp2_with fail
      refine k2.mono ?_
      rintro e w3 ⟨rfl, t3⟩
      have f3 := M2.out.fin t3
      have R3 : Hid (Fin2 w b c (someN Sq.new (p + 1)) O P w3) := by
        obtain ⟨O2, P2, q1, q2⟩ := f3
        exact ⟨O2, P2, q1, R.out.2.trans q2⟩
      clear k2 t3 f3
      go_wp2_with fail
      go_roundg (5 - (p + 1))
      case measure => omega
      case rel => exact ⟨p + 1, by simp, by omega, by omega, R3⟩
    · have hpl' : ¬ ((p : Int) < 4) := by omega
      obtain rfl : p = 4 := by omega
      go_wp2_with fail
      go_end0
      exact ⟨rfl, hF.out⟩

/-! ### awake -/
def aw0 : Sq := (Sq.new.add 1 10 (room 8)).add 2 5 (room 8)
def awPk (i : Nat) : Pk := ⟨1 + (i : Int) / 2, 4, i⟩
def awN : Nat → Sq
  | 0 => aw0
  | n + 1 => (awN n).arr (awPk n)
theorem awPk_ok {i : Nat} (h : i < 4) : (awPk i).ok := ⟨i64_of (by simp [awPk]; omega), i64_of (by simp [awPk]), (i64_nat (by omega) : i64ok ((i : Nat) : Int))⟩
theorem aw_arrE : ∀ i, i < 4 → (awN i).arrE (awPk i) = 0 := by decide +kernel
theorem aw_facts : (hasK Sq.new.l 1 = false ∧ hasK (Sq.new.add 1 10 (room 8)).l 2 = false ∧ hasK aw0.l 2 = true ∧ aw0.remE 3 = 5 ∧ (awN 4).any = true ∧ (awN 4).hd.f = 1 ∧ (awN 4).srv.any = true ∧ (awN 4).srv.hd.f = 2) ∧ (awN 4).srv.srv.m = 40 ∧ (awN 4).srv.srv.v = 0 ∧ (awN 4).srv.srv.remE 1 = 8 := by decide +kernel
set_option maxHeartbeats 4000000 in
theorem sAwake (w : World) : Calls Try.prog 11 #[] w fun e w' => e = .returned (.bool true) ∧ Only [] w w' := by
  obtain ⟨⟨f1, f2, f3, f4, f5, f6, f7, f8⟩, f9, f10, f11⟩ := aw_facts
  go_enter Try.func11, Try.ntmps11
  go_wp2_with fail
  refine (sNew w).mono ?_
  rintro e w1 ⟨rfl, h1, o1⟩
  obtain ⟨N, eN⟩ : ∃ N, w.heap.size = N := ⟨_, rfl⟩
  have HN := Lib.hid eN
  rw [eN] at h1 ⊢
  have HO := Lib.hid (And.intro h1 o1)
  have k1 := sAdd w1 N Sq.new _ h1 1 10 8 (i64_of (by decide)) (by unfold U64; decide) (by decide)
  rw [f1] at k1
  clear eN o1 h1
  go_wp2_with fail
  refine k1.mono ?_
  rintro e w2 ⟨rfl, O2, h2, g2⟩
  have G2 := Lib.hid g2
  have k2 := sAdd w2 N _ _ h2 2 5 8 (i64_of (by decide)) (by unfold U64; decide) (by decide)
  rw [f2] at k2
  change Calls _ _ _ _ (fun e w' => e = _ ∧ STo _ _ _ aw0 _) at k2
  clear k1 h2 g2
  go_wp2_with fail
  refine k2.mono ?_
  rintro e w3 ⟨rfl, O3, h3, g3⟩
  have G3 := Lib.hid (G2.out.trans g3)
  have k3 := sAdd w3 N _ _ h3 2 5 8 (i64_of (by decide)) (by unfold U64; decide) (by decide)
  have e3 : aw0.add 2 5 (room 8) = aw0 := by unfold Sq.add; rw [if_pos f3]
  rw [f3, e3] at k3
  clear k2 h3 g3 G2
  go_wp2_with fail
  refine k3.mono ?_
  rintro e w4 ⟨rfl, O4, h4, g4⟩
  have G4 := Lib.hid (G3.out.trans g4)
  have k4 := sRemove w4 N _ _ h4 3
  have e4 : aw0.rem 3 = aw0 := by
    unfold Sq.rem
    rw [if_neg (by decide +kernel)]
  rw [f4, e4] at k4
  clear k3 h4 g4 G3
  go_wp2_with fail
  refine k4.mono ?_
  rintro e w5 ⟨rfl, O5, h5, g5⟩
  have G5 := Lib.hid (And.intro h5 (G4.out.trans g5))
  clear k4 h5 g5 G4
  go_wp2_with fail
  go_loopg [2] 5 (fun gk si wr => ∃ p : Nat, si = .int .i64 (p : Int) ∧ p ≤ 4 ∧ 5 ≤ gk + p ∧ Hid (∃ O', SqOf wr N (awN p) O' ∧ Went w1 [N] wr O'))
  case atStart => exact ⟨0, rfl, by omega, by omega, ⟨_, G5.out.1, G5.out.2⟩⟩
  case round =>
    obtain ⟨p, rfl, hp, hg, hF⟩ := hrel
    clear G5
    obtain ⟨O6, h6, g6⟩ := hF.out
    have G6 := Lib.hid g6
    by_cases hpl : p < 4
    · have hpl' : (p : Int) < 4 := by omega
      have k6 := sArrive wr N _ _ h6 (awPk p) (awPk_ok hpl)
      rw [aw_arrE p hpl] at k6
      unfold awPk at k6
      simp only at k6
      clear h6 g6
      go_wp2_with fail
      refine k6.mono ?_
      rintro e w7 ⟨rfl, O7, h7, g7⟩
      have R7 : Hid (∃ O', SqOf w7 N (awN (p + 1)) O' ∧ Went w1 [N] w7 O') := ⟨O7, h7, G6.out.trans g7⟩
      clear k6 h7 g7
      go_wp2_with fail
      go_roundg (5 - (p + 1))
      case measure => omega
      case rel => exact ⟨p + 1, by simp, by omega, by omega, R7⟩
    · have hpl' : ¬ ((p : Int) < 4) := by omega
      obtain rfl : p = 4 := by omega
      have k6 := sServe wr N _ _ h6
      rw [f5, f6] at k6
      clear h6 g6
      go_wp2_with fail
      refine k6.mono ?_
      rintro e w7 ⟨rfl, O7, h7, g7⟩
      have oA : Only [] w7 (w7.alloc (.cells #[.int .i64 1, .int .i64 (awN 4).hd.l, .int .i64 (awN 4).hd.m] 34)) := (Only.refl [] w7).alloc _
      have bA : PBox (w7.alloc (.cells #[.int .i64 1, .int .i64 (awN 4).hd.l, .int .i64 (awN 4).hd.m] 34)) w7.heap.size ⟨1, (awN 4).hd.l, (awN 4).hd.m⟩ := heap_alloc_new w7 _
      have k8 := sServe _ N _ _ (h7.only0 oA)
      rw [f7, f8] at k8
      have G7 := Lib.hid (And.intro ((G6.out.trans g7).trans (Went.still oA O7)) (And.intro bA h7.lt))
      clear k6 h7 g7 G6 oA bA
      go_wp2_with fail
      refine k8.mono ?_
      rintro e w8 ⟨rfl, O8, h8, g8⟩
      have oB : Only [] w8 (w8.alloc (.cells #[.int .i64 2, .int .i64 (awN 4).srv.hd.l, .int .i64 (awN 4).srv.hd.m] 34)) := (Only.refl [] w8).alloc _
      have b8 : PBox w8 w7.heap.size ⟨1, (awN 4).hd.l, (awN 4).hd.m⟩ := G7.out.2.1.only g8.1 (fun hk => Nat.lt_irrefl _ (G7.out.2.2 _ hk))
      obtain ⟨x0, _, _⟩ := b8.c
      have b8lt := b8.lt
      have h9 := h8.only0 oB
      have k9 := sMost _ N _ _ h9
      have k10 := sV _ N _ _ h9
      have k11 := sRemove _ N _ _ h9 1
      rw [f9] at k9
      rw [f10] at k10
      rw [f11] at k11
      have G8 := Lib.hid ((G7.out.1.trans g8).trans (Went.still oB O8))
      clear k8 h8 g8 G7 oB b8 h9
      go_wp2_with (first
        | (go_at_call 16; refine k9.mono ?_; rintro e w9 ⟨rfl, rfl⟩)
        | (go_at_call 15; refine k10.mono ?_; rintro e w9 ⟨rfl, rfl⟩)
        | (go_at_call 26; refine k11.mono ?_; rintro e w12 ⟨rfl, O12, h12, g12⟩; have G12 := Lib.hid (G8.out.trans g12); clear h12 g12))
      go_ret
      refine ⟨rfl, ?_⟩
      have := HN.out
      exact HO.out.2.trans G12.out.1 (by simp; omega)
end Go.Proofs.Ytjmnklmomdfpfaa
