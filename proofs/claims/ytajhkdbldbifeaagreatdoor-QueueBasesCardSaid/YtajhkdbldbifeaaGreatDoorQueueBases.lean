/-
  weighbridgelaw08.QueueBases returns true for every input, and leaves its arguments as they were, where math/bits' table holds what the program's own text lays there (the card ties it). No other condition but that the arguments are values of their types.
-/
import Derived.Test.YtajhkdbldbifeaaGreatDoorRows
import Derived.Test.YtajhkdbldbifeaaGreatDoorTie
import Derived.Test.YtajhkdbldbifeaaGreatDoorCards
import Derived.Test.YtajhkdbldbifeaaGreatDoorQueueT
import Derived.ShutString
import Derived.ChangeOld
import Derived.Below
import Derived.SevenTiedAt
namespace Go.Proofs.YtajhkdbldbifeaaGreatDoor.queueBases
open Go.ChangeShapes Go.WideShapes Go.ChangeAt Go.RowKit
set_option linter.unusedVariables false

set_option maxRecDepth 100000 in
set_option maxHeartbeats 16000000 in
theorem walk (a0 : Int) (a1 : Int) (a2 : Option Addr) (len2 cap2 : Nat) (z2 : Nat → Dd) (w : World) (w0 : (Lit.int .i64 a0).wf = true) (w1 : (Lit.int .i64 a1).wf = true) (w2 : InDeeds w a2 len2 z2) (hT : Tab w) :
    Calls Tryz.prog 6 #[.int .i64 a0, .int .i64 a1, .slice a2 len2 cap2] w fun e w' => e = .returned (.bool true) ∧ Below w.heap.size w w' := by
  have W2 := Lib.hid w2
  have HT := Lib.hid hT
  obtain ⟨qf, PL⟩ := kinds_are 8 (by omega) (by omega)
  have PL := Lib.hid PL
  clear w2 hT
  go_enter Tryz.func6, Tryz.ntmps6
  go_wp2_with fail
  refine (made_q w w (Only.refl [] w) a0 a1).mono ?_
  rintro e v1 ⟨qb, xb, rfl, n, wd, S1, T1, h1, -, -⟩
  have aw := hAwake8 v1 (HT.out.only0 h1.only)
  have n1 := h1.pair.ours.n1.1
  have n16 := h1.pair.ours.n1.2
  have H1 := Lib.hid h1
  clear h1
  go_wp2_with fail
  refine aw.mono ?_
  rintro e v2 ⟨rfl, o2⟩
  have H2 := Lib.hid (H1.out.only0 o2)
  clear H1 o2 aw
  go_wp2_with fail
  go_loopg [9] (len2 + 1) (fun gk si wr => ∃ (p : Nat) (S T : List Nat) (B : Nat → Int) (L : Nat → List It), si = .int .i64 (p : Int) ∧ p ≤ len2 ∧ p ≤ 60 ∧ len2 + 1 ≤ gk + p ∧ Hid (QSound w wr qb S xb T n wd B L ∧ ∀ i, (L i).length ≤ p))
  case atStart => exact ⟨0, S1, T1, _, _, rfl, by omega, by omega, by omega, H2.out, fun i => by simp⟩
  case round =>
    obtain ⟨p, S, T, B, L, rfl, hp, hp80, hg, hS⟩ := hrel
    clear H2
    by_cases hc : p < len2 ∧ p < 60
    · have c1 : (p : Int) < (len2 : Int) := by omega
      have c2 : (p : Int) < 60 := by omega
      obtain ⟨hdok, ad, b, o, s, rfl, hadd, hbw, q0, q1, q2⟩ := W2.out p hc.1
      obtain ⟨d, ed⟩ : ∃ d, z2 p = d := ⟨_, rfl⟩
      rw [ed] at q0 q1 q2 hdok
      have hwh := (PL.out d).2
      have hq8 := (PL.out d).1
      have Q := Lib.hid (And.intro q0 (And.intro q1 q2))
      have f1 := hS.out.1.bases
      have hlt := Lib.hid hS.out.1.lt
      have HH := Lib.hid hS.out.1.homes
      clear q0 q1 q2 ed hbw hc
      go_wp2_with fail
      refine f1.mono ?_
      rintro e u1 ⟨g1, rfl, a1', hn1, o1⟩
      have h2 := hS.out.1.only0 o1
      have OW := Lib.hid o1.size
      have f2 := qMin u1 qb S n wd B L h2.pair.ours
      unfold It.val at f2
      obtain ⟨x, ex⟩ : ∃ x, minX L n = x := ⟨_, rfl⟩
      obtain ⟨ok, eok⟩ : ∃ ok, minB L n = ok := ⟨_, rfl⟩
      rw [ex, eok] at f2
      have EX := Lib.hid (And.intro ex eok)
      have H2 := Lib.hid (And.intro h2 (And.intro a1' hn1))
      clear h2 a1' hn1 o1 f1 ex eok
      go_wp2_with fail
      refine f2.mono ?_
      rintro e u2 ⟨rfl, o2⟩
      have h3 := H2.out.1.only0 (o2.alloc (.cells #[.int .u64 x.k, .int .i64 x.i] 40))
      have r0 := h3.only.stay Q.out.1
      have r1 := h3.only.stay Q.out.2.1
      have r2 := h3.only.stay Q.out.2.2
      have bx := Box.new u2 x
      have a3' := H2.out.2.1.only0 (o2.alloc (.cells #[.int .u64 x.k, .int .i64 x.i] 40))
      have hst := h3.step HT.out (fun i => by have := hS.out.2 i; omega) d hdok PL.out
      have hbm : u1.heap.size ≤ u2.heap.size := o2.size
      have R3 := Lib.hid (And.intro a3' (And.intro bx (And.intro H2.out.2.2 hbm)))
      obtain ⟨bm, ebm⟩ : ∃ bm, u2.heap.size = bm := ⟨_, rfl⟩
      clear h3 o2 bx a3' f2 hbm
      go_wp2_with fail
      refine hst.mono ?_
      rintro e u3 ⟨rfl, B2, L2, hs2, S2, T2, h4, o3, -, -⟩
      have hu1 : Hid (wr.heap.size ≤ u1.heap.size) := OW.out
      have ng1 : g1 ∉ S ++ T := fun hc => by have := hlt.out g1 hc; have := R3.out.2.2.1; omega
      have nbm : u2.heap.size ∉ S ++ T := fun hc => by have := hlt.out _ hc; have := R3.out.2.2.2; have := hu1.out; omega
      have a4 := R3.out.1.only o3 ng1
      have b4 := R3.out.2.1.only o3 nbm
      have f4 := h4.bases
      rw [ebm] at b4
      (try rw [ebm])
      have HL2 : Hid (∀ i, (L2 i).length ≤ p + 1) := fun i => Nat.le_trans (hs2.len i) (by have := hS.out.2 i; omega)
      have HS2 := Lib.hid hs2
      have H4 := Lib.hid (And.intro h4 (And.intro a4 b4))
      clear h4 a4 b4 o3 hs2 hst r0 r1 r2 ng1 nbm R3 H2 ebm hu1
      go_wp2_with fail
      refine f4.mono ?_
      rintro e u5 ⟨g2, rfl, a5, -, o5⟩
      have h5 := H4.out.1.only0 o5
      obtain ⟨ab, cap, P, TT, -, hR⟩ := h5.pair.ref
      have x0 := hR.c0
      have t0 := h5.only.stay Q.out.1
      have t1 := h5.only.stay Q.out.2.1
      have t2 := h5.only.stay Q.out.2.2
      have tn : ((n : Int) != (n : Int)) = false := by simp
      have H7 : Hid (QSound w u5 qb S2 xb T2 n wd B2 L2 ∧ Arr u5 g1 29 (u64s (basesL B n)) ∧ Arr u5 g2 29 (u64s (basesL B2 n)) ∧ Box u5 bm x) := ⟨h5, H4.out.2.1.only0 o5, a5, H4.out.2.2.only o5 (by simp)⟩
      clear h5 a5 o5 f4 hR H4
      generalize qf d = q at *
      by_cases hq : q = 4 ∨ q = 5
      · obtain ⟨eB, -⟩ := HS2.out.pop hq
        rcases bestL_range L n with e | ⟨i, hi, hne, e⟩
        · obtain ⟨-, e2, e3, -⟩ := pop_none (B := B) e
          have EB : Hid (B2 = B) := by show _ = _; rw [eB, e3]
          have eok : ok = false := by rw [← EX.out.2, e2]
          subst eok
          clear eB e e2 e3
          rcases hq with rfl | rfl
          · have t4 : ((4 : Int) == 4) = true := by decide
            go_wp2_with fail
            refine (hwh _).mono ?_
            rintro e u6 ⟨rfl, o6⟩
            have s0 := o6.stay t0
            have s1 := o6.stay t1
            have s2 := o6.stay t2
            have H9 : Hid (QSound w u6 qb S2 xb T2 n wd B2 L2 ∧ Arr u6 g1 29 (u64s (basesL B n)) ∧ Arr u6 g2 29 (u64s (basesL B2 n)) ∧ Box u6 bm x) := ⟨H7.out.1.only0 o6, H7.out.2.1.only0 o6, H7.out.2.2.1.only0 o6, H7.out.2.2.2.only o6 (by simp)⟩
            clear o6 H7 t0 t1 t2 s0 s1 s2
            go_wp2_with fail
            go_loopg [15] (n + 1) (fun gz sk wr => ∃ k : Nat, sk = .int .i64 (k : Int) ∧ k ≤ n ∧ n + 1 ≤ gz + k ∧ Hid (QSound w wr qb S2 xb T2 n wd B2 L2 ∧ Arr wr g1 29 (u64s (basesL B n)) ∧ Arr wr g2 29 (u64s (basesL B2 n)) ∧ Box wr bm x))
            case atStart => exact ⟨0, rfl, by omega, by omega, H9⟩
            case round =>
              obtain ⟨k, rfl, hk, hgz, R⟩ := hrel
              clear H9
              by_cases hkl : k < n
              · have hkl' : (k : Int) < (n : Int) := by omega
                have hI : (0 : Int) ≤ (k : Int) ∧ (k : Int) < (n : Int) := by omega
                have e1 : wr.cell? ⟨g1, k, none⟩ = some (.int .u64 (B k)) := by rw [R.out.2.1.cell, u64s_at (by simpa using hkl), basesL_at B hkl]
                have e2 : wr.cell? ⟨g2, k, none⟩ = some (.int .u64 (B2 k)) := by rw [R.out.2.2.1.cell, u64s_at (by simpa using hkl), basesL_at B2 hkl]
                have m0 := R.out.2.2.2.c0
                have m1 := R.out.2.2.2.c1
                have eB : B2 k = B k := by rw [EB.out]
                rw [eB] at e2
                have te : (B k != B k) = false := by simp
                generalize B k = bk at *
                clear eB
                go_wp2_with fail
                go_quiet (fail)
                have R5 : Hid (QSound w (wr.drewN nq) qb S2 xb T2 n wd B2 L2 ∧ Arr (wr.drewN nq) g1 29 (u64s (basesL B n)) ∧ Arr (wr.drewN nq) g2 29 (u64s (basesL B2 n)) ∧ Box (wr.drewN nq) bm x) := ⟨R.out.1.only0 ((Only.refl [] wr).drewN nq), R.out.2.1.only0 ((Only.refl [] wr).drewN nq), R.out.2.2.1.only0 ((Only.refl [] wr).drewN nq), R.out.2.2.2.only ((Only.refl [] wr).drewN nq) (by simp)⟩
                generalize wr.drewN nq = w5 at *
                go_wp2_with fail
                go_roundg (n + 1 - (k + 1))
                case measure => omega
                case rel => exact ⟨k + 1, by simp, by omega, by omega, R5⟩
              · have hkl' : ¬ ((k : Int) < (n : Int)) := by omega
                have hkl2 : decide ((k : Int) < (n : Int)) = false := decide_eq_false hkl'
                go_wp2_with fail
                go_roundg (len2 + 1 - (p + 1))
                case measure => omega
                case rel => exact ⟨p + 1, S2, T2, B2, L2, by simp, by omega, by omega, by omega, R.out.1, HL2.out⟩
          · have t4 : ((5 : Int) == 4) = false := by decide
            have t5 : ((5 : Int) == 5) = true := by decide
            go_wp2_with fail
            refine (hwh _).mono ?_
            rintro e u6 ⟨rfl, o6⟩
            have s0 := o6.stay t0
            have s1 := o6.stay t1
            have s2 := o6.stay t2
            have H8 : Hid (QSound w u6 qb S2 xb T2 n wd B2 L2 ∧ Arr u6 g1 29 (u64s (basesL B n)) ∧ Arr u6 g2 29 (u64s (basesL B2 n)) ∧ Box u6 bm x) := ⟨H7.out.1.only0 o6, H7.out.2.1.only0 o6, H7.out.2.2.1.only0 o6, H7.out.2.2.2.only o6 (by simp)⟩
            clear o6 H7 t0 t1 t2
            go_wp2_with fail
            refine (hwh _).mono ?_
            rintro e u7 ⟨rfl, o7⟩
            have H9 : Hid (QSound w u7 qb S2 xb T2 n wd B2 L2 ∧ Arr u7 g1 29 (u64s (basesL B n)) ∧ Arr u7 g2 29 (u64s (basesL B2 n)) ∧ Box u7 bm x) := ⟨H8.out.1.only0 o7, H8.out.2.1.only0 o7, H8.out.2.2.1.only0 o7, H8.out.2.2.2.only o7 (by simp)⟩
            clear o7 H8 s0 s1 s2
            go_wp2_with fail
            go_loopg [15] (n + 1) (fun gz sk wr => ∃ k : Nat, sk = .int .i64 (k : Int) ∧ k ≤ n ∧ n + 1 ≤ gz + k ∧ Hid (QSound w wr qb S2 xb T2 n wd B2 L2 ∧ Arr wr g1 29 (u64s (basesL B n)) ∧ Arr wr g2 29 (u64s (basesL B2 n)) ∧ Box wr bm x))
            case atStart => exact ⟨0, rfl, by omega, by omega, H9⟩
            case round =>
              obtain ⟨k, rfl, hk, hgz, R⟩ := hrel
              clear H9
              by_cases hkl : k < n
              · have hkl' : (k : Int) < (n : Int) := by omega
                have hI : (0 : Int) ≤ (k : Int) ∧ (k : Int) < (n : Int) := by omega
                have e1 : wr.cell? ⟨g1, k, none⟩ = some (.int .u64 (B k)) := by rw [R.out.2.1.cell, u64s_at (by simpa using hkl), basesL_at B hkl]
                have e2 : wr.cell? ⟨g2, k, none⟩ = some (.int .u64 (B2 k)) := by rw [R.out.2.2.1.cell, u64s_at (by simpa using hkl), basesL_at B2 hkl]
                have m0 := R.out.2.2.2.c0
                have m1 := R.out.2.2.2.c1
                have eB : B2 k = B k := by rw [EB.out]
                rw [eB] at e2
                have te : (B k != B k) = false := by simp
                generalize B k = bk at *
                clear eB
                go_wp2_with fail
                go_quiet (fail)
                have R5 : Hid (QSound w (wr.drewN nq) qb S2 xb T2 n wd B2 L2 ∧ Arr (wr.drewN nq) g1 29 (u64s (basesL B n)) ∧ Arr (wr.drewN nq) g2 29 (u64s (basesL B2 n)) ∧ Box (wr.drewN nq) bm x) := ⟨R.out.1.only0 ((Only.refl [] wr).drewN nq), R.out.2.1.only0 ((Only.refl [] wr).drewN nq), R.out.2.2.1.only0 ((Only.refl [] wr).drewN nq), R.out.2.2.2.only ((Only.refl [] wr).drewN nq) (by simp)⟩
                generalize wr.drewN nq = w5 at *
                go_wp2_with fail
                go_roundg (n + 1 - (k + 1))
                case measure => omega
                case rel => exact ⟨k + 1, by simp, by omega, by omega, R5⟩
              · have hkl' : ¬ ((k : Int) < (n : Int)) := by omega
                have hkl2 : decide ((k : Int) < (n : Int)) = false := decide_eq_false hkl'
                go_wp2_with fail
                go_roundg (len2 + 1 - (p + 1))
                case measure => omega
                case rel => exact ⟨p + 1, S2, T2, B2, L2, by simp, by omega, by omega, by omega, R.out.1, HL2.out⟩
        · obtain ⟨e1, e2, e3, -⟩ := pop_some (B := B) e
          have ex : x = first (L i) := by rw [← EX.out.1, e1]
          have hmem : x ∈ L i := by rw [ex]; rw [first_cons hne]; exact List.mem_cons_self
          obtain ⟨hx0, hxm⟩ := HH.out.home i hi x hmem
          have EB : Hid (B2 i = x.k ∧ ∀ k, k ≠ i → B2 k = B k) := by
            rw [eB, e3, ← ex]
            exact ⟨fup_same _ _ _, fun k hk => fup_other _ _ hk⟩
          have eok : ok = true := by rw [← EX.out.2, e2]
          subst eok
          have htm : x.i.tmod (n : Int) = (i : Int) := by rw [Int.tmod_eq_emod_of_nonneg hx0]; exact hxm
          have hx0' : decide (0 ≤ x.i) = true := decide_eq_true hx0
          have hn0 : ¬ (n : Int) = 0 := by omega
          have hn0' : ¬ n = 0 := by omega
          clear eB e e1 e2 e3 ex hmem hxm hne
          rcases hq with rfl | rfl
          · have t4 : ((4 : Int) == 4) = true := by decide
            go_wp2_with fail
            refine (hwh _).mono ?_
            rintro e u6 ⟨rfl, o6⟩
            have s0 := o6.stay t0
            have s1 := o6.stay t1
            have s2 := o6.stay t2
            have H9 : Hid (QSound w u6 qb S2 xb T2 n wd B2 L2 ∧ Arr u6 g1 29 (u64s (basesL B n)) ∧ Arr u6 g2 29 (u64s (basesL B2 n)) ∧ Box u6 bm x) := ⟨H7.out.1.only0 o6, H7.out.2.1.only0 o6, H7.out.2.2.1.only0 o6, H7.out.2.2.2.only o6 (by simp)⟩
            clear o6 H7 t0 t1 t2 s0 s1 s2
            go_wp2_with fail
            go_loopg [15] (n + 1) (fun gz sk wr => ∃ k : Nat, sk = .int .i64 (k : Int) ∧ k ≤ n ∧ n + 1 ≤ gz + k ∧ Hid (QSound w wr qb S2 xb T2 n wd B2 L2 ∧ Arr wr g1 29 (u64s (basesL B n)) ∧ Arr wr g2 29 (u64s (basesL B2 n)) ∧ Box wr bm x))
            case atStart => exact ⟨0, rfl, by omega, by omega, H9⟩
            case round =>
              obtain ⟨k, rfl, hk, hgz, R⟩ := hrel
              clear H9
              by_cases hkl : k < n
              · have hkl' : (k : Int) < (n : Int) := by omega
                have hI : (0 : Int) ≤ (k : Int) ∧ (k : Int) < (n : Int) := by omega
                have e1 : wr.cell? ⟨g1, k, none⟩ = some (.int .u64 (B k)) := by rw [R.out.2.1.cell, u64s_at (by simpa using hkl), basesL_at B hkl]
                have e2 : wr.cell? ⟨g2, k, none⟩ = some (.int .u64 (B2 k)) := by rw [R.out.2.2.1.cell, u64s_at (by simpa using hkl), basesL_at B2 hkl]
                have m0 := R.out.2.2.2.c0
                have m1 := R.out.2.2.2.c1
                by_cases hki : k = i
                · subst hki
                  have eB : B2 k = x.k := EB.out.1
                  rw [eB] at e2
                  have te : (x.k != x.k) = false := by simp
                  have tk : ((k : Int) == (k : Int)) = true := by simp
                  generalize B k = bk at *
                  clear eB
                  go_wp2_with fail
                  go_quiet (fail)
                  have R5 : Hid (QSound w (wr.drewN nq) qb S2 xb T2 n wd B2 L2 ∧ Arr (wr.drewN nq) g1 29 (u64s (basesL B n)) ∧ Arr (wr.drewN nq) g2 29 (u64s (basesL B2 n)) ∧ Box (wr.drewN nq) bm x) := ⟨R.out.1.only0 ((Only.refl [] wr).drewN nq), R.out.2.1.only0 ((Only.refl [] wr).drewN nq), R.out.2.2.1.only0 ((Only.refl [] wr).drewN nq), R.out.2.2.2.only ((Only.refl [] wr).drewN nq) (by simp)⟩
                  generalize wr.drewN nq = w5 at *
                  go_wp2_with fail
                  go_roundg (n + 1 - (k + 1))
                  case measure => omega
                  case rel => exact ⟨k + 1, by simp, by omega, by omega, R5⟩
                · have eB : B2 k = B k := EB.out.2 k hki
                  rw [eB] at e2
                  have te : (B k != B k) = false := by simp
                  have tk : ((i : Int) == (k : Int)) = false := by simp; omega
                  generalize B k = bk at *
                  clear eB
                  go_wp2_with fail
                  go_quiet (fail)
                  have R5 : Hid (QSound w (wr.drewN nq) qb S2 xb T2 n wd B2 L2 ∧ Arr (wr.drewN nq) g1 29 (u64s (basesL B n)) ∧ Arr (wr.drewN nq) g2 29 (u64s (basesL B2 n)) ∧ Box (wr.drewN nq) bm x) := ⟨R.out.1.only0 ((Only.refl [] wr).drewN nq), R.out.2.1.only0 ((Only.refl [] wr).drewN nq), R.out.2.2.1.only0 ((Only.refl [] wr).drewN nq), R.out.2.2.2.only ((Only.refl [] wr).drewN nq) (by simp)⟩
                  generalize wr.drewN nq = w5 at *
                  go_wp2_with fail
                  go_roundg (n + 1 - (k + 1))
                  case measure => omega
                  case rel => exact ⟨k + 1, by simp, by omega, by omega, R5⟩
              · have hkl' : ¬ ((k : Int) < (n : Int)) := by omega
                have hkl2 : decide ((k : Int) < (n : Int)) = false := decide_eq_false hkl'
                go_wp2_with fail
                go_roundg (len2 + 1 - (p + 1))
                case measure => omega
                case rel => exact ⟨p + 1, S2, T2, B2, L2, by simp, by omega, by omega, by omega, R.out.1, HL2.out⟩
          · have t4 : ((5 : Int) == 4) = false := by decide
            have t5 : ((5 : Int) == 5) = true := by decide
            go_wp2_with fail
            refine (hwh _).mono ?_
            rintro e u6 ⟨rfl, o6⟩
            have s0 := o6.stay t0
            have s1 := o6.stay t1
            have s2 := o6.stay t2
            have H8 : Hid (QSound w u6 qb S2 xb T2 n wd B2 L2 ∧ Arr u6 g1 29 (u64s (basesL B n)) ∧ Arr u6 g2 29 (u64s (basesL B2 n)) ∧ Box u6 bm x) := ⟨H7.out.1.only0 o6, H7.out.2.1.only0 o6, H7.out.2.2.1.only0 o6, H7.out.2.2.2.only o6 (by simp)⟩
            clear o6 H7 t0 t1 t2
            go_wp2_with fail
            refine (hwh _).mono ?_
            rintro e u7 ⟨rfl, o7⟩
            have H9 : Hid (QSound w u7 qb S2 xb T2 n wd B2 L2 ∧ Arr u7 g1 29 (u64s (basesL B n)) ∧ Arr u7 g2 29 (u64s (basesL B2 n)) ∧ Box u7 bm x) := ⟨H8.out.1.only0 o7, H8.out.2.1.only0 o7, H8.out.2.2.1.only0 o7, H8.out.2.2.2.only o7 (by simp)⟩
            clear o7 H8 s0 s1 s2
            go_wp2_with fail
            go_loopg [15] (n + 1) (fun gz sk wr => ∃ k : Nat, sk = .int .i64 (k : Int) ∧ k ≤ n ∧ n + 1 ≤ gz + k ∧ Hid (QSound w wr qb S2 xb T2 n wd B2 L2 ∧ Arr wr g1 29 (u64s (basesL B n)) ∧ Arr wr g2 29 (u64s (basesL B2 n)) ∧ Box wr bm x))
            case atStart => exact ⟨0, rfl, by omega, by omega, H9⟩
            case round =>
              obtain ⟨k, rfl, hk, hgz, R⟩ := hrel
              clear H9
              by_cases hkl : k < n
              · have hkl' : (k : Int) < (n : Int) := by omega
                have hI : (0 : Int) ≤ (k : Int) ∧ (k : Int) < (n : Int) := by omega
                have e1 : wr.cell? ⟨g1, k, none⟩ = some (.int .u64 (B k)) := by rw [R.out.2.1.cell, u64s_at (by simpa using hkl), basesL_at B hkl]
                have e2 : wr.cell? ⟨g2, k, none⟩ = some (.int .u64 (B2 k)) := by rw [R.out.2.2.1.cell, u64s_at (by simpa using hkl), basesL_at B2 hkl]
                have m0 := R.out.2.2.2.c0
                have m1 := R.out.2.2.2.c1
                by_cases hki : k = i
                · subst hki
                  have eB : B2 k = x.k := EB.out.1
                  rw [eB] at e2
                  have te : (x.k != x.k) = false := by simp
                  have tk : ((k : Int) == (k : Int)) = true := by simp
                  generalize B k = bk at *
                  clear eB
                  go_wp2_with fail
                  go_quiet (fail)
                  have R5 : Hid (QSound w (wr.drewN nq) qb S2 xb T2 n wd B2 L2 ∧ Arr (wr.drewN nq) g1 29 (u64s (basesL B n)) ∧ Arr (wr.drewN nq) g2 29 (u64s (basesL B2 n)) ∧ Box (wr.drewN nq) bm x) := ⟨R.out.1.only0 ((Only.refl [] wr).drewN nq), R.out.2.1.only0 ((Only.refl [] wr).drewN nq), R.out.2.2.1.only0 ((Only.refl [] wr).drewN nq), R.out.2.2.2.only ((Only.refl [] wr).drewN nq) (by simp)⟩
                  generalize wr.drewN nq = w5 at *
                  go_wp2_with fail
                  go_roundg (n + 1 - (k + 1))
                  case measure => omega
                  case rel => exact ⟨k + 1, by simp, by omega, by omega, R5⟩
                · have eB : B2 k = B k := EB.out.2 k hki
                  rw [eB] at e2
                  have te : (B k != B k) = false := by simp
                  have tk : ((i : Int) == (k : Int)) = false := by simp; omega
                  generalize B k = bk at *
                  clear eB
                  go_wp2_with fail
                  go_quiet (fail)
                  have R5 : Hid (QSound w (wr.drewN nq) qb S2 xb T2 n wd B2 L2 ∧ Arr (wr.drewN nq) g1 29 (u64s (basesL B n)) ∧ Arr (wr.drewN nq) g2 29 (u64s (basesL B2 n)) ∧ Box (wr.drewN nq) bm x) := ⟨R.out.1.only0 ((Only.refl [] wr).drewN nq), R.out.2.1.only0 ((Only.refl [] wr).drewN nq), R.out.2.2.1.only0 ((Only.refl [] wr).drewN nq), R.out.2.2.2.only ((Only.refl [] wr).drewN nq) (by simp)⟩
                  generalize wr.drewN nq = w5 at *
                  go_wp2_with fail
                  go_roundg (n + 1 - (k + 1))
                  case measure => omega
                  case rel => exact ⟨k + 1, by simp, by omega, by omega, R5⟩
              · have hkl' : ¬ ((k : Int) < (n : Int)) := by omega
                have hkl2 : decide ((k : Int) < (n : Int)) = false := decide_eq_false hkl'
                go_wp2_with fail
                go_roundg (len2 + 1 - (p + 1))
                case measure => omega
                case rel => exact ⟨p + 1, S2, T2, B2, L2, by simp, by omega, by omega, by omega, R.out.1, HL2.out⟩
      · have EB := Lib.hid (HS2.out.not hq)
        have t4 : ((q : Int) == 4) = false := by simp; omega
        have t5 : ((q : Int) == 5) = false := by simp; omega
        clear hq
        go_wp2_with fail
        refine (hwh _).mono ?_
        rintro e u6 ⟨rfl, o6⟩
        have s0 := o6.stay t0
        have s1 := o6.stay t1
        have s2 := o6.stay t2
        have H8 : Hid (QSound w u6 qb S2 xb T2 n wd B2 L2 ∧ Arr u6 g1 29 (u64s (basesL B n)) ∧ Arr u6 g2 29 (u64s (basesL B2 n)) ∧ Box u6 bm x) := ⟨H7.out.1.only0 o6, H7.out.2.1.only0 o6, H7.out.2.2.1.only0 o6, H7.out.2.2.2.only o6 (by simp)⟩
        clear o6 H7 t0 t1 t2
        go_wp2_with fail
        refine (hwh _).mono ?_
        rintro e u7 ⟨rfl, o7⟩
        have H9 : Hid (QSound w u7 qb S2 xb T2 n wd B2 L2 ∧ Arr u7 g1 29 (u64s (basesL B n)) ∧ Arr u7 g2 29 (u64s (basesL B2 n)) ∧ Box u7 bm x) := ⟨H8.out.1.only0 o7, H8.out.2.1.only0 o7, H8.out.2.2.1.only0 o7, H8.out.2.2.2.only o7 (by simp)⟩
        clear o7 H8 s0 s1 s2
        go_wp2_with fail
        go_loopg [15] (n + 1) (fun gz sk wr => ∃ k : Nat, sk = .int .i64 (k : Int) ∧ k ≤ n ∧ n + 1 ≤ gz + k ∧ Hid (QSound w wr qb S2 xb T2 n wd B2 L2 ∧ Arr wr g1 29 (u64s (basesL B n)) ∧ Arr wr g2 29 (u64s (basesL B2 n)) ∧ Box wr bm x))
        case atStart => exact ⟨0, rfl, by omega, by omega, H9⟩
        case round =>
          obtain ⟨k, rfl, hk, hgz, R⟩ := hrel
          clear H9
          by_cases hkl : k < n
          · have hkl' : (k : Int) < (n : Int) := by omega
            have hI : (0 : Int) ≤ (k : Int) ∧ (k : Int) < (n : Int) := by omega
            have e1 : wr.cell? ⟨g1, k, none⟩ = some (.int .u64 (B k)) := by rw [R.out.2.1.cell, u64s_at (by simpa using hkl), basesL_at B hkl]
            have e2 : wr.cell? ⟨g2, k, none⟩ = some (.int .u64 (B2 k)) := by rw [R.out.2.2.1.cell, u64s_at (by simpa using hkl), basesL_at B2 hkl]
            have m0 := R.out.2.2.2.c0
            have m1 := R.out.2.2.2.c1
            have eB : B2 k = B k := by rw [EB.out]
            rw [eB] at e2
            have te : (B k != B k) = false := by simp
            generalize B k = bk at *
            clear eB
            go_wp2_with fail
            go_quiet (fail)
            have R5 : Hid (QSound w (wr.drewN nq) qb S2 xb T2 n wd B2 L2 ∧ Arr (wr.drewN nq) g1 29 (u64s (basesL B n)) ∧ Arr (wr.drewN nq) g2 29 (u64s (basesL B2 n)) ∧ Box (wr.drewN nq) bm x) := ⟨R.out.1.only0 ((Only.refl [] wr).drewN nq), R.out.2.1.only0 ((Only.refl [] wr).drewN nq), R.out.2.2.1.only0 ((Only.refl [] wr).drewN nq), R.out.2.2.2.only ((Only.refl [] wr).drewN nq) (by simp)⟩
            generalize wr.drewN nq = w5 at *
            go_wp2_with fail
            go_roundg (n + 1 - (k + 1))
            case measure => omega
            case rel => exact ⟨k + 1, by simp, by omega, by omega, R5⟩
          · have hkl' : ¬ ((k : Int) < (n : Int)) := by omega
            have hkl2 : decide ((k : Int) < (n : Int)) = false := decide_eq_false hkl'
            go_wp2_with fail
            go_roundg (len2 + 1 - (p + 1))
            case measure => omega
            case rel => exact ⟨p + 1, S2, T2, B2, L2, by simp, by omega, by omega, by omega, R.out.1, HL2.out⟩
    · have hcd : (decide ((p : Int) < (len2 : Int)) = false ∧ ¬ ((p : Int) < (len2 : Int))) ∨ ((p : Int) < (len2 : Int) ∧ decide ((p : Int) < 60) = false) := by
        have hce : ¬ p < len2 ∨ (p < len2 ∧ ¬ p < 60) := by omega
        rcases hce with h9 | h9
        · exact .inl ⟨decide_eq_false (by omega), by omega⟩
        · exact .inr ⟨by omega, decide_eq_false (by omega)⟩
      clear hc hp
      rcases hcd with ⟨c1, c2⟩ | ⟨c1, c2⟩
      all_goals
        go_wp2_with fail
        go_ret
        exact ⟨by simp, hS.out.1.only.below (Nat.le_refl _) (by simp)⟩

/-! ### The step from the walk to the row -/
set_option maxRecDepth 100000 in
theorem lifted (os : Os) (started : os.Started) (H : Type) (enc : TypeId × Value → H) :
    ReturnsInHanded {} Tryz.checked os 6 .any (fun w args => (Rows.queueBasesSpec.pre enc Tryz.prog Tryz.f6 [] false w args ∧ laidMetH Tryz.prog listed w) ∧ sizedMet enc Tryz.prog Tryz.f6 (OpenSpec.ofChange Rows.queueBasesSpec) false w args)
      (Rows.queueBasesSpec.post enc Tryz.prog Tryz.f6 false true false false) := by
  refine returnsInHanded_of_change_and (C := Tryz.checked) (X := fun w _ => laidMetH Tryz.prog listed w) (fun _ _ _ hh h => h.of_heap hh) own started (by kernel_rfl) Tryz.func6
    (ChangeSpec.witness_shaped (enc := enc) (C := Tryz.checked) (os := os) (X := fun w _ => laidMetH Tryz.prog listed w) false (World.doorLaid Tryz.prog 14 os) #[.int .i64 0, .int .i64 0, .slice none 0 0] 8 rfl (World.shaped_of_RefB (by kernel_rfl) (by kernel_rfl)) (by kernel_rfl) (by kernel_rfl) (by kernel_rfl) (door_met os _)) ?_
  intro W base args ds gs before hval0 hW _ _ hL _
  have hval : ∀ (j : Nat) t v, Tryz.f6.params[j]? = some t → args[j]? = some v → Value.okWide Tryz.prog W .any base t v := hval0
  have hW' := hW
  obtain ⟨p, q, hA0, hV, rfl, hfz, hnd⟩ := hW
  have hA : DataW.TrodAll enc Tryz.prog W 0 (fun _ => true) true Tryz.f6.params.toList args.toList ds p := hA0
  rw [Tryz.params6] at hA hval
  obtain ⟨v0, vs0, d0, ds0, p0, q0, hargs, rfl, rfl, h0, r0⟩ := trodAll_cons hA
  obtain ⟨v1, vs1, d1, ds1, p1, q1, rfl, rfl, rfl, h1, r1⟩ := trodAll_cons r0
  obtain ⟨v2, vs2, d2, ds2, p2, q2, rfl, rfl, rfl, h2, r2⟩ := trodAll_cons r1
  obtain ⟨rfl, rfl, rfl⟩ := trodAll_nil r2
  obtain rfl : args = #[v0, v1, v2] := by cases args; simp_all
  obtain ⟨rfl, rfl⟩ := trodVars_none hV
  obtain ⟨a0, rfl, rfl, rfl, w0⟩ := open_int Tryz.underlying3 (hval 0 3 v0 rfl rfl) h0
  obtain ⟨a1, rfl, rfl, rfl, w1⟩ := open_int Tryz.underlying3 (hval 1 3 v1 rfl rfl) h1
  obtain ⟨a2, len2, cap2, rfl⟩ := okWide_slice Tryz.underlying22 (hval 2 22 v2 rfl rfl)
  have k2 := h2
  have lt2 : ∀ x ∈ p2, x.block < W.heap.size := by obtain ⟨m, hm⟩ := k2; exact DataW.trod_lt m _ _ _ hm
  obtain ⟨z2, w2⟩ : ∃ z, InDeeds W a2 len2 z := by
    obtain ⟨fuel, hf⟩ := h2
    exact open_deeds hf
  clear hA0 hval0
  refine (walk a0 a1 a2 len2 cap2 z2 W w0 w1 w2 (tab_of_laid hL)).mono fun e W' ⟨he, bel⟩ => ?_
  subst he
  exact ⟨_, rfl, _, _, _, [], _, [], hW', trodAll_mk1 (shut_bool Tryz.underlying4 _), (trodAll_cons_mk (shut_int Tryz.underlying3 w0) (trodAll_cons_mk (shut_int Tryz.underlying3 w1) (trodAll_cons_mk (Below.trod laidOut (by kernel_rfl) (of_decide_eq_true (by kernel_rfl)) k2 bel lt2) trodAll_mk0))), rfl, bel.frame _, fun h => by cases h⟩

theorem over : Rows.queueBasesRow.holds Tryz.pinned (OpenSpec.ofChange Rows.queueBasesSpec) :=
  OpenClaim.holds_of_wide 6 Tryz.f6 rfl rfl rfl rfl rfl rfl rfl ⟨rfl, rfl, rfl, rfl, rfl⟩ rfl rfl rfl rfl rfl (by kernel_rfl) Tryz.func6 (by kernel_rfl)
    (of_decide_eq_true (by kernel_rfl)) (by unfold Func.isWrapper; first | (rw [if_pos (by decide +kernel)]; kernel_rfl) | (rw [if_neg (by decide +kernel)]; exact ⟨rfl, rfl⟩))
    (fun os started H enc _ => lifted os started H enc)

/-- The statement: the card, its listed variable tied to the program's text. -/
theorem proved : Rows.QueueBasesCardSaid :=
  Claim7.holds_tied_plain_at .later [] [.data] true (true, "26507875017e3a76b118212d847f60c59ebd9d430d2b04233b1df170ce6b2d7f") false
    over (fun _ h => by cases h) (by kernel_rfl) (fun _ h => by cases h) queueBases_row_tie rfl ⟨rfl, rfl⟩ (by kernel_rfl) rfl
    (fun f fn hf hfn => by
      obtain rfl : f = 6 := Option.some.inj ((show Tryz.prog.funcNamed "weighbridge/weighbridgelaw08.QueueBases" = some 6 by kernel_rfl).symm.trans hf) |>.symm
      obtain rfl : fn = Tryz.f6 := (Option.some.inj (Tryz.func6.symm.trans hfn)).symm
      exact ⟨by kernel_rfl, fun j t ht => by
        rw [Tryz.params6] at ht
        have hm : t ∈ [3, 3, 22] := by simpa using Array.mem_of_getElem? ht
        have hall : ([3, 3, 22].all fun u => !Tryz.prog.wantsStandIn u) = true := by kernel_rfl
        exact (show Tryz.prog.wantsStandIn t = false by simpa using List.all_eq_true.1 hall t hm)⟩)
    (by kernel_rfl)
#print axioms proved
end Go.Proofs.YtajhkdbldbifeaaGreatDoor.queueBases
