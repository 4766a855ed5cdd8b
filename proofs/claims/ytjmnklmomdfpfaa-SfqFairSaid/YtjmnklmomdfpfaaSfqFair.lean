/-
  weighbridgelaw10.SfqFair returns true for every input, and leaves its arguments as they were. No condition but that the arguments are values of their types.
-/
import Derived.Test.YtjmnklmomdfpfaaRows
import Derived.Test.YtjmnklmomdfpfaaSfqE
import Derived.WalkKit
import Derived.ProofKit
import Derived.OpenShut
import Derived.ChangeOld
import Derived.Below
namespace Go.Proofs.Ytjmnklmomdfpfaa.sfqFair
open Go.ChangeShapes Go.WideShapes Go.ChangeAt Go.RowKit
set_option linter.unusedVariables false
set_option linter.unusedSimpArgs false

set_option maxRecDepth 100000 in
set_option maxHeartbeats 8000000 in
theorem walk (a0 : Int) (a1 : Int) (a2 : Option Addr) (len2 cap2 : Nat) (z2 : Nat → Int) (a3 : Option Addr) (len3 cap3 : Nat) (z3 : Nat → Int) (w : World) (w0 : (Lit.int .u64 a0).wf = true) (w1 : (Lit.int .u64 a1).wf = true) (w2 : InNums .i64 w a2 len2 z2) (w3 : InNums .i64 w a3 len3 z3) :
    Calls Try.prog 7 #[.int .u64 a0, .int .u64 a1, .slice a2 len2 cap2, .slice a3 len3 cap3] w fun e w' => e = .returned (.bool true) ∧ Below w.heap.size w w' := by
  have W2 := Lib.hid w2
  have W3 := Lib.hid w3
  obtain ⟨u0, u1⟩ := U64.of_wf w0
  obtain ⟨u2, u3⟩ := U64.of_wf w1
  clear w0 w1 w2 w3
  obtain ⟨r, hr⟩ : ∃ r, 1 + a0 % 100000 = r := ⟨_, rfl⟩
  obtain ⟨q, hq⟩ : ∃ q, 1 + a1 % 100000 = q := ⟨_, rfl⟩
  have hr1 : 1 ≤ r := by omega
  have hr2 : r ≤ 100000 := by omega
  have hq1 : 1 ≤ q := by omega
  have hq2 : q ≤ 100000 := by omega
  obtain ⟨r7, hr7⟩ : ∃ r7, 1 + r % 7 = r7 := ⟨_, rfl⟩
  have h71 : 1 ≤ r7 := by omega
  have h72 : r7 ≤ 7 := by omega
  have l1 := Sq.add_len Sq.new 1 r (room 2)
  have l2 := Sq.add_len (Sq.new.add 1 r (room 2)) 2 q (room 2)
  have l0 : Sq.new.l.length = 0 := rfl
  have g1 : hasK Sq.new.l 1 = false := rfl
  have g2 : hasK (Sq.new.add 1 r (room 2)).l 2 = false := by simp [Sq.add, Sq.new, hasK, insK, posK, Fl.new]
  have g3 : hasK ((Sq.new.add 1 r (room 2)).add 2 q (room 2)).l 3 = false := by simp [Sq.add, Sq.new, hasK, insK, posK, Fl.new]
  have hl9 : Hid ((Sq.new.add 1 r (room 2)).l.length < 1000 ∧ ((Sq.new.add 1 r (room 2)).add 2 q (room 2)).l.length < 1000) := ⟨by omega, by omega⟩
  clear l0 l1 l2
  go_enter Try.func7, Try.ntmps7
  go_wp2_with fail
  refine (sNew w).mono ?_
  rintro e v1 ⟨rfl, h1, o1⟩
  have H1 := Lib.hid (q1_new h1 o1)
  clear h1 o1
  by_cases hz : len2 = 0
  · have hz' : ((len2 : Int) == 0) = true := by simp [hz]
    have hz'' : decide ((len2 : Int) = 0) = true := by simp [hz]
    subst hz
    go_wp2_with (first
      | (go_at_call 11; refine (sAwake _).mono ?_; rintro e v2 ⟨rfl, o2⟩; have H2 := Lib.hid (H1.out.only0 o2); clear o2; have H1 := H2; clear H2))
    go_ret
    exact ⟨rfl, H1.out.only.below (Nat.le_refl _) (by simp)⟩
  · have hz' : ((len2 : Int) == 0) = false := by simp [hz]
    have hz0 : ¬ ((len2 : Int) = 0) := by omega
    have hzp : (0 : Int) < (len2 : Int) := by omega
    go_wp2_with fail
    refine (sAwake _).mono ?_
    rintro e v2 ⟨rfl, o2⟩
    have H2 := Lib.hid (H1.out.only0 o2)
    have k1 := H2.out.add 1 r 2 (i64_of (by decide)) (by unfold U64; omega) (by decide)
    rw [g1] at k1
    clear o2 H1
    go_wp2_with fail
    refine k1.mono ?_
    rintro e v3 ⟨rfl, O3, h3⟩
    have k2 := h3.add 2 q 2 (i64_of (by decide)) (by unfold U64; omega) hl9.out.1
    rw [g2] at k2
    clear h3 k1 H2
    go_wp2_with fail
    refine k2.mono ?_
    rintro e v4 ⟨rfl, O4, h4⟩
    have k3 := h4.add 3 r7 8 (i64_of (by decide)) (by unfold U64; omega) hl9.out.2
    rw [g3] at k3
    clear h4 k2
    go_wp2_with fail
    refine k3.mono ?_
    rintro e v5 ⟨rfl, O5, h5⟩
    have H5 : Hid (Fa w _ w.heap.size _ O5 v5.heap.size 0 0 0 0 0 0 r q ∧ Sf _ (Fl.new r 2) (Fl.new q 2) (Fl.new r7 8) r q 0 0 0 0 0) := ⟨Fa.start h5, Sf.start (r3 := r7) ⟨hr1, hr2⟩ ⟨hq1, hq2⟩⟩
    clear h5 k3 g1 g2 g3 hl9 hr7 h71 h72
    go_wp2_with fail
    generalize (((v5.alloc (.cells #[.int .i64 0, .int .i64 0, .int .i64 0] 55)).alloc (.cells #[.int .u64 0, .int .u64 0, .int .u64 0] 56)).alloc (.cells #[.int .u64 0, .int .u64 0, .int .u64 0] 56)).alloc (.cells #[.int .u64 0, .int .u64 r, .int .u64 q] 56) = V5 at *
    generalize ((Sq.new.add 1 r (room 2)).add 2 q (room 2)).add 3 r7 (room 8) = S5 at *
    generalize v5.heap.size = nb at *
    clear hr hq u0 u1 u2 u3
    go_loopg [14] 61 (fun gk si wr => ∃ (i : Nat) (S : Sq) (O : List Nat) (F1 F2 F3 : Fl) (n1 n2 : Nat) (C1 C2 D1 D2 : Int), si = .int .i64 (i : Int) ∧ i ≤ 60 ∧ 61 ≤ gk + i ∧ n1 ≤ 2 * i ∧ n2 ≤ 2 * i ∧ Hid (Fa w wr w.heap.size S O nb (n1 : Int) (n2 : Int) C1 C2 D1 D2 r q ∧ Sf S F1 F2 F3 r q C1 C2 D1 D2 ((i : Int) * 300000000)))
    case atStart => exact ⟨0, _, _, _, _, _, 0, 0, 0, 0, 0, 0, rfl, by omega, by omega, by omega, by omega, H5.out.1, by simpa using H5.out.2⟩
    case round =>
      obtain ⟨i, S, O, F1, F2, F3, n1, n2, C1, C2, D1, D2, rfl, hi, hg, hn1, hn2, HA⟩ := hrel
      clear H5
      by_cases hi6 : i < 60
      · have hi6' : (i : Int) < 60 := by omega
        go_wp2_with fail
        go_loopg [15] 4 (fun gk sf wr => ∃ (f : Nat) (S : Sq) (O : List Nat) (F1 F2 F3 : Fl) (n1 n2 : Nat) (C1 C2 D1 D2 : Int), sf = .int .i64 (f : Int) ∧ 1 ≤ f ∧ f ≤ 3 ∧ 4 ≤ gk + f ∧ n1 ≤ 2 * i + 2 ∧ n2 ≤ 2 * i + 2 ∧ (f ≤ 1 → n1 ≤ 2 * i) ∧ (f ≤ 2 → n2 ≤ 2 * i) ∧ Hid (Fa w wr w.heap.size S O nb (n1 : Int) (n2 : Int) C1 C2 D1 D2 r q ∧ Sf S F1 F2 F3 r q C1 C2 D1 D2 ((i : Int) * 300000000) ∧ (2 ≤ f → F1.l.length = 2) ∧ (3 ≤ f → F2.l.length = 2)))
        case atStart => exact ⟨1, S, O, F1, F2, F3, n1, n2, C1, C2, D1, D2, rfl, by omega, by omega, by omega, by omega, by omega, fun _ => hn1, fun _ => hn2, HA.out.1, HA.out.2, fun h => absurd h (by omega), fun h => absurd h (by omega)⟩
        case round =>
          clear HA hn1 hn2
          obtain ⟨f, S, O, F1, F2, F3, n1, n2, C1, C2, D1, D2, rfl, hf1, hf3, hgf, hm1, hm2, hn1, hn2, HA⟩ := hrel
          have hcs : f = 1 ∨ f = 2 ∨ f = 3 := by omega
          rcases hcs with rfl | rfl | rfl
          · have hn1 := hn1 (by omega)
            have hn2 := hn2 (by omega)
            have HB : Hid (Fa w wr w.heap.size S O nb (n1 : Int) (n2 : Int) C1 C2 D1 D2 r q ∧ Sf S F1 F2 F3 r q C1 C2 D1 D2 ((i : Int) * 300000000) ∧ 0 ≤ F1.l.length) := ⟨HA.out.1, HA.out.2.1, Nat.zero_le _⟩
            have HL := Lib.hid HA.out.2.2
            clear HA
            go_wp2_with fail
            go_loopg [16] 3 (fun gk sk wr => ∃ (k : Nat) (S : Sq) (O : List Nat) (F1 : Fl) (n1 : Nat) (D1 : Int), sk = .int .i64 (k : Int) ∧ k ≤ 2 ∧ 3 ≤ gk + k ∧ n1 ≤ 2 * i + k ∧ Hid (Fa w wr w.heap.size S O nb (n1 : Int) (n2 : Int) C1 C2 D1 D2 r q ∧ Sf S F1 F2 F3 r q C1 C2 D1 D2 ((i : Int) * 300000000) ∧ k ≤ F1.l.length))
            case atStart => exact ⟨0, S, O, F1, n1, D1, rfl, by omega, by omega, by omega, HB⟩
            case round =>
              clear HB
              clear hn1
              obtain ⟨k, S, O, F1, n1, D1, rfl, hk, hgk, hnk, HA⟩ := hrel
              by_cases hk2 : k < 2
              · have hk2' : (k : Int) < 2 := by omega
                obtain ⟨j, ej⟩ : ∃ j, (n1 + 7) % len2 = j := ⟨_, rfl⟩
                have hj : j < len2 := by rw [← ej]; exact Nat.mod_lt _ (by omega)
                have hjt : Int.tmod ((n1 : Int) + 7) (len2 : Int) = (j : Int) := by rw [← ej, show ((n1 : Int) + 7) = ((n1 + 7 : Nat) : Int) by simp]; exact (Int.ofNat_tmod _ _).symm
                have hje : ((n1 : Int) + 7) % (len2 : Int) = (j : Int) := by rw [← ej]; simp
                have hj' : (j : Int) < (len2 : Int) := by omega
                obtain ⟨hzw, ad, rfl, hadb, hadc⟩ := W2.out j hj
                have hcz := HA.out.1.one.only.stays hadc
                obtain ⟨b0, b1⟩ := modI_lt (z2 j) (n := 3000) (by decide)
                have md := fun w => sMod (z2 j) 3000 (by decide) (by decide) w
                generalize modI (z2 j) 3000 = m at *
                obtain ⟨nn, enn⟩ : ∃ nn, 1 + m = nn := ⟨_, rfl⟩
                have nn1 : 1 ≤ nn := by omega
                have nn2 : nn ≤ 3000 := by omega
                have pok : Hid ((⟨1, nn, 0⟩ : Pk).ok) := ⟨i64_of (by simp), i64_of (by simp; omega), i64_of (by simp)⟩
                obtain ⟨x1, x2, x3, x4⟩ := HA.out.1.n.c
                clear ej hzw hadb hadc
                go_wp2_with fail
                refine (md _).mono ?_
                rintro e t0 ⟨rfl, rfl⟩
                have har := Lib.hid (HA.out.1.arr ⟨1, nn, 0⟩ pok.out)
                have hcs := Lib.hid (HA.out.2.1.arr1 nn1 nn2)
                have hkl := Lib.hid HA.out.2.2
                obtain ⟨E, eE⟩ : ∃ E, S.arrE ⟨1, nn, 0⟩ = E := ⟨_, rfl⟩
                rw [eE] at har hcs
                clear md eE HA x1 x2 x3 x4 hcz
                generalize S.arr ⟨1, nn, 0⟩ = S2 at *
                go_wp2_with fail
                refine har.out.mono ?_
                rintro e t1 ⟨rfl, O2, h2⟩
                have H2 := Lib.hid h2
                clear h2 har
                rcases hcs.out with ⟨e0, G, hG, hSf⟩ | ⟨e0, hG, hSf⟩
                · subst e0
                  obtain ⟨nr, hnr⟩ : ∃ nr, nn * r = nr := ⟨_, rfl⟩
                  obtain ⟨_, c2, c3⟩ := costM_is nn1 nn2 hr1 hr2
                  rw [hnr] at c2 c3 hSf
                  have wnr : IntKind.u64.wrap (nn * r) = nr := by rw [hnr, IntKind.wrap_u64]; omega
                  obtain ⟨MD, hMD⟩ : ∃ MD, max D1 nr = MD := ⟨_, rfl⟩
                  have hM2 : (if D1 < nr then nr else D1) = MD := by rw [← hMD]; split <;> omega
                  have hM3 : (if nr < D1 then D1 else nr) = MD := by rw [← hMD]; split <;> omega
                  rw [hMD] at hSf
                  have HSf := Lib.hid (And.intro hSf hG)
                  obtain ⟨x1, x2, x3, x4⟩ := H2.out.n.c
                  clear hSf hG hcs
                  go_wp2_with fail
                  have h3 := H2.out.setn1 ((n1 : Int) + 1)
                  generalize t1.setCell ⟨nb, 1, none⟩ (.int .i64 ((n1 : Int) + 1)) = V at *
                  have H3 := Lib.hid h3
                  obtain ⟨x1, x2, x3, x4⟩ := h3.n.c
                  obtain ⟨y1, y2, y3, y4⟩ := h3.d.c
                  obtain ⟨z1, z2', z3', z4⟩ := h3.rt.c
                  clear h3 H2
                  go_still_tail 12, (by kernel_rfl)
                  change wpList _ _ _ _ _ V.drew
                  go_wp2_with fail
                  have H4 := Lib.hid ((H3.out.setd1 MD).only0 ((Only.refl [] _).drew))
                  go_roundg (3 - (k + 1))
                  case measure => omega
                  case rel => exact ⟨k + 1, S2, O2, G, n1 + 1, MD, by simp, by omega, by omega, by omega, by simpa using H4.out, HSf.out.1, by rw [HSf.out.2]; have := hkl.out; omega⟩
                · have e1 : (E == 0) = false := by simp [e0]
                  have HSf := Lib.hid (And.intro hSf hG)
                  clear hSf hG hcs
                  go_wp2_with fail
                  go_roundg (3 - (k + 1))
                  case measure => omega
                  case rel => exact ⟨k + 1, S2, O2, F1, n1, D1, by simp, by omega, by omega, by omega, H2.out, HSf.out.1, by have := HSf.out.2; omega⟩
              · have hk2' : decide ((k : Int) < 2) = false := decide_eq_false (by omega)
                have hk2'' : ¬ ((k : Int) < 2) := by omega
                have hl2 : F1.l.length = 2 := by
                  have h9 := HA.out.2.1.g1.len
                  have h8 := HA.out.2.2
                  omega
                have HA2 := Lib.hid (And.intro HA.out.1 (And.intro HA.out.2.1 hl2))
                clear HA hl2
                go_wp2_with fail
                go_roundg (4 - (1 + 1))
                case measure => omega
                case rel => exact ⟨1 + 1, S, O, F1, F2, F3, n1, n2, C1, C2, D1, D2, by simp, by omega, by omega, by omega, by omega, by omega, by omega, by omega, HA2.out.1, HA2.out.2.1, fun _ => HA2.out.2.2, fun h => absurd h (by omega)⟩
          · have hn2 := hn2 (by omega)
            clear hn1
            have HB : Hid (Fa w wr w.heap.size S O nb (n1 : Int) (n2 : Int) C1 C2 D1 D2 r q ∧ Sf S F1 F2 F3 r q C1 C2 D1 D2 ((i : Int) * 300000000) ∧ 0 ≤ F2.l.length) := ⟨HA.out.1, HA.out.2.1, Nat.zero_le _⟩
            have HL := Lib.hid HA.out.2.2
            clear HA
            go_wp2_with fail
            go_loopg [16] 3 (fun gk sk wr => ∃ (k : Nat) (S : Sq) (O : List Nat) (F2 : Fl) (n2 : Nat) (D2 : Int), sk = .int .i64 (k : Int) ∧ k ≤ 2 ∧ 3 ≤ gk + k ∧ n2 ≤ 2 * i + k ∧ Hid (Fa w wr w.heap.size S O nb (n1 : Int) (n2 : Int) C1 C2 D1 D2 r q ∧ Sf S F1 F2 F3 r q C1 C2 D1 D2 ((i : Int) * 300000000) ∧ k ≤ F2.l.length))
            case atStart => exact ⟨0, S, O, F2, n2, D2, rfl, by omega, by omega, by omega, HB⟩
            case round =>
              clear HB
              clear hm2
              obtain ⟨k, S, O, F2, n2, D2, rfl, hk, hgk, hnk, HA⟩ := hrel
              by_cases hk2 : k < 2
              · have hk2' : (k : Int) < 2 := by omega
                obtain ⟨j, ej⟩ : ∃ j, (n2 + 14) % len2 = j := ⟨_, rfl⟩
                have hj : j < len2 := by rw [← ej]; exact Nat.mod_lt _ (by omega)
                have hjt : Int.tmod ((n2 : Int) + 14) (len2 : Int) = (j : Int) := by rw [← ej, show ((n2 : Int) + 14) = ((n2 + 14 : Nat) : Int) by simp]; exact (Int.ofNat_tmod _ _).symm
                have hje : ((n2 : Int) + 14) % (len2 : Int) = (j : Int) := by rw [← ej]; simp
                have hj' : (j : Int) < (len2 : Int) := by omega
                obtain ⟨hzw, ad, rfl, hadb, hadc⟩ := W2.out j hj
                have hcz := HA.out.1.one.only.stays hadc
                obtain ⟨b0, b1⟩ := modI_lt (z2 j) (n := 3000) (by decide)
                have md := fun w => sMod (z2 j) 3000 (by decide) (by decide) w
                generalize modI (z2 j) 3000 = m at *
                obtain ⟨nn, enn⟩ : ∃ nn, 1 + m = nn := ⟨_, rfl⟩
                have nn1 : 1 ≤ nn := by omega
                have nn2 : nn ≤ 3000 := by omega
                have pok : Hid ((⟨2, nn, 0⟩ : Pk).ok) := ⟨i64_of (by simp), i64_of (by simp; omega), i64_of (by simp)⟩
                obtain ⟨x1, x2, x3, x4⟩ := HA.out.1.n.c
                clear ej hzw hadb hadc
                go_wp2_with fail
                refine (md _).mono ?_
                rintro e t0 ⟨rfl, rfl⟩
                have har := Lib.hid (HA.out.1.arr ⟨2, nn, 0⟩ pok.out)
                have hcs := Lib.hid (HA.out.2.1.arr2 nn1 nn2)
                have hkl := Lib.hid HA.out.2.2
                obtain ⟨E, eE⟩ : ∃ E, S.arrE ⟨2, nn, 0⟩ = E := ⟨_, rfl⟩
                rw [eE] at har hcs
                clear md eE HA x1 x2 x3 x4 hcz
                generalize S.arr ⟨2, nn, 0⟩ = S2 at *
                go_wp2_with fail
                refine har.out.mono ?_
                rintro e t1 ⟨rfl, O2, h2⟩
                have H2 := Lib.hid h2
                clear h2 har
                rcases hcs.out with ⟨e0, G, hG, hSf⟩ | ⟨e0, hG, hSf⟩
                · subst e0
                  obtain ⟨nr, hnr⟩ : ∃ nr, nn * q = nr := ⟨_, rfl⟩
                  obtain ⟨_, c2, c3⟩ := costM_is nn1 nn2 hq1 hq2
                  rw [hnr] at c2 c3 hSf
                  have wnr : IntKind.u64.wrap (nn * q) = nr := by rw [hnr, IntKind.wrap_u64]; omega
                  obtain ⟨MD, hMD⟩ : ∃ MD, max D2 nr = MD := ⟨_, rfl⟩
                  have hM2 : (if D2 < nr then nr else D2) = MD := by rw [← hMD]; split <;> omega
                  have hM3 : (if nr < D2 then D2 else nr) = MD := by rw [← hMD]; split <;> omega
                  rw [hMD] at hSf
                  have HSf := Lib.hid (And.intro hSf hG)
                  obtain ⟨x1, x2, x3, x4⟩ := H2.out.n.c
                  clear hSf hG hcs
                  go_wp2_with fail
                  have h3 := H2.out.setn2 ((n2 : Int) + 1)
                  generalize t1.setCell ⟨nb, 2, none⟩ (.int .i64 ((n2 : Int) + 1)) = V at *
                  have H3 := Lib.hid h3
                  obtain ⟨x1, x2, x3, x4⟩ := h3.n.c
                  obtain ⟨y1, y2, y3, y4⟩ := h3.d.c
                  obtain ⟨z1, z2', z3', z4⟩ := h3.rt.c
                  clear h3 H2
                  go_still_tail 12, (by kernel_rfl)
                  change wpList _ _ _ _ _ V.drew
                  go_wp2_with fail
                  have H4 := Lib.hid ((H3.out.setd2 MD).only0 ((Only.refl [] _).drew))
                  go_roundg (3 - (k + 1))
                  case measure => omega
                  case rel => exact ⟨k + 1, S2, O2, G, n2 + 1, MD, by simp, by omega, by omega, by omega, by simpa using H4.out, HSf.out.1, by rw [HSf.out.2]; have := hkl.out; omega⟩
                · have e1 : (E == 0) = false := by simp [e0]
                  have HSf := Lib.hid (And.intro hSf hG)
                  clear hSf hG hcs
                  go_wp2_with fail
                  go_roundg (3 - (k + 1))
                  case measure => omega
                  case rel => exact ⟨k + 1, S2, O2, F2, n2, D2, by simp, by omega, by omega, by omega, H2.out, HSf.out.1, by have := HSf.out.2; omega⟩
              · have hk2' : decide ((k : Int) < 2) = false := decide_eq_false (by omega)
                have hk2'' : ¬ ((k : Int) < 2) := by omega
                have hl2 : F2.l.length = 2 := by
                  have h9 := HA.out.2.1.g2.len
                  have h8 := HA.out.2.2
                  omega
                have HA2 := Lib.hid (And.intro HA.out.1 (And.intro HA.out.2.1 hl2))
                clear HA hl2
                go_wp2_with fail
                go_roundg (4 - (2 + 1))
                case measure => omega
                case rel => exact ⟨2 + 1, S, O, F1, F2, F3, n1, n2, C1, C2, D1, D2, by simp, by omega, by omega, by omega, by omega, by omega, by omega, by omega, HA2.out.1, HA2.out.2.1, fun _ => HL.out.1 (by omega), fun _ => HA2.out.2.2⟩
          · clear hn1 hn2
            have HC : Hid (Fa w wr w.heap.size S O nb (n1 : Int) (n2 : Int) C1 C2 D1 D2 r q ∧ Sf S F1 F2 F3 r q C1 C2 D1 D2 ((i : Int) * 300000000) ∧ F1.l.length = 2 ∧ F2.l.length = 2) := ⟨HA.out.1, HA.out.2.1, HA.out.2.2.1 (by omega), HA.out.2.2.2 (by omega)⟩
            clear HA
            by_cases h3 : i < len3
            · have h3' : (i : Int) < (len3 : Int) := by omega
              obtain ⟨hzw, ad, rfl, hadb, hadc⟩ := W3.out i h3
              have hcz := HC.out.1.one.only.stays hadc
              obtain ⟨b0, b1⟩ := modI_lt (z3 i) (n := 50) (by decide)
              have md := fun w => sMod (z3 i) 50 (by decide) (by decide) w
              generalize z3 i = zz at *
              generalize modI zz 50 = m at *
              clear hzw hadb hadc
              by_cases hev : Int.tmod zz 2 = 0
              · have hev' : (Int.tmod zz 2 == 0) = true := by simp [hev]
                obtain ⟨nn, enn⟩ : ∃ nn, 1 + m = nn := ⟨_, rfl⟩
                have pok : Hid ((⟨3, nn, 0⟩ : Pk).ok) := ⟨i64_of (by simp), i64_of (by simp; omega), i64_of (by simp)⟩
                go_wp2_with fail
                refine (md _).mono ?_
                rintro e t0 ⟨rfl, rfl⟩
                have har := Lib.hid (HC.out.1.arr ⟨3, nn, 0⟩ pok.out)
                obtain ⟨H, hH⟩ := HC.out.2.1.arr3 nn
                have HD := Lib.hid (And.intro hH HC.out.2.2)
                obtain ⟨E, eE⟩ : ∃ E, S.arrE ⟨3, nn, 0⟩ = E := ⟨_, rfl⟩
                rw [eE] at har
                clear eE hH md HC hcz
                generalize S.arr ⟨3, nn, 0⟩ = S at *
                go_wp2_with fail
                refine har.out.mono ?_
                rintro e t1 ⟨rfl, O2, h2⟩
                have HC := Lib.hid (And.intro h2 HD.out)
                clear h2 HD har
                have hsv := Lib.hid HC.out.1.srv
                have hso := HC.out.1.one.of_.ok
                have hsr := HC.out.2.1.srv hso HC.out.2.2.1 HC.out.2.2.2 (by omega)
                obtain ⟨ha, E1, E2, G1, G2, G3, hw2, hSf⟩ := hsr
                have hyo := Lib.hid hso.hd
                unfold Went2 at hw2
                obtain ⟨y, ey⟩ : ∃ y, S.hd = y := ⟨_, rfl⟩
                rw [ha, ey] at hsv
                rw [ey] at hw2 hyo
                clear ha hso ey HC
                generalize S.srv = S8 at *
                go_wp2_with fail
                refine hsv.out.mono ?_
                rintro e t8 ⟨rfl, O8, h8⟩
                clear hsv
                rcases hw2 with ⟨ef, e1, e2⟩ | ⟨ef, e1, e2⟩ | ⟨ef, e1, e2⟩
                · obtain ⟨yf, yl, ym⟩ := y
                  change yf = 1 at ef
                  subst ef
                  rw [e2] at hSf
                  clear e2
                  dsimp only at e1
                  have SFM : ((i : Int) * 300000000 + 300000000) = ((i + 1 : Nat) : Int) * 300000000 := by omega
                  rw [SFM] at hSf
                  clear SFM
                  obtain ⟨bc1, bc2⟩ := hSf.g1.c
                  obtain ⟨bc3, bc4⟩ := hSf.g2.c
                  obtain ⟨bd1, bd2⟩ := hSf.g1.d
                  obtain ⟨bd3, bd4⟩ := hSf.g2.d
                  have q1 := hSf.d1
                  have q2 := hSf.d2
                  have SF := Lib.hid hSf
                  clear hSf
                  have T := Lib.hid (h8.only0 (w' := t8.alloc (.cells #[.int .i64 1, .int .i64 yl, .int .i64 ym] 34)) ((Only.refl [] t8).alloc _))
                  obtain ⟨y0, y1, y2⟩ := (PBox.new t8 ⟨1, yl, ym⟩).c
                  dsimp only at y0 y1 y2
                  obtain ⟨c1, c2, c3, c4⟩ := T.out.c.c
                  obtain ⟨d1, d2, d3, d4⟩ := T.out.d.c
                  obtain ⟨r1, r2, r3, r4⟩ := T.out.rt.c
                  have pb : t8.heap.size ≠ nb := fun e9 => Nat.lt_irrefl _ (e9 ▸ h8.n.lt)
                  clear h8
                  have q1' : ¬ (C2 + D1 + D2 < E1) := by omega
                  have q2' : ¬ (E1 + D1 + D2 < C2) := by omega
                  have q3' : decide (C2 + D1 + D2 < E1) = false := decide_eq_false q1'
                  have q4' : decide (E1 + D1 + D2 < C2) = false := decide_eq_false q2'
                  have hyl := hyo.out.2.1
                  have hcst := fun W => rcost_any yl r W (i64_to hyl).1 (i64_to hyl).2 (by omega) (by omega)
                  clear hyl
                  generalize costM yl r = KK at *
                  have we : IntKind.u64.wrap (C1 + KK) = E1 := by rw [← e1, IntKind.wrap_u64]; omega
                  have we2 : C1 + KK = E1 := e1.symm
                  clear e1
                  go_wp2_with fail
                  generalize t8.alloc (.cells #[.int .i64 1, .int .i64 yl, .int .i64 ym] 34) = U at *
                  go_still_tail 15, (by kernel_rfl)
                  still_call ((hcst _).mono fun _ _ q => ⟨q.1, q.2.symm⟩)
                  repeat still_step
                  refine wpStill_nil ?_
                  change wpList _ _ _ _ _ U.drew
                  go_wp2_with fail
                  go_roundg (61 - (i + 1))
                  case measure => omega
                  case rel => exact ⟨i + 1, _, O8, G1, G2, G3, n1, n2, E1, C2, D1, D2, by simp, by omega, by omega, by omega, by omega, (T.out.setc1 E1).only0 ((Only.refl [] _).drew), SF.out⟩
                · obtain ⟨yf, yl, ym⟩ := y
                  change yf = 2 at ef
                  subst ef
                  rw [e1] at hSf
                  clear e1
                  dsimp only at e2
                  have SFM : ((i : Int) * 300000000 + 300000000) = ((i + 1 : Nat) : Int) * 300000000 := by omega
                  rw [SFM] at hSf
                  clear SFM
                  obtain ⟨bc1, bc2⟩ := hSf.g1.c
                  obtain ⟨bc3, bc4⟩ := hSf.g2.c
                  obtain ⟨bd1, bd2⟩ := hSf.g1.d
                  obtain ⟨bd3, bd4⟩ := hSf.g2.d
                  have q1 := hSf.d1
                  have q2 := hSf.d2
                  have SF := Lib.hid hSf
                  clear hSf
                  have T := Lib.hid (h8.only0 (w' := t8.alloc (.cells #[.int .i64 2, .int .i64 yl, .int .i64 ym] 34)) ((Only.refl [] t8).alloc _))
                  obtain ⟨y0, y1, y2⟩ := (PBox.new t8 ⟨2, yl, ym⟩).c
                  dsimp only at y0 y1 y2
                  obtain ⟨c1, c2, c3, c4⟩ := T.out.c.c
                  obtain ⟨d1, d2, d3, d4⟩ := T.out.d.c
                  obtain ⟨r1, r2, r3, r4⟩ := T.out.rt.c
                  have pb : t8.heap.size ≠ nb := fun e9 => Nat.lt_irrefl _ (e9 ▸ h8.n.lt)
                  clear h8
                  have q1' : ¬ (E2 + D1 + D2 < C1) := by omega
                  have q2' : ¬ (C1 + D1 + D2 < E2) := by omega
                  have q3' : decide (E2 + D1 + D2 < C1) = false := decide_eq_false q1'
                  have q4' : decide (C1 + D1 + D2 < E2) = false := decide_eq_false q2'
                  have hyl := hyo.out.2.1
                  have hcst := fun W => rcost_any yl q W (i64_to hyl).1 (i64_to hyl).2 (by omega) (by omega)
                  clear hyl
                  generalize costM yl q = KK at *
                  have we : IntKind.u64.wrap (C2 + KK) = E2 := by rw [← e2, IntKind.wrap_u64]; omega
                  have we2 : C2 + KK = E2 := e2.symm
                  clear e2
                  go_wp2_with fail
                  generalize t8.alloc (.cells #[.int .i64 2, .int .i64 yl, .int .i64 ym] 34) = U at *
                  go_still_tail 15, (by kernel_rfl)
                  still_call ((hcst _).mono fun _ _ q => ⟨q.1, q.2.symm⟩)
                  repeat still_step
                  refine wpStill_nil ?_
                  change wpList _ _ _ _ _ U.drew
                  go_wp2_with fail
                  go_roundg (61 - (i + 1))
                  case measure => omega
                  case rel => exact ⟨i + 1, _, O8, G1, G2, G3, n1, n2, C1, E2, D1, D2, by simp, by omega, by omega, by omega, by omega, (T.out.setc2 E2).only0 ((Only.refl [] _).drew), SF.out⟩
                · obtain ⟨yf, yl, ym⟩ := y
                  change yf = 3 at ef
                  subst ef
                  rw [e1, e2] at hSf
                  clear e1 e2
                  have SFM : ((i : Int) * 300000000 + 300000000) = ((i + 1 : Nat) : Int) * 300000000 := by omega
                  rw [SFM] at hSf
                  clear SFM
                  obtain ⟨bc1, bc2⟩ := hSf.g1.c
                  obtain ⟨bc3, bc4⟩ := hSf.g2.c
                  obtain ⟨bd1, bd2⟩ := hSf.g1.d
                  obtain ⟨bd3, bd4⟩ := hSf.g2.d
                  have q1 := hSf.d1
                  have q2 := hSf.d2
                  have SF := Lib.hid hSf
                  clear hSf
                  have T := Lib.hid (h8.only0 (w' := t8.alloc (.cells #[.int .i64 3, .int .i64 yl, .int .i64 ym] 34)) ((Only.refl [] t8).alloc _))
                  obtain ⟨y0, y1, y2⟩ := (PBox.new t8 ⟨3, yl, ym⟩).c
                  dsimp only at y0 y1 y2
                  obtain ⟨c1, c2, c3, c4⟩ := T.out.c.c
                  obtain ⟨d1, d2, d3, d4⟩ := T.out.d.c
                  obtain ⟨r1, r2, r3, r4⟩ := T.out.rt.c
                  have pb : t8.heap.size ≠ nb := fun e9 => Nat.lt_irrefl _ (e9 ▸ h8.n.lt)
                  clear h8
                  have q1' : ¬ (C2 + D1 + D2 < C1) := by omega
                  have q2' : ¬ (C1 + D1 + D2 < C2) := by omega
                  have q3' : decide (C2 + D1 + D2 < C1) = false := decide_eq_false q1'
                  have q4' : decide (C1 + D1 + D2 < C2) = false := decide_eq_false q2'
                  go_wp2_with fail
                  go_roundg (61 - (i + 1))
                  case measure => omega
                  case rel => exact ⟨i + 1, _, O8, G1, G2, G3, n1, n2, C1, C2, D1, D2, by simp, by omega, by omega, by omega, by omega, T.out, SF.out⟩
              · have hev' : (Int.tmod zz 2 == 0) = false := by simp [hev]
                clear md
                have hsv := Lib.hid HC.out.1.srv
                have hso := HC.out.1.one.of_.ok
                have hsr := HC.out.2.1.srv hso HC.out.2.2.1 HC.out.2.2.2 (by omega)
                obtain ⟨ha, E1, E2, G1, G2, G3, hw2, hSf⟩ := hsr
                have hyo := Lib.hid hso.hd
                unfold Went2 at hw2
                obtain ⟨y, ey⟩ : ∃ y, S.hd = y := ⟨_, rfl⟩
                rw [ha, ey] at hsv
                rw [ey] at hw2 hyo
                clear ha hso ey HC
                generalize S.srv = S8 at *
                go_wp2_with fail
                refine hsv.out.mono ?_
                rintro e t8 ⟨rfl, O8, h8⟩
                clear hsv
                rcases hw2 with ⟨ef, e1, e2⟩ | ⟨ef, e1, e2⟩ | ⟨ef, e1, e2⟩
                · obtain ⟨yf, yl, ym⟩ := y
                  change yf = 1 at ef
                  subst ef
                  rw [e2] at hSf
                  clear e2
                  dsimp only at e1
                  have SFM : ((i : Int) * 300000000 + 300000000) = ((i + 1 : Nat) : Int) * 300000000 := by omega
                  rw [SFM] at hSf
                  clear SFM
                  obtain ⟨bc1, bc2⟩ := hSf.g1.c
                  obtain ⟨bc3, bc4⟩ := hSf.g2.c
                  obtain ⟨bd1, bd2⟩ := hSf.g1.d
                  obtain ⟨bd3, bd4⟩ := hSf.g2.d
                  have q1 := hSf.d1
                  have q2 := hSf.d2
                  have SF := Lib.hid hSf
                  clear hSf
                  have T := Lib.hid (h8.only0 (w' := t8.alloc (.cells #[.int .i64 1, .int .i64 yl, .int .i64 ym] 34)) ((Only.refl [] t8).alloc _))
                  obtain ⟨y0, y1, y2⟩ := (PBox.new t8 ⟨1, yl, ym⟩).c
                  dsimp only at y0 y1 y2
                  obtain ⟨c1, c2, c3, c4⟩ := T.out.c.c
                  obtain ⟨d1, d2, d3, d4⟩ := T.out.d.c
                  obtain ⟨r1, r2, r3, r4⟩ := T.out.rt.c
                  have pb : t8.heap.size ≠ nb := fun e9 => Nat.lt_irrefl _ (e9 ▸ h8.n.lt)
                  clear h8
                  have q1' : ¬ (C2 + D1 + D2 < E1) := by omega
                  have q2' : ¬ (E1 + D1 + D2 < C2) := by omega
                  have q3' : decide (C2 + D1 + D2 < E1) = false := decide_eq_false q1'
                  have q4' : decide (E1 + D1 + D2 < C2) = false := decide_eq_false q2'
                  have hyl := hyo.out.2.1
                  have hcst := fun W => rcost_any yl r W (i64_to hyl).1 (i64_to hyl).2 (by omega) (by omega)
                  clear hyl
                  generalize costM yl r = KK at *
                  have we : IntKind.u64.wrap (C1 + KK) = E1 := by rw [← e1, IntKind.wrap_u64]; omega
                  have we2 : C1 + KK = E1 := e1.symm
                  clear e1
                  go_wp2_with fail
                  generalize t8.alloc (.cells #[.int .i64 1, .int .i64 yl, .int .i64 ym] 34) = U at *
                  go_still_tail 15, (by kernel_rfl)
                  still_call ((hcst _).mono fun _ _ q => ⟨q.1, q.2.symm⟩)
                  repeat still_step
                  refine wpStill_nil ?_
                  change wpList _ _ _ _ _ U.drew
                  go_wp2_with fail
                  go_roundg (61 - (i + 1))
                  case measure => omega
                  case rel => exact ⟨i + 1, _, O8, G1, G2, G3, n1, n2, E1, C2, D1, D2, by simp, by omega, by omega, by omega, by omega, (T.out.setc1 E1).only0 ((Only.refl [] _).drew), SF.out⟩
                · obtain ⟨yf, yl, ym⟩ := y
                  change yf = 2 at ef
                  subst ef
                  rw [e1] at hSf
                  clear e1
                  dsimp only at e2
                  have SFM : ((i : Int) * 300000000 + 300000000) = ((i + 1 : Nat) : Int) * 300000000 := by omega
                  rw [SFM] at hSf
                  clear SFM
                  obtain ⟨bc1, bc2⟩ := hSf.g1.c
                  obtain ⟨bc3, bc4⟩ := hSf.g2.c
                  obtain ⟨bd1, bd2⟩ := hSf.g1.d
                  obtain ⟨bd3, bd4⟩ := hSf.g2.d
                  have q1 := hSf.d1
                  have q2 := hSf.d2
                  have SF := Lib.hid hSf
                  clear hSf
                  have T := Lib.hid (h8.only0 (w' := t8.alloc (.cells #[.int .i64 2, .int .i64 yl, .int .i64 ym] 34)) ((Only.refl [] t8).alloc _))
                  obtain ⟨y0, y1, y2⟩ := (PBox.new t8 ⟨2, yl, ym⟩).c
                  dsimp only at y0 y1 y2
                  obtain ⟨c1, c2, c3, c4⟩ := T.out.c.c
                  obtain ⟨d1, d2, d3, d4⟩ := T.out.d.c
                  obtain ⟨r1, r2, r3, r4⟩ := T.out.rt.c
                  have pb : t8.heap.size ≠ nb := fun e9 => Nat.lt_irrefl _ (e9 ▸ h8.n.lt)
                  clear h8
                  have q1' : ¬ (E2 + D1 + D2 < C1) := by omega
                  have q2' : ¬ (C1 + D1 + D2 < E2) := by omega
                  have q3' : decide (E2 + D1 + D2 < C1) = false := decide_eq_false q1'
                  have q4' : decide (C1 + D1 + D2 < E2) = false := decide_eq_false q2'
                  have hyl := hyo.out.2.1
                  have hcst := fun W => rcost_any yl q W (i64_to hyl).1 (i64_to hyl).2 (by omega) (by omega)
                  clear hyl
                  generalize costM yl q = KK at *
                  have we : IntKind.u64.wrap (C2 + KK) = E2 := by rw [← e2, IntKind.wrap_u64]; omega
                  have we2 : C2 + KK = E2 := e2.symm
                  clear e2
                  go_wp2_with fail
                  generalize t8.alloc (.cells #[.int .i64 2, .int .i64 yl, .int .i64 ym] 34) = U at *
                  go_still_tail 15, (by kernel_rfl)
                  still_call ((hcst _).mono fun _ _ q => ⟨q.1, q.2.symm⟩)
                  repeat still_step
                  refine wpStill_nil ?_
                  change wpList _ _ _ _ _ U.drew
                  go_wp2_with fail
                  go_roundg (61 - (i + 1))
                  case measure => omega
                  case rel => exact ⟨i + 1, _, O8, G1, G2, G3, n1, n2, C1, E2, D1, D2, by simp, by omega, by omega, by omega, by omega, (T.out.setc2 E2).only0 ((Only.refl [] _).drew), SF.out⟩
                · obtain ⟨yf, yl, ym⟩ := y
                  change yf = 3 at ef
                  subst ef
                  rw [e1, e2] at hSf
                  clear e1 e2
                  have SFM : ((i : Int) * 300000000 + 300000000) = ((i + 1 : Nat) : Int) * 300000000 := by omega
                  rw [SFM] at hSf
                  clear SFM
                  obtain ⟨bc1, bc2⟩ := hSf.g1.c
                  obtain ⟨bc3, bc4⟩ := hSf.g2.c
                  obtain ⟨bd1, bd2⟩ := hSf.g1.d
                  obtain ⟨bd3, bd4⟩ := hSf.g2.d
                  have q1 := hSf.d1
                  have q2 := hSf.d2
                  have SF := Lib.hid hSf
                  clear hSf
                  have T := Lib.hid (h8.only0 (w' := t8.alloc (.cells #[.int .i64 3, .int .i64 yl, .int .i64 ym] 34)) ((Only.refl [] t8).alloc _))
                  obtain ⟨y0, y1, y2⟩ := (PBox.new t8 ⟨3, yl, ym⟩).c
                  dsimp only at y0 y1 y2
                  obtain ⟨c1, c2, c3, c4⟩ := T.out.c.c
                  obtain ⟨d1, d2, d3, d4⟩ := T.out.d.c
                  obtain ⟨r1, r2, r3, r4⟩ := T.out.rt.c
                  have pb : t8.heap.size ≠ nb := fun e9 => Nat.lt_irrefl _ (e9 ▸ h8.n.lt)
                  clear h8
                  have q1' : ¬ (C2 + D1 + D2 < C1) := by omega
                  have q2' : ¬ (C1 + D1 + D2 < C2) := by omega
                  have q3' : decide (C2 + D1 + D2 < C1) = false := decide_eq_false q1'
                  have q4' : decide (C1 + D1 + D2 < C2) = false := decide_eq_false q2'
                  go_wp2_with fail
                  go_roundg (61 - (i + 1))
                  case measure => omega
                  case rel => exact ⟨i + 1, _, O8, G1, G2, G3, n1, n2, C1, C2, D1, D2, by simp, by omega, by omega, by omega, by omega, T.out, SF.out⟩
            · have h3' : decide ((i : Int) < (len3 : Int)) = false := decide_eq_false (by omega)
              have h3'' : ¬ ((i : Int) < (len3 : Int)) := by omega
              have hsv := Lib.hid HC.out.1.srv
              have hso := HC.out.1.one.of_.ok
              have hsr := HC.out.2.1.srv hso HC.out.2.2.1 HC.out.2.2.2 (by omega)
              obtain ⟨ha, E1, E2, G1, G2, G3, hw2, hSf⟩ := hsr
              have hyo := Lib.hid hso.hd
              unfold Went2 at hw2
              obtain ⟨y, ey⟩ : ∃ y, S.hd = y := ⟨_, rfl⟩
              rw [ha, ey] at hsv
              rw [ey] at hw2 hyo
              clear ha hso ey HC
              generalize S.srv = S8 at *
              go_wp2_with fail
              refine hsv.out.mono ?_
              rintro e t8 ⟨rfl, O8, h8⟩
              clear hsv
              rcases hw2 with ⟨ef, e1, e2⟩ | ⟨ef, e1, e2⟩ | ⟨ef, e1, e2⟩
              · obtain ⟨yf, yl, ym⟩ := y
                change yf = 1 at ef
                subst ef
                rw [e2] at hSf
                clear e2
                dsimp only at e1
                have SFM : ((i : Int) * 300000000 + 300000000) = ((i + 1 : Nat) : Int) * 300000000 := by omega
                rw [SFM] at hSf
                clear SFM
                obtain ⟨bc1, bc2⟩ := hSf.g1.c
                obtain ⟨bc3, bc4⟩ := hSf.g2.c
                obtain ⟨bd1, bd2⟩ := hSf.g1.d
                obtain ⟨bd3, bd4⟩ := hSf.g2.d
                have q1 := hSf.d1
                have q2 := hSf.d2
                have SF := Lib.hid hSf
                clear hSf
                have T := Lib.hid (h8.only0 (w' := t8.alloc (.cells #[.int .i64 1, .int .i64 yl, .int .i64 ym] 34)) ((Only.refl [] t8).alloc _))
                obtain ⟨y0, y1, y2⟩ := (PBox.new t8 ⟨1, yl, ym⟩).c
                dsimp only at y0 y1 y2
                obtain ⟨c1, c2, c3, c4⟩ := T.out.c.c
                obtain ⟨d1, d2, d3, d4⟩ := T.out.d.c
                obtain ⟨r1, r2, r3, r4⟩ := T.out.rt.c
                have pb : t8.heap.size ≠ nb := fun e9 => Nat.lt_irrefl _ (e9 ▸ h8.n.lt)
                clear h8
                have q1' : ¬ (C2 + D1 + D2 < E1) := by omega
                have q2' : ¬ (E1 + D1 + D2 < C2) := by omega
                have q3' : decide (C2 + D1 + D2 < E1) = false := decide_eq_false q1'
                have q4' : decide (E1 + D1 + D2 < C2) = false := decide_eq_false q2'
                have hyl := hyo.out.2.1
                have hcst := fun W => rcost_any yl r W (i64_to hyl).1 (i64_to hyl).2 (by omega) (by omega)
                clear hyl
                generalize costM yl r = KK at *
                have we : IntKind.u64.wrap (C1 + KK) = E1 := by rw [← e1, IntKind.wrap_u64]; omega
                have we2 : C1 + KK = E1 := e1.symm
                clear e1
                go_wp2_with fail
                generalize t8.alloc (.cells #[.int .i64 1, .int .i64 yl, .int .i64 ym] 34) = U at *
                go_still_tail 15, (by kernel_rfl)
                still_call ((hcst _).mono fun _ _ q => ⟨q.1, q.2.symm⟩)
                repeat still_step
                refine wpStill_nil ?_
                change wpList _ _ _ _ _ U.drew
                go_wp2_with fail
                go_roundg (61 - (i + 1))
                case measure => omega
                case rel => exact ⟨i + 1, _, O8, G1, G2, G3, n1, n2, E1, C2, D1, D2, by simp, by omega, by omega, by omega, by omega, (T.out.setc1 E1).only0 ((Only.refl [] _).drew), SF.out⟩
              · obtain ⟨yf, yl, ym⟩ := y
                change yf = 2 at ef
                subst ef
                rw [e1] at hSf
                clear e1
                dsimp only at e2
                have SFM : ((i : Int) * 300000000 + 300000000) = ((i + 1 : Nat) : Int) * 300000000 := by omega
                rw [SFM] at hSf
                clear SFM
                obtain ⟨bc1, bc2⟩ := hSf.g1.c
                obtain ⟨bc3, bc4⟩ := hSf.g2.c
                obtain ⟨bd1, bd2⟩ := hSf.g1.d
                obtain ⟨bd3, bd4⟩ := hSf.g2.d
                have q1 := hSf.d1
                have q2 := hSf.d2
                have SF := Lib.hid hSf
                clear hSf
                have T := Lib.hid (h8.only0 (w' := t8.alloc (.cells #[.int .i64 2, .int .i64 yl, .int .i64 ym] 34)) ((Only.refl [] t8).alloc _))
                obtain ⟨y0, y1, y2⟩ := (PBox.new t8 ⟨2, yl, ym⟩).c
                dsimp only at y0 y1 y2
                obtain ⟨c1, c2, c3, c4⟩ := T.out.c.c
                obtain ⟨d1, d2, d3, d4⟩ := T.out.d.c
                obtain ⟨r1, r2, r3, r4⟩ := T.out.rt.c
                have pb : t8.heap.size ≠ nb := fun e9 => Nat.lt_irrefl _ (e9 ▸ h8.n.lt)
                clear h8
                have q1' : ¬ (E2 + D1 + D2 < C1) := by omega
                have q2' : ¬ (C1 + D1 + D2 < E2) := by omega
                have q3' : decide (E2 + D1 + D2 < C1) = false := decide_eq_false q1'
                have q4' : decide (C1 + D1 + D2 < E2) = false := decide_eq_false q2'
                have hyl := hyo.out.2.1
                have hcst := fun W => rcost_any yl q W (i64_to hyl).1 (i64_to hyl).2 (by omega) (by omega)
                clear hyl
                generalize costM yl q = KK at *
                have we : IntKind.u64.wrap (C2 + KK) = E2 := by rw [← e2, IntKind.wrap_u64]; omega
                have we2 : C2 + KK = E2 := e2.symm
                clear e2
                go_wp2_with fail
                generalize t8.alloc (.cells #[.int .i64 2, .int .i64 yl, .int .i64 ym] 34) = U at *
                go_still_tail 15, (by kernel_rfl)
                still_call ((hcst _).mono fun _ _ q => ⟨q.1, q.2.symm⟩)
                repeat still_step
                refine wpStill_nil ?_
                change wpList _ _ _ _ _ U.drew
                go_wp2_with fail
                go_roundg (61 - (i + 1))
                case measure => omega
                case rel => exact ⟨i + 1, _, O8, G1, G2, G3, n1, n2, C1, E2, D1, D2, by simp, by omega, by omega, by omega, by omega, (T.out.setc2 E2).only0 ((Only.refl [] _).drew), SF.out⟩
              · obtain ⟨yf, yl, ym⟩ := y
                change yf = 3 at ef
                subst ef
                rw [e1, e2] at hSf
                clear e1 e2
                have SFM : ((i : Int) * 300000000 + 300000000) = ((i + 1 : Nat) : Int) * 300000000 := by omega
                rw [SFM] at hSf
                clear SFM
                obtain ⟨bc1, bc2⟩ := hSf.g1.c
                obtain ⟨bc3, bc4⟩ := hSf.g2.c
                obtain ⟨bd1, bd2⟩ := hSf.g1.d
                obtain ⟨bd3, bd4⟩ := hSf.g2.d
                have q1 := hSf.d1
                have q2 := hSf.d2
                have SF := Lib.hid hSf
                clear hSf
                have T := Lib.hid (h8.only0 (w' := t8.alloc (.cells #[.int .i64 3, .int .i64 yl, .int .i64 ym] 34)) ((Only.refl [] t8).alloc _))
                obtain ⟨y0, y1, y2⟩ := (PBox.new t8 ⟨3, yl, ym⟩).c
                dsimp only at y0 y1 y2
                obtain ⟨c1, c2, c3, c4⟩ := T.out.c.c
                obtain ⟨d1, d2, d3, d4⟩ := T.out.d.c
                obtain ⟨r1, r2, r3, r4⟩ := T.out.rt.c
                have pb : t8.heap.size ≠ nb := fun e9 => Nat.lt_irrefl _ (e9 ▸ h8.n.lt)
                clear h8
                have q1' : ¬ (C2 + D1 + D2 < C1) := by omega
                have q2' : ¬ (C1 + D1 + D2 < C2) := by omega
                have q3' : decide (C2 + D1 + D2 < C1) = false := decide_eq_false q1'
                have q4' : decide (C1 + D1 + D2 < C2) = false := decide_eq_false q2'
                go_wp2_with fail
                go_roundg (61 - (i + 1))
                case measure => omega
                case rel => exact ⟨i + 1, _, O8, G1, G2, G3, n1, n2, C1, C2, D1, D2, by simp, by omega, by omega, by omega, by omega, T.out, SF.out⟩
      · have hi6' : decide ((i : Int) < 60) = false := decide_eq_false (by omega)
        go_wp2_with fail
        go_ret
        exact ⟨rfl, HA.out.1.one.only.below (Nat.le_refl _) (by simp)⟩

/-! ### The step from the walk to the statement -/
set_option maxRecDepth 100000 in
theorem lifted (os : Os) (started : os.Started) (H : Type) (enc : TypeId × Value → H) :
    ReturnsInHanded {} Try.checked os 7 .any (Rows.sfqFairSpec.pre6 enc Try.prog Try.f7 Rows.sfqFairRow.domain false) (Rows.sfqFairSpec.post enc Try.prog Try.f7 false true false false) := by
  refine returnsInHanded_of_change (C := Try.checked) own started (by kernel_rfl) Try.func7
    (ChangeSpec.witness6 (enc := enc) (C := Try.checked) false ⟨#[], #[.int .u64 0, .int .u64 0, .slice none 0 0, .slice none 0 0], []⟩ 8 (by kernel_rfl) (by kernel_rfl) (by kernel_rfl) (by kernel_rfl)) ?_
  intro W base args ds gs before hval0 hW hcnd _
  have hval : ∀ (j : Nat) t v, Try.f7.params[j]? = some t → args[j]? = some v → Value.okWide Try.prog W .any base t v := hval0
  have hW' := hW
  obtain ⟨p, q, hA0, hV, rfl, hfz, hnd⟩ := hW
  have hA : DataW.TrodAll enc Try.prog W 0 (fun _ => true) true Try.f7.params.toList args.toList ds p := hA0
  rw [Try.params7] at hA hval
  obtain ⟨v0, vs0, d0, ds0, p0, q0, hargs, rfl, rfl, h0, r0⟩ := trodAll_cons hA
  obtain ⟨v1, vs1, d1, ds1, p1, q1, rfl, rfl, rfl, h1, r1⟩ := trodAll_cons r0
  obtain ⟨v2, vs2, d2, ds2, p2, q2, rfl, rfl, rfl, h2, r2⟩ := trodAll_cons r1
  obtain ⟨v3, vs3, d3, ds3, p3, q3, rfl, rfl, rfl, h3, r3⟩ := trodAll_cons r2
  obtain ⟨rfl, rfl, rfl⟩ := trodAll_nil r3
  obtain rfl : args = #[v0, v1, v2, v3] := by cases args; simp_all
  obtain ⟨rfl, rfl⟩ := trodVars_none hV
  obtain ⟨a0, rfl, rfl, rfl, w0⟩ := open_int Try.underlying27 (hval 0 27 v0 rfl rfl) h0
  obtain ⟨a1, rfl, rfl, rfl, w1⟩ := open_int Try.underlying27 (hval 1 27 v1 rfl rfl) h1
  obtain ⟨a2, len2, cap2, rfl⟩ := okWide_slice Try.underlying53 (hval 2 53 v2 rfl rfl)
  have k2 := h2
  have lt2 : ∀ x ∈ p2, x.block < W.heap.size := by obtain ⟨m, hm⟩ := k2; exact DataW.trod_lt m _ _ _ hm
  obtain ⟨z2, w2⟩ : ∃ z, InNums .i64 W a2 len2 z := by
    obtain ⟨fuel, hf⟩ := h2
    exact open_numsF Try.underlying53 Try.underlying3 (by kernel_rfl) hf
  obtain ⟨a3, len3, cap3, rfl⟩ := okWide_slice Try.underlying53 (hval 3 53 v3 rfl rfl)
  have k3 := h3
  have lt3 : ∀ x ∈ p3, x.block < W.heap.size := by obtain ⟨m, hm⟩ := k3; exact DataW.trod_lt m _ _ _ hm
  obtain ⟨z3, w3⟩ : ∃ z, InNums .i64 W a3 len3 z := by
    obtain ⟨fuel, hf⟩ := h3
    exact open_numsF Try.underlying53 Try.underlying3 (by kernel_rfl) hf
  clear hA0 hval0
  refine (walk a0 a1 a2 len2 cap2 z2 a3 len3 cap3 z3 W w0 w1 w2 w3).mono fun e W' ⟨he, bel⟩ => ?_
  subst he
  exact ⟨_, rfl, _, _, _, [], _, [], hW', trodAll_mk1 (shut_bool Try.underlying4 _), (trodAll_cons_mk (shut_int Try.underlying27 w0) (trodAll_cons_mk (shut_int Try.underlying27 w1) (trodAll_cons_mk (Below.trod laidOut (by kernel_rfl) (of_decide_eq_true (by kernel_rfl)) k2 bel lt2) (trodAll_cons_mk (Below.trod laidOut (by kernel_rfl) (of_decide_eq_true (by kernel_rfl)) k3 bel lt3) trodAll_mk0)))), rfl, bel.frame _, fun h => by cases h⟩

theorem over : Rows.sfqFairRow.holds Try.pinned (OpenSpec.ofChange Rows.sfqFairSpec) :=
  OpenClaim.holds_of_wide 7 Try.f7 rfl rfl rfl rfl rfl rfl rfl ⟨rfl, rfl, rfl, rfl, rfl⟩ rfl rfl rfl rfl rfl (by kernel_rfl) Try.func7 (by kernel_rfl)
    (of_decide_eq_true (by kernel_rfl)) (by unfold Func.isWrapper; first | (rw [if_pos (by decide +kernel)]; kernel_rfl) | (rw [if_neg (by decide +kernel)]; exact ⟨rfl, rfl⟩))
    (fun os started H enc _ => lifted os started H enc)

/-- The statement. -/
theorem proved : Rows.SfqFairSaid := over
#print axioms proved
end Go.Proofs.Ytjmnklmomdfpfaa.sfqFair
