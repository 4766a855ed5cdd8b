/-
  weighbridgelaw08.QueueHeap returns true for every input, and leaves its arguments as they were, where math/bits' table holds what the program's own text lays there (the card ties it). No other condition but that the arguments are values of their types.
-/
import Derived.Test.YtajhkdbldbifeaaGreatDoorRows
import Derived.Test.YtajhkdbldbifeaaGreatDoorTie
import Derived.Test.YtajhkdbldbifeaaGreatDoorCards
import Derived.Test.YtajhkdbldbifeaaGreatDoorQueueV
import Derived.ShutString
import Derived.ChangeOld
import Derived.Below
import Derived.SevenTiedAt
namespace Go.Proofs.YtajhkdbldbifeaaGreatDoor.queueHeap
open Go.ChangeShapes Go.WideShapes Go.ChangeAt Go.RowKit
set_option linter.unusedVariables false

set_option maxRecDepth 100000 in
set_option maxHeartbeats 16000000 in
theorem walk (a0 : Int) (a1 : Int) (a2 : Option Addr) (len2 cap2 : Nat) (z2 : Nat → Dd) (w : World) (w0 : (Lit.int .i64 a0).wf = true) (w1 : (Lit.int .i64 a1).wf = true) (w2 : InDeeds w a2 len2 z2) (hT : Tab w) :
    Calls Tryz.prog 5 #[.int .i64 a0, .int .i64 a1, .slice a2 len2 cap2] w fun e w' => e = .returned (.bool true) ∧ Below w.heap.size w w' := by
  have W2 := Lib.hid w2
  have HT := Lib.hid hT
  obtain ⟨qf, PL⟩ := kinds_are 4 (by omega) (by omega)
  have PL := Lib.hid PL
  clear w2 hT
  go_enter Tryz.func5, Tryz.ntmps5
  go_wp2_with fail
  refine (made_q w w (Only.refl [] w) a0 a1).mono ?_
  rintro e v1 ⟨qb, yb, rfl, n, wd, S1, T1, h1, -, -⟩
  have n1 := h1.pair.ours.n1.1
  have n16 := h1.pair.ours.n1.2
  have H1 := Lib.hid (duo_q h1)
  have aw := hAwake8 _ (H1.out.tab HT.out).1
  clear h1
  go_wp2_with fail
  refine aw.mono ?_
  rintro e v2 ⟨rfl, o2⟩
  have H2 := Lib.hid (H1.out.only0 o2)
  clear H1 o2 aw
  obtain ⟨xb, exb⟩ : ∃ xb, v1.heap.size = xb := ⟨_, rfl⟩
  rw [exb] at H2
  obtain ⟨T0, eT0⟩ : ∃ T0, iown xb (.slice none 0 0) = T0 := ⟨_, rfl⟩
  rw [eT0] at H2
  (try rw [exb])
  clear eT0
  go_wp2_with fail
  (try simp only [exb])
  clear exb
  go_loopg [10, 11] (len2 + 1) (fun gk sl si wr => ∃ (p : Nat) (S T : List Nat) (B : Nat → Int) (L : Nat → List It) (last : Int), sl = .int .u64 last ∧ si = .int .i64 (p : Int) ∧ p ≤ len2 ∧ p ≤ 80 ∧ len2 + 1 ≤ gk + p ∧ Hid (QDuo w wr qb S xb T n wd B L last ∧ ∀ i, (L i).length ≤ p))
  case atStart => exact ⟨0, S1, T0, _, _, 0, rfl, rfl, by omega, by omega, by omega, H2.out, fun i => by simp⟩
  case round =>
    obtain ⟨p, S, T, B, L, last, rfl, rfl, hp, hp80, hg, hS⟩ := hrel
    clear H2
    have hcb : (catL L n).length ≤ 16000 := by
      have h1 := catL_len_le (L := L) (n := n) (m := 1000) (fun i _ => by have := hS.out.2 i; omega)
      have h3 : n * 1000 ≤ 16 * 1000 := Nat.mul_le_mul_right _ n16
      omega
    have hml : (mergeM L n).length ≤ 16000 := by rw [merge_len]; exact hcb
    by_cases hc : p < len2 ∧ p < 80
    · have c1 : (p : Int) < (len2 : Int) := by omega
      have c2 : (p : Int) < 80 := by omega
      obtain ⟨hdok, ad, b, o, s, rfl, hadd, hbw, q0, q1, q2⟩ := W2.out p hc.1
      obtain ⟨d, ed⟩ : ∃ d, z2 p = d := ⟨_, rfl⟩
      rw [ed] at q0 q1 q2 hdok
      have r0 := hS.out.1.only.stay q0
      have r1 := hS.out.1.only.stay q1
      have r2 := hS.out.1.only.stay q2
      have hbN : b < wr.heap.size := by have := hS.out.1.only.size; omega
      have b0 := hS.out.1.late.l0
      have b1 := hS.out.1.late.l1
      have hn := hNear d hdok last (u64ok_of ⟨b0, b1⟩)
      obtain ⟨kk0, kk1⟩ := u64ok_to (nearM_ok (base := last) hdok.2.1)
      obtain ⟨j, hj, hmo⟩ := hModN d.c 12 (by omega) (by omega)
      change ∀ w, Calls _ _ #[.int .i64 d.c, .int .i64 12] w _ at hmo
      obtain ⟨hq, hwh⟩ := PL.out d
      change ∀ w, Calls _ _ #[.agg #[.int .i64 d.a, .int .u64 d.b, .int .i64 d.c], .int .i64 4] w _ at hwh
      generalize qf d = q at *
      generalize nearM d.b last = k at *
      obtain ⟨m, em⟩ : ∃ m, max k last = m := ⟨_, rfl⟩
      have em2 : (if k < last then last else k) = m := by rw [← em]; split <;> omega
      have hm0 : last ≤ m := by omega
      have hmk : (Lit.int .u64 m).wf = true := u64ok_of (by omega)
      have hjk : i64ok (j : Int) := i64ok_of (by omega)
      have HM := Lib.hid (And.intro hm0 (And.intro hmk hjk))
      have Q := Lib.hid (And.intro q0 (And.intro q1 q2))
      have hsz0 : wr.heap.size ≤ wr.heap.size := Nat.le_refl _
      clear ed hbw hc q0 q1 q2 hm0 hmk hjk kk0 kk1 b0 b1
      go_upto_region 9 with fail
      go_cut [12] (fun s12 wx => ∃ bx : Nat, s12 = .pointer (some ⟨bx, 0, none⟩) ∧ Hid (Box wx bx ⟨m, (j : Int)⟩ ∧ Only [] wr wx ∧ wr.heap.size ≤ bx))
      case first =>
        go_region_held3 (fun w' => w'.cell? ⟨b, o, s⟩ = some (.int .i64 d.a) ∧ w'.cell? ⟨b, o + 1, none⟩ = some (.int .u64 d.b) ∧ w'.cell? ⟨b, o + 2, none⟩ = some (.int .i64 d.c))
          (first | go_keep | (exact ⟨e0, e1, e2⟩) | (exact ⟨s0 _ _, s1 _ _, s2 _ _⟩))
          (first
            | (go_at_call 19; refine (hn _).mono ?_; rintro e w1 ⟨rfl, o1⟩; have e0 := o1.stay (p := ⟨b, o, s⟩) (v := .int .i64 d.a) (by go_simp); have e1 := o1.stay (p := ⟨b, o + 1, none⟩) (v := .int .u64 d.b) (by go_simp); have e2 := o1.stay (p := ⟨b, o + 2, none⟩) (v := .int .i64 d.c) (by go_simp); have hN1 : b < w1.heap.size := World.block_lt_of_cell? w1 ⟨b, o, s⟩ e0; have oo1 : Hid (Only [] wr w1) := (by first | exact (Only.refl [] wr).drew.trans' o1 | exact ((Only.refl [] wr).alloc _).drew.trans' o1); have hs1 : wr.heap.size ≤ w1.heap.size := oo1.out.size; have st : ∀ (bb : Nat) (pp : Addr) (u v x : Value), bb ≠ pp.block → w1.cell? pp = some x → ((w1.setCell ⟨bb, 0, none⟩ u).setCell ⟨bb, 1, none⟩ v).cell? pp = some x := (fun bb pp u v x hb hc => ((((Only.refl [bb] w1).setCell (.inl (by simp)) u).setCell (.inl (by simp)) v).cell (World.block_lt_of_cell? w1 pp hc) (by simp; exact fun e => hb e.symm)).trans hc); (try (have bz1 : Box w1 wr.heap.size ⟨0, 0⟩ := (by (refine Box.only (S := []) ?_ o1 (by simp); exact Box.new wr ⟨0, 0⟩)); have z0 := bz1.c0; have z1 := bz1.c1; have f0 := bz1.fr 0; have f1 := bz1.fr 1; have s0 := (fun u v => st wr.heap.size ⟨b, o, s⟩ u v _ (by simp only; omega) e0); have s1 := (fun u v => st wr.heap.size ⟨b, o + 1, none⟩ u v _ (by simp only; omega) e1); have s2 := (fun u v => st wr.heap.size ⟨b, o + 2, none⟩ u v _ (by simp only; omega) e2))))
            | (go_at_call 20; refine (hmo _).mono ?_; rintro e w9 ⟨rfl, e9⟩; have e8 := e9.symm; clear e9; subst e8))
        all_goals
          go_wp2_with fail
          go_meet
          case rel =>
            first
              | exact ⟨w1.heap.size, rfl, Box.new w1 ⟨m, (j : Int)⟩, oo1.out.alloc _, hs1⟩
              | exact ⟨wr.heap.size, rfl, bz1.put m j, (oo1.out.setCell (.inr hsz0) _).setCell (.inr hsz0) _, hsz0⟩
      case rest =>
        obtain ⟨bx, rfl, HX⟩ := hcut
        have hBS : bx ∉ S := fun e => by have := hS.out.1.ours.lt bx e; have := HX.out.2.2; omega
        have hBT : bx ∉ T := fun e => by have := hS.out.1.ref.lt bx e; have := HX.out.2.2; omega
        have g0 := HX.out.2.1.stay r0
        have g1 := HX.out.2.1.stay r1
        have g2 := HX.out.2.1.stay r2
        clear r0 r1 r2 hn hmo em em2
        go_wp2_with fail
        refine (hwh _).mono ?_
        rintro e w1 ⟨rfl, o1⟩
        have D1 := Lib.hid ((hS.out.1.only0 HX.out.2.1).only0 o1)
        have bB := Lib.hid (HX.out.1.only o1 (by simp))
        have y0 := bB.out.c0
        have y1 := bB.out.c1
        have hB1 : bx < w1.heap.size := bB.out.lt
        simp only at y0 y1
        have hj0 : (0 : Int) ≤ (j : Int) := by omega
        clear o1 g0 g1 g2 hwh
        have hq4 : q = 0 ∨ q = 1 ∨ q = 2 ∨ q = 3 := by omega
        clear hq
        rcases hq4 with rfl | rfl | rfl | rfl
        iterate 2
          · obtain ⟨t1, t2⟩ := D1.out.tab HT.out
            obtain ⟨pe1, pe2, pl⟩ := D1.out.late.push n1 (k := m) (j := (j : Int)) HM.out.1 ⟨HM.out.2.1, HM.out.2.2⟩ hj0
            have hpu := qPush w1.drew qb S n wd B L (D1.out.ours.only0 (Only.refl [] w1).drew) (t1.only0 (Only.refl [] w1).drew) t2 ⟨m, (j : Int)⟩ ⟨HM.out.2.1, HM.out.2.2⟩ (fun i hi => by have := hS.out.2 i; omega)
            have hlen : Hid (∀ i, (pushL L n B ⟨m, (j : Int)⟩ i).length ≤ p + 1) := fun i => Nat.le_trans (pushL_len L n B _ i) (by have := hS.out.2 i; omega)
            rw [pe1] at hpu
            have hrp : Hid (∀ W, ItemsOf Ri W xb T (mergeM L n) → Calls Tryz.prog 23 #[.pointer (some ⟨xb, 0, none⟩), .agg #[.int .u64 m, .int .i64 (j : Int)]] W fun e w' => e = .returned (.bool (!hasId (j : Int) (mergeM L n))) ∧ ∃ S', ItemsOf Ri w' xb S' (mergeM (pushL L n B ⟨m, (j : Int)⟩) n) ∧ Moved W T w' S') := fun W hW => by
              have := xPush Ri W xb T (mergeM L n) hW ⟨m, (j : Int)⟩ (by omega)
              simp only at this
              rw [← pe2] at this
              exact this
            have PLt := Lib.hid pl
            have tb : ((!hasId (j : Int) (mergeM L n)) != (!hasId (j : Int) (mergeM L n))) = false := by simp
            generalize (!hasId (j : Int) (mergeM L n)) = bb at *
            generalize pushL L n B ⟨m, (j : Int)⟩ = L2 at *
            have HPU := Lib.hid hpu
            clear hpu pe1 pe2 pl t1 t2
            go_wp2_with fail
            go_region_held3 (fun w' => w'.cell? ⟨bx, 0, none⟩ = some (.int .u64 m) ∧ w'.cell? ⟨bx, 1, none⟩ = some (.int .i64 (j : Int)))
              (first | go_keep | (exact ⟨k0, k1⟩) | (exact ⟨k2, k3⟩))
              (first
                | (go_at_call 22; refine HPU.out.mono ?_; rintro e u1 ⟨rfl, S1, q1, q2⟩; have b3 := (bB.out.only (Only.refl [] w1).drew (by simp)).moved q2 hBS; have k0 := b3.1.c0; have k1 := b3.1.c1; simp only at k0 k1; have Q1 := Lib.hid (And.intro q1 (And.intro q2 b3)); clear q1 q2 b3)
                | (go_at_call 23; refine (hrp.out _ (D1.out.after (Only.refl [] w1).drew Q1.out.2.1)).mono ?_; rintro e u2 ⟨rfl, T1, q1, q2⟩; have b4 := Q1.out.2.2.1.moved q2 hBT; have k2 := b4.1.c0; have k3 := b4.1.c1; simp only at k2 k3; have Q2 := Lib.hid (And.intro q1 q2); clear q1 q2 b4))
            have D5 := Lib.hid ((D1.out.only0 (Only.refl [] w1).drew).mk2 Q1.out.1 Q1.out.2.1 Q2.out.1 Q2.out.2 PLt.out)
            go_wp2_with fail
            go_roundg (len2 + 1 - (p + 1))
            case measure => omega
            case rel => exact ⟨p + 1, S1, T1, B, L2, last, rfl, by simp, by omega, by omega, by omega, D5.out, hlen.out⟩
        · obtain ⟨t1, t2⟩ := D1.out.tab HT.out
          obtain ⟨pe1, pe2, pe3, pl⟩ := D1.out.late.pop
          have hpo := qPop w1 qb S n wd B L D1.out.ours t1 t2
          rw [pe1, pe2] at hpo
          have hro : Hid (∀ W, ItemsOf Ri W xb T (mergeM L n) → Calls Tryz.prog 25 #[.pointer (some ⟨xb, 0, none⟩)] W fun e w' => e = .returned (.tuple #[(first (mergeM L n)).val, .bool (!(mergeM L n).isEmpty)]) ∧ ∃ S', ItemsOf Ri w' xb S' (mergeM (popL L n) n) ∧ Moved W T w' S') := fun W hW => by
            have := xPop Ri W xb T (mergeM L n) hW
            rw [← pe3] at this
            exact this
          have hlen : Hid (∀ i, (popL L n i).length ≤ p + 1) := fun i => Nat.le_trans (popL_len L n i) (by have := hS.out.2 i; omega)
          unfold It.val at hpo hro
          have PLt := Lib.hid pl
          generalize first (mergeM L n) = x at *
          generalize popL L n = L2 at *
          generalize popB L n B = B2 at *
          have he := item_neqQ x x
          have hgi := item_guard
          simp only [decide_true, Bool.not_true] at he
          clear t1 t2 pe1 pe2 pe3 pl
          rcases hem : (mergeM L n).isEmpty with _ | _
          all_goals
            rw [hem] at hpo hro PLt
            simp only [Bool.not_true, Bool.not_false, Bool.false_eq_true, if_false, if_true] at hpo hro PLt
            go_wp2_with fail
            refine hpo.mono ?_
            rintro e w2 ⟨rfl, S2, q1, q2⟩
            have oN : Only [] w2 (w2.alloc (.cells #[.int .u64 x.k, .int .i64 x.i] 40)) := (Only.refl [] w2).alloc _
            have bA : Hid (Box (w2.alloc (.cells #[.int .u64 x.k, .int .i64 x.i] 40)) w2.heap.size x) := Box.new w2 x
            have hr2 := hro.out _ ((D1.out.after (Only.refl [] w1) q2).only0 oN)
            have hsT : w2.heap.size ∉ T := fun e => by have := D1.out.ref.lt _ e; have := q2.1.size; omega
            have Q1 := Lib.hid (And.intro (q1.only0 oN) (q2.still oN))
            clear q1 q2 hpo oN
            go_wp2_with fail
            refine hr2.mono ?_
            rintro e w3 ⟨rfl, T3, q1, q2⟩
            have b3 := bA.out.only q2.1 hsT
            have a0' := b3.c0
            have a1' := b3.c1
            have hlt3 : w2.heap.size < w3.heap.size := b3.lt
            have D3 := Lib.hid ((D1.out.mk2 Q1.out.1 Q1.out.2 q1 q2 PLt.out).only0 ((Only.refl [] w3).alloc (.cells #[.int .u64 x.k, .int .i64 x.i] 40)))
            clear q1 q2 b3 hr2
            go_wp2_with fail
            go_roundg (len2 + 1 - (p + 1))
            case measure => omega
            case rel => exact ⟨p + 1, S2, T3, B2, L2, _, rfl, by simp, by omega, by omega, by omega, D3.out, hlen.out⟩
        · obtain ⟨t1, t2⟩ := D1.out.tab HT.out
          obtain ⟨pe1, pe2, pl⟩ := D1.out.late.drop n1 hj0
          have hpo := qDrop w1 qb S n wd B L D1.out.ours t1 t2 (j : Int) HM.out.2.2
          rw [pe1] at hpo
          have hids := D1.out.late.homes.mergedIds
          have hro : Hid (∀ W, ItemsOf Ri W xb T (mergeM L n) → Calls Tryz.prog 27 #[.pointer (some ⟨xb, 0, none⟩), .int .i64 (j : Int)] W fun e w' => e = .returned (.tuple #[((findId (j : Int) (mergeM L n)).getD ⟨0, 0⟩).val, .bool (findId (j : Int) (mergeM L n)).isSome]) ∧ ∃ S', ItemsOf Ri w' xb S' (mergeM (dropL L n (j : Int)) n) ∧ Moved W T w' S') := fun W hW => by
            have := xDrop Ri W xb T (mergeM L n) hW hids (j : Int)
            rw [← pe2] at this
            exact this
          have hlen : Hid (∀ i, (dropL L n (j : Int) i).length ≤ p + 1) := fun i => Nat.le_trans (dropL_len L n (j : Int) i) (by have := hS.out.2 i; omega)
          unfold It.val at hpo hro
          have PLt := Lib.hid pl
          generalize (findId (j : Int) (mergeM L n)).getD ⟨0, 0⟩ = x at *
          generalize (findId (j : Int) (mergeM L n)).isSome = pp at *
          generalize dropL L n (j : Int) = L2 at *
          have tb : (pp != pp) = false := by simp
          have he := item_neqQ x x
          have hgi := item_guard
          simp only [decide_true, Bool.not_true] at he
          clear hids t1 t2 pe1 pe2 pl
          go_wp2_with fail
          refine hpo.mono ?_
          rintro e w2 ⟨rfl, S2, q1, q2⟩
          have oN : Only [] w2 (w2.alloc (.cells #[.int .u64 x.k, .int .i64 x.i] 40)) := (Only.refl [] w2).alloc _
          have bA0 : Hid (Box (w2.alloc (.cells #[.int .u64 x.k, .int .i64 x.i] 40)) w2.heap.size x) := Box.new w2 x
          have bB2 := bB.out.moved q2 hBS
          have hB2 : bx < w2.heap.size := bB2.1.lt
          have bB3 := bB2.1.only oN (by simp)
          have z0 := bB3.c1
          simp only at z0
          have hr3 := hro.out _ ((D1.out.after (Only.refl [] w1) q2).only0 oN)
          have hAT : w2.heap.size ∉ T := fun e => by have := D1.out.ref.lt _ e; have := q2.1.size; omega
          have Q1 := Lib.hid (And.intro (q1.only0 oN) (q2.still oN))
          clear q1 q2 hpo bB2 bB3 y0 y1 oN
          go_wp2_with fail
          refine hr3.mono ?_
          rintro e w4 ⟨rfl, T4, q1, q2⟩
          have b3 := bA0.out.only q2.1 hAT
          have a0' := b3.c0
          have a1' := b3.c1
          have hlt3 : w2.heap.size < w4.heap.size := b3.lt
          have D5 := Lib.hid ((D1.out.mk2 Q1.out.1 Q1.out.2 q1 q2 PLt.out).only0 ((Only.refl [] w4).alloc (.cells #[.int .u64 x.k, .int .i64 x.i] 40)))
          clear q1 q2 b3 hr3 z0
          go_wp2_with fail
          go_roundg (len2 + 1 - (p + 1))
          case measure => omega
          case rel => exact ⟨p + 1, S2, T4, B, L2, last, rfl, by simp, by omega, by omega, by omega, D5.out, hlen.out⟩
    · obtain ⟨Ax, capx, x0, xr, -⟩ := items_row hS.out.1.ref
      have HXR := Lib.hid xr
      have hal := Lib.hid (qAll wr.drew qb S n wd B L (hS.out.1.ours.only0 (Only.refl [] wr).drew) ((hS.out.1.only0 (Only.refl [] wr).drew).tab HT.out).1 (by omega))
      have hcd : (decide ((p : Int) < (len2 : Int)) = false ∧ ¬ ((p : Int) < (len2 : Int))) ∨ ((p : Int) < (len2 : Int) ∧ decide ((p : Int) < 80) = false) := by
        have hce : ¬ p < len2 ∨ (p < len2 ∧ ¬ p < 80) := by omega
        rcases hce with h9 | h9
        · exact .inl ⟨decide_eq_false (by omega), by omega⟩
        · exact .inr ⟨by omega, decide_eq_false (by omega)⟩
      clear hc hp xr
      rcases hcd with ⟨c1, c2⟩ | ⟨c1, c2⟩
      all_goals
        go_wp2_with fail
        go_region_held3 (fun w' => w'.cell? ⟨xb, 0, none⟩ = some (.slice Ax (mergeM L n).length capx))
          (first | go_keep | (exact k0) | (exact k1))
          (first
            | (go_at_call 17; refine hal.out.mono ?_; rintro e u1 ⟨A2, cap2, rfl, r2, v2, o2⟩; have k0 := o2.stay (p := ⟨xb, 0, none⟩) (v := .slice Ax (mergeM L n).length capx) (by exact x0); have O2 := Lib.hid ((Only.refl [] wr).drew.trans' o2); have R2 := Lib.hid (And.intro r2 (HXR.out.only0 ((Only.refl [] wr).drew.trans' o2))); clear r2 v2 o2)
            | (go_at_call 16; refine (hPlain _ _ _ (mergeM L n) (mergeM L n) (by exact R2.out.1) (by exact R2.out.2) (by omega) (by omega)).mono ?_; rintro e u2 ⟨rfl, o3⟩; have k1 := o3.stay k0; have O3 := Lib.hid o3; clear o3))
        go_wp2_with fail
        go_ret
        exact ⟨by simp, ((hS.out.1.only.trans' O2.out).trans' O3.out).below (Nat.le_refl _) (by simp)⟩

/-! ### The step from the walk to the row -/
set_option maxRecDepth 100000 in
theorem lifted (os : Os) (started : os.Started) (H : Type) (enc : TypeId × Value → H) :
    ReturnsInHanded {} Tryz.checked os 5 .any (fun w args => (Rows.queueHeapSpec.pre enc Tryz.prog Tryz.f5 [] false w args ∧ laidMetH Tryz.prog listed w) ∧ sizedMet enc Tryz.prog Tryz.f5 (OpenSpec.ofChange Rows.queueHeapSpec) false w args)
      (Rows.queueHeapSpec.post enc Tryz.prog Tryz.f5 false true false false) := by
  refine returnsInHanded_of_change_and (C := Tryz.checked) (X := fun w _ => laidMetH Tryz.prog listed w) (fun _ _ _ hh h => h.of_heap hh) own started (by kernel_rfl) Tryz.func5
    (ChangeSpec.witness_shaped (enc := enc) (C := Tryz.checked) (os := os) (X := fun w _ => laidMetH Tryz.prog listed w) false (World.doorLaid Tryz.prog 14 os) #[.int .i64 0, .int .i64 0, .slice none 0 0] 8 rfl (World.shaped_of_RefB (by kernel_rfl) (by kernel_rfl)) (by kernel_rfl) (by kernel_rfl) (by kernel_rfl) (door_met os _)) ?_
  intro W base args ds gs before hval0 hW _ _ hL _
  have hval : ∀ (j : Nat) t v, Tryz.f5.params[j]? = some t → args[j]? = some v → Value.okWide Tryz.prog W .any base t v := hval0
  have hW' := hW
  obtain ⟨p, q, hA0, hV, rfl, hfz, hnd⟩ := hW
  have hA : DataW.TrodAll enc Tryz.prog W 0 (fun _ => true) true Tryz.f5.params.toList args.toList ds p := hA0
  rw [Tryz.params5] at hA hval
  obtain ⟨v0, vs0, d0, ds0, p0, q0, hargs, rfl, rfl, h0, r0⟩ := trodAll_cons hA
  obtain ⟨v1, vs1, d1, ds1, p1, q1, rfl, rfl, rfl, h1, r1⟩ := trodAll_cons r0
  obtain ⟨v2, vs2, d2, ds2, p2, q2, rfl, rfl, rfl, h2, r2⟩ := trodAll_cons r1
  obtain ⟨rfl, rfl, rfl⟩ := trodAll_nil r2
  obtain rfl : args = #[v0, v1, v2] := by cases args; simp_all
  obtain ⟨rfl, rfl⟩ := trodVars_none hV
  obtain ⟨a0, rfl, rfl, rfl, w0⟩ := open_int Tryz.underlying3 (hval 0 3 v0 rfl rfl) h0
  obtain ⟨a1, rfl, rfl, rfl, w1⟩ := open_int Tryz.underlying3 (hval 1 3 v1 rfl rfl) h1
  obtain ⟨a2, len2, cap2, rfl⟩ := okWide_slice Tryz.underlying22 (hval 2 22 v2 rfl rfl)
  have k2 := h2
  have lt2 : ∀ x ∈ p2, x.block < W.heap.size := by obtain ⟨m, hm⟩ := k2; exact DataW.trod_lt m _ _ _ hm
  obtain ⟨z2, w2⟩ : ∃ z, InDeeds W a2 len2 z := by
    obtain ⟨fuel, hf⟩ := h2
    exact open_deeds hf
  clear hA0 hval0
  refine (walk a0 a1 a2 len2 cap2 z2 W w0 w1 w2 (tab_of_laid hL)).mono fun e W' ⟨he, bel⟩ => ?_
  subst he
  exact ⟨_, rfl, _, _, _, [], _, [], hW', trodAll_mk1 (shut_bool Tryz.underlying4 _), (trodAll_cons_mk (shut_int Tryz.underlying3 w0) (trodAll_cons_mk (shut_int Tryz.underlying3 w1) (trodAll_cons_mk (Below.trod laidOut (by kernel_rfl) (of_decide_eq_true (by kernel_rfl)) k2 bel lt2) trodAll_mk0))), rfl, bel.frame _, fun h => by cases h⟩

theorem over : Rows.queueHeapRow.holds Tryz.pinned (OpenSpec.ofChange Rows.queueHeapSpec) :=
  OpenClaim.holds_of_wide 5 Tryz.f5 rfl rfl rfl rfl rfl rfl rfl ⟨rfl, rfl, rfl, rfl, rfl⟩ rfl rfl rfl rfl rfl (by kernel_rfl) Tryz.func5 (by kernel_rfl)
    (of_decide_eq_true (by kernel_rfl)) (by unfold Func.isWrapper; first | (rw [if_pos (by decide +kernel)]; kernel_rfl) | (rw [if_neg (by decide +kernel)]; exact ⟨rfl, rfl⟩))
    (fun os started H enc _ => lifted os started H enc)

/-- The statement: the card, its listed variable tied to the program's text. -/
theorem proved : Rows.QueueHeapCardSaid :=
  Claim7.holds_tied_plain_at .later [] [.data] true (true, "26507875017e3a76b118212d847f60c59ebd9d430d2b04233b1df170ce6b2d7f") false
    over (fun _ h => by cases h) (by kernel_rfl) (fun _ h => by cases h) queueHeap_row_tie rfl ⟨rfl, rfl⟩ (by kernel_rfl) rfl
    (fun f fn hf hfn => by
      obtain rfl : f = 5 := Option.some.inj ((show Tryz.prog.funcNamed "weighbridge/weighbridgelaw08.QueueHeap" = some 5 by kernel_rfl).symm.trans hf) |>.symm
      obtain rfl : fn = Tryz.f5 := (Option.some.inj (Tryz.func5.symm.trans hfn)).symm
      exact ⟨by kernel_rfl, fun j t ht => by
        rw [Tryz.params5] at ht
        have hm : t ∈ [3, 3, 22] := by simpa using Array.mem_of_getElem? ht
        have hall : ([3, 3, 22].all fun u => !Tryz.prog.wantsStandIn u) = true := by kernel_rfl
        exact (show Tryz.prog.wantsStandIn t = false by simpa using List.all_eq_true.1 hall t hm)⟩)
    (by kernel_rfl)
#print axioms proved
end Go.Proofs.YtajhkdbldbifeaaGreatDoor.queueHeap
