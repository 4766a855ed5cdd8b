/-
  weighbridgelaw06.ShardHeap returns true for every input, and leaves its arguments as they were, where math/bits' table holds what the program's own text lays there (the card ties it). No other condition but that the arguments are values of their types.
-/
import Derived.Test.YtfgffgicfieieaaDoorRows
import Derived.Test.YtfgffgicfieieaaDoorTie
import Derived.Test.YtfgffgicfieieaaDoorCards
import Derived.Test.YtfgffgicfieieaaDoorShardT6
import Derived.ShutString
import Derived.ChangeOld
import Derived.Below
import Derived.SevenTiedAt
namespace Go.Proofs.YtfgffgicfieieaaDoor.shardHeap
open Go.ChangeShapes Go.WideShapes Go.ChangeAt Go.RowKit
set_option linter.unusedVariables false

theorem item_neq (x y : It) (w : World) : (binOp .neq 35 (.agg #[.int .u64 x.k, .int .i64 x.i]) (.agg #[.int .u64 y.k, .int .i64 y.i])).run Tryd.prog w = .ok (.bool (!decide (x = y))) w := by
  have u1 := Tryd.underlying3
  have a1 := Tryd.isAgg3
  have z1 := Tryd.sizeOf3
  have u2 := Tryd.underlying22
  have a2 := Tryd.isAgg22
  have z2 := Tryd.sizeOf22
  rw [run_neq_struct, show (10000 : Nat) = 9999 + 1 from rfl, run_equalIn_agg w 9999 35 _ _ item_struct item_held]
  simp only [Program.fieldsOf, Tryd.underlying35]
  go_simp
  obtain ⟨k, i⟩ := x
  obtain ⟨k', i'⟩ := y
  by_cases h1 : k = k' <;> by_cases h2 : i = i' <;> simp [h1, h2]
set_option maxRecDepth 100000 in
set_option maxHeartbeats 8000000 in
theorem walk (a0 : Int) (a1 : Option Addr) (len1 cap1 : Nat) (z1 : Nat → Dd) (w : World) (w0 : (Lit.int .i64 a0).wf = true) (w1 : InDeeds w a1 len1 z1) (hT : Tab w) :
    Calls Tryd.prog 4 #[.int .i64 a0, .slice a1 len1 cap1] w fun e w' => e = .returned (.bool true) ∧ Below w.heap.size w w' := by
  have W1 := Lib.hid w1
  have HT := Lib.hid hT
  clear w1 hT
  go_enter Tryd.func4, Tryd.ntmps4
  go_wp2_with fail
  refine (made_sound a0 _).mono ?_
  rintro e v1 ⟨wb, S1, yb, T1, wd, rfl, h1⟩
  have H1 := Lib.hid (duo_new h1)
  have aw := sAwake _ (H1.out.tab HT.out).1
  clear h1
  go_wp2_with fail
  refine aw.mono ?_
  rintro e v2 ⟨rfl, o2⟩
  have H2 := Lib.hid (H1.out.only0 o2)
  clear H1 o2 aw
  obtain ⟨xb, exb⟩ : ∃ xb, v1.heap.size = xb := ⟨_, rfl⟩
  rw [exb] at H2
  obtain ⟨T0, eT0⟩ : ∃ T0, iown xb (.slice none 0 0) = T0 := ⟨_, rfl⟩
  rw [eT0] at H2
  (try rw [exb])
  clear eT0
  go_wp2_with fail
  (try simp only [exb])
  go_loopg [8, 9] (len1 + 1) (fun gk sl si wr => ∃ (p : Nat) (S T : List Nat) (base : Int) (l : List It), sl = .int .u64 base ∧ si = .int .i64 (p : Int) ∧ p ≤ len1 ∧ p ≤ 80 ∧ len1 + 1 ≤ gk + p ∧ l.length ≤ p ∧ Hid (Duo w wr wb S xb T wd base l))
  case atStart => exact ⟨0, S1, T0, 0, [], rfl, rfl, by omega, by omega, by omega, by simp, H2⟩
  case round =>
    obtain ⟨p, S, T, base, l, rfl, rfl, hp, hp80, hg, hlp, hS⟩ := hrel
    clear H2
    by_cases hc : p < len1 ∧ p < 80
    · have c1 : (p : Int) < (len1 : Int) := by omega
      have c2 : (p : Int) < 80 := by omega
      obtain ⟨hdok, ad, b, o, s, rfl, hadd, hbw, q0, q1, q2⟩ := W1.out p hc.1
      obtain ⟨d, ed⟩ : ∃ d, z1 p = d := ⟨_, rfl⟩
      rw [ed] at q0 q1 q2 hdok
      have r0 := hS.out.only.stay q0
      have r1 := hS.out.only.stay q1
      have r2 := hS.out.only.stay q2
      have hbN : b < wr.heap.size := by have := hS.out.only.size; omega
      obtain ⟨b0, b1⟩ := hS.out.ours.bases
      have hn := hNear d hdok base (u64ok_of ⟨b0, b1⟩)
      obtain ⟨kk0, kk1⟩ := u64ok_to (nearM_ok (base := base) hdok.2.1)
      obtain ⟨j, hj, hna⟩ := hName1 d hdok
      obtain ⟨q, hq, hwh⟩ := hWhat1 d 4 (by omega) (by omega)
      change ∀ w, Calls _ _ #[.agg #[.int .i64 d.a, .int .u64 d.b, .int .i64 d.c], .int .i64 4] w _ at hwh
      generalize nearM d.b base = k at *
      obtain ⟨m, em⟩ : ∃ m, max k base = m := ⟨_, rfl⟩
      have hm0 : base ≤ m := by omega
      have hmk : (Lit.int .u64 m).wf = true := u64ok_of (by omega)
      have HM := Lib.hid (And.intro hm0 hmk)
      have Q := Lib.hid (And.intro q0 (And.intro q1 q2))
      clear ed hbw hc q0 q1 q2 hm0 hmk kk0 kk1
      go_wp2_with fail
      rename_i K hK
      have rest : ∀ (B : Nat) (W' : World), Only [] wr W' → Box W' B ⟨m, j⟩ → wr.heap.size ≤ B →
          K { tmps := #[.int .i64 a0, .slice (some ad) len1 cap1, undef, undef, u4, .pointer (some ⟨wb, 0, none⟩), .pointer (some ⟨yb, 0, none⟩), .pointer (some ⟨xb, 0, none⟩), .int .u64 base, .int .i64 (p : Int), .pointer (some ⟨B, 0, none⟩), u11, u12, u13, u14, u15, u16, u17, u18, .tuple #[.pointer (some ⟨wb, 0, none⟩), .pointer (some ⟨yb, 0, none⟩)], .int .i64 a0, .tuple #[.pointer (some ⟨wb, 0, none⟩), .pointer (some ⟨yb, 0, none⟩)], .pointer (some ⟨wb, 0, none⟩), .pointer (some ⟨yb, 0, none⟩), .agg #[.slice none 0 0], .pointer (some ⟨xb, 0, none⟩), .bool true, .bool false, .bool false, .pointer (some ⟨wb, 0, none⟩), .bool false, .bool false, .int .i64 (p : Int), .slice (some ad) len1 cap1, .int .i64 (len1 : Int), .bool true, .bool true, .int .i64 (p : Int), .bool true, .bool true, u40, u41, .slice (some ad) len1 cap1, .int .i64 (p : Int), .pointer (some ⟨b, o, s⟩), .agg #[.int .i64 d.a, .int .u64 d.b, .int .i64 d.c], .int .u64 base, .int .u64 k, .int .u64 base, .int .u64 m, .slice (some ad) len1 cap1, .int .i64 (p : Int), .pointer (some ⟨b, o, s⟩), .agg #[.int .i64 d.a, .int .u64 d.b, .int .i64 d.c], .int .i64 j, .agg #[.int .u64 m, .int .i64 j], u56, u57, u58, u59, u60, u61, u62, u63, u64, u65, u66, u67, u68, u69, u70, u71, u72, u73, u74, u75, u76, u77, u78, u79, u80, u81, u82, u83, u84, u85, u86, u87, u88, u89, u90, u91, u92, u93, u94, u95, u96, u97, u98, u99, u100, u101, u102, u103, u104, u105, u106, u107, u108, u109, u110, u111, u112, u113, u114, u115, undef, undef, undef, undef, undef, undef, undef], defers := [] } W' := by
        intro B W' oW bB hB
        have hBS : B ∉ S := fun e => by have := hS.out.ours.lt B e; omega
        have hBT : B ∉ T := fun e => by have := hS.out.ref.lt B e; omega
        have g0 := oW.stay r0
        have g1 := oW.stay r1
        have g2 := oW.stay r2
        have HW := Lib.hid (And.intro (hS.out.only0 oW) bB)
        clear oW bB r0 r1 r2 hn hna
        apply hK
        clear hK
        go_wp2_with fail
        refine (hwh _).mono ?_
        rintro e w1 ⟨rfl, o1⟩
        have D1 := Lib.hid (HW.out.1.only0 o1)
        have bB := Lib.hid (HW.out.2.only o1 (by simp))
        have y0 := bB.out.c0
        have y1 := bB.out.c1
        have hB1 : B < w1.heap.size := bB.out.lt
        simp only at y0 y1
        clear o1 HW g0 g1 g2 hwh
        have hq4 : q = 0 ∨ q = 1 ∨ q = 2 ∨ q = 3 := by omega
        clear hq
        rcases hq4 with rfl | rfl | rfl | rfl
        iterate 2
          · have hpu := sPush w1.drew wb S wd base l (D1.out.ours.only0 ((Only.refl [] w1).drew)) ⟨m, j⟩ ⟨HM.out.2, hj⟩ (by omega)
            rw [decide_eq_true (by exact HM.out.1)] at hpu
            simp only [Bool.and_true] at hpu
            obtain ⟨bb, hbb⟩ : ∃ bb, (!hasId j l) = bb := ⟨_, rfl⟩
            obtain ⟨ll, hll⟩ : ∃ ll : List It, (if bb = true then ins ⟨m, j⟩ l else l) = ll := ⟨_, rfl⟩
            rw [hbb, hll] at hpu
            have hrp : Hid (∀ W, ItemsOf Ri W xb T l → Calls Tryd.prog 18 #[.pointer (some ⟨xb, 0, none⟩), .agg #[.int .u64 m, .int .i64 j]] W fun e w' => e = .returned (.bool bb) ∧ ∃ S', ItemsOf Ri w' xb S' ll ∧ Moved W T w' S') := fun W hW => by
              have := xPush Ri W xb T l hW ⟨m, j⟩ (by omega)
              simp only at this
              have e9 : (if hasId j l = true then l else ins ⟨m, j⟩ l) = ll := by
                rw [← hll, ← hbb]
                cases hasId j l <;> rfl
              rw [hbb, e9] at this
              exact this
            have hlen : Hid (ll.length ≤ l.length + 1) := by
              show _ ≤ _
              rw [← hll]
              split
              · rw [ins_len]; omega
              · omega
            have HPU := Lib.hid hpu
            clear hbb hll hpu
            go_wp2_with fail
            go_region_held3 (fun w' => w'.cell? ⟨B, 0, none⟩ = some (.int .u64 m) ∧ w'.cell? ⟨B, 1, none⟩ = some (.int .i64 j))
              (first | go_keep | (exact ⟨k0, k1⟩) | (exact ⟨k2, k3⟩))
              (first
                | (go_at_call 10; refine HPU.out.mono ?_; rintro e u1 ⟨rfl, S1, q1, q2⟩; have b3 := (bB.out.only (Only.refl [] w1).drew (by simp)).moved q2 hBS; have k0 := b3.1.c0; have k1 := b3.1.c1; simp only at k0 k1; have Q1 := Lib.hid (And.intro q1 (And.intro q2 b3)); clear q1 q2 b3)
                | (go_at_call 18; refine (hrp.out _ ((D1.out.only0 (Only.refl [] w1).drew).after Q1.out.2.1)).mono ?_; rintro e u2 ⟨rfl, T1, q1, q2⟩; have b4 := Q1.out.2.2.1.moved q2 hBT; have k2 := b4.1.c0; have k3 := b4.1.c1; simp only at k2 k3; have Q2 := Lib.hid (And.intro q1 q2); clear q1 q2 b4))
            have D5 := Lib.hid ((D1.out.only0 (Only.refl [] w1).drew).mk2 Q1.out.1 Q1.out.2.1 Q2.out.1 Q2.out.2)
            go_wp2_with fail
            go_roundg (len1 + 1 - (p + 1))
            case measure => omega
            case rel => exact ⟨p + 1, S1, T1, base, ll, rfl, by simp, by omega, by omega, by omega, by have := hlen.out; omega, D5⟩
        · obtain ⟨t1, t2⟩ := D1.out.tab HT.out
          have hpo := sPop w1 wb S wd base l D1.out.ours t1 t2
          have hro : Hid (∀ W, ItemsOf Ri W xb T l → Calls Tryd.prog 20 #[.pointer (some ⟨xb, 0, none⟩)] W fun e w' => e = .returned (.tuple #[(first l).val, .bool (!l.isEmpty)]) ∧ ∃ S', ItemsOf Ri w' xb S' l.tail ∧ Moved W T w' S') := fun W hW => xPop Ri W xb T l hW
          unfold It.val at hpo hro
          have htl : Hid (l.tail.length ≤ l.length) := by show _ ≤ _; simp
          generalize hx : first l = x at *
          have he := item_neq x x
          have hgi := item_guard
          simp only [decide_true, Bool.not_true] at he
          clear t1 t2
          rcases hem : l.isEmpty with _ | _
          all_goals
            rw [hem] at hpo hro
            simp only [Bool.not_true, Bool.not_false, Bool.false_eq_true, if_false, if_true] at hpo hro
            go_wp2_with fail
            refine hpo.mono ?_
            rintro e w2 ⟨rfl, S2, q1, q2⟩
            have oN : Only [] w2 (w2.alloc (.cells #[.int .u64 x.k, .int .i64 x.i] 35)) := (Only.refl [] w2).alloc _
            have bA : Hid (Box (w2.alloc (.cells #[.int .u64 x.k, .int .i64 x.i] 35)) w2.heap.size x) := Box.new w2 x
            have hr2 := hro.out _ ((D1.out.after q2).only0 oN)
            have hsT : w2.heap.size ∉ T := fun e => by have := D1.out.ref.lt _ e; have := q2.1.size; omega
            have Q1 := Lib.hid (And.intro (q1.only0 oN) (q2.still oN))
            clear q1 q2 hpo oN
            go_wp2_with fail
            refine hr2.mono ?_
            rintro e w3 ⟨rfl, T3, q1, q2⟩
            have b3 := bA.out.only q2.1 hsT
            have a0' := b3.c0
            have a1' := b3.c1
            have hlt3 : w2.heap.size < w3.heap.size := b3.lt
            have D3 := Lib.hid ((D1.out.mk2 Q1.out.1 Q1.out.2 q1 q2).only0 ((Only.refl [] w3).alloc (.cells #[.int .u64 x.k, .int .i64 x.i] 35)))
            clear q1 q2 b3 hr2
            go_wp2_with fail
            go_roundg (len1 + 1 - (p + 1))
            case measure => omega
            case rel => exact ⟨p + 1, S2, T3, _, l.tail, rfl, by simp, by omega, by omega, by omega, by have := htl.out; omega, D3⟩
        · have hpo := sDrop w1 wb S wd base l D1.out.ours j hj
          have hids := D1.out.ours.sits.ids
          have hro : Hid (∀ W, ItemsOf Ri W xb T l → Calls Tryd.prog 22 #[.pointer (some ⟨xb, 0, none⟩), .int .i64 j] W fun e w' => e = .returned (.tuple #[((findId j l).getD ⟨0, 0⟩).val, .bool (findId j l).isSome]) ∧ ∃ S', ItemsOf Ri w' xb S' (dropId j l) ∧ Moved W T w' S') := fun W hW => xDrop Ri W xb T l hW hids j
          clear hids
          unfold It.val at hpo hro
          have hlen : Hid ((dropId j l).length ≤ l.length) := (List.eraseP_sublist).length_le
          generalize (findId j l).getD ⟨0, 0⟩ = x at *
          generalize (findId j l).isSome = pp at *
          generalize dropId j l = ld at *
          have he := item_neq x x
          have hgi := item_guard
          simp only [decide_true, Bool.not_true] at he
          go_wp2_with fail
          refine hpo.mono ?_
          rintro e w2 ⟨rfl, S2, q1, q2⟩
          have oN : Only [] w2 (w2.alloc (.cells #[.int .u64 x.k, .int .i64 x.i] 35)) := (Only.refl [] w2).alloc _
          have bA0 : Hid (Box (w2.alloc (.cells #[.int .u64 x.k, .int .i64 x.i] 35)) w2.heap.size x) := Box.new w2 x
          have bB2 := bB.out.moved q2 hBS
          have hB2 : B < w2.heap.size := bB2.1.lt
          have bB3 := bB2.1.only oN (by simp)
          have z0 := bB3.c1
          simp only at z0
          have hr3 := hro.out _ ((D1.out.after q2).only0 oN)
          have hAT : w2.heap.size ∉ T := fun e => by have := D1.out.ref.lt _ e; have := q2.1.size; omega
          have Q1 := Lib.hid (And.intro (q1.only0 oN) (q2.still oN))
          clear q1 q2 hpo bB2 bB3 y0 y1 oN
          go_wp2_with fail
          refine hr3.mono ?_
          rintro e w4 ⟨rfl, T4, q1, q2⟩
          have b3 := bA0.out.only q2.1 hAT
          have a0' := b3.c0
          have a1' := b3.c1
          have hlt3 : w2.heap.size < w4.heap.size := b3.lt
          have D5 := Lib.hid ((D1.out.mk2 Q1.out.1 Q1.out.2 q1 q2).only0 ((Only.refl [] w4).alloc (.cells #[.int .u64 x.k, .int .i64 x.i] 35)))
          clear q1 q2 b3 hr3 z0
          go_wp2_with fail
          go_roundg (len1 + 1 - (p + 1))
          case measure => omega
          case rel => exact ⟨p + 1, S2, T4, base, ld, rfl, by simp, by omega, by omega, by omega, by have := hlen.out; omega, D5⟩
      have HR := Lib.hid rest
      clear rest
      have hsz0 : wr.heap.size ≤ wr.heap.size := Nat.le_refl _
      go_region_held3 (fun w' => w'.cell? ⟨b, o, s⟩ = some (.int .i64 d.a) ∧ w'.cell? ⟨b, o + 1, none⟩ = some (.int .u64 d.b) ∧ w'.cell? ⟨b, o + 2, none⟩ = some (.int .i64 d.c))
        (first | go_keep | (exact ⟨e0, e1, e2⟩) | (exact ⟨j0, j1, j2⟩) | (exact ⟨s0 _ _, s1 _ _, s2 _ _⟩) | (exact ⟨t0 _ _, t1 _ _, t2 _ _⟩))
        (first
          | (go_at_call 9; refine (hn _).mono ?_; rintro e w1 ⟨rfl, o1⟩; have e0 := o1.stay (p := ⟨b, o, s⟩) (v := .int .i64 d.a) (by go_simp); have e1 := o1.stay (p := ⟨b, o + 1, none⟩) (v := .int .u64 d.b) (by go_simp); have e2 := o1.stay (p := ⟨b, o + 2, none⟩) (v := .int .i64 d.c) (by go_simp); have hN1 : b < w1.heap.size := World.block_lt_of_cell? w1 ⟨b, o, s⟩ e0; (try (have bz1 : Box w1 wr.heap.size ⟨0, 0⟩ := by (refine Box.only (S := []) ?_ o1 (by simp); exact Box.new wr ⟨0, 0⟩))))
          | (go_at_call 16; refine (hna _).mono ?_; rintro e w2 ⟨rfl, o2⟩; have j0 := o2.stay (p := ⟨b, o, s⟩) (v := .int .i64 d.a) (by go_simp); have j1 := o2.stay (p := ⟨b, o + 1, none⟩) (v := .int .u64 d.b) (by go_simp); have j2 := o2.stay (p := ⟨b, o + 2, none⟩) (v := .int .i64 d.c) (by go_simp); have hN2 : b < w2.heap.size := World.block_lt_of_cell? w2 ⟨b, o, s⟩ j0; have st : ∀ (bb : Nat) (pp : Addr) (u v x : Value), bb ≠ pp.block → w2.cell? pp = some x → ((w2.setCell ⟨bb, 0, none⟩ u).setCell ⟨bb, 1, none⟩ v).cell? pp = some x := (fun bb pp u v x hb hc => ((((Only.refl [bb] w2).setCell (.inl (by simp)) u).setCell (.inl (by simp)) v).cell (World.block_lt_of_cell? w2 pp hc) (by simp; exact fun e => hb e.symm)).trans hc); (try (have bz2 : Box w2 wr.heap.size ⟨0, 0⟩ := by (refine Box.only (S := []) ?_ o2 (by simp); exact bz1)); have z0 := bz2.c0; have z1 := bz2.c1; have f0 := bz2.fr 0; have f1 := bz2.fr 1; have s0 := (fun u v => st wr.heap.size ⟨b, o, s⟩ u v _ (by simp only; omega) j0); have s1 := (fun u v => st wr.heap.size ⟨b, o + 1, none⟩ u v _ (by simp only; omega) j1); have s2 := (fun u v => st wr.heap.size ⟨b, o + 2, none⟩ u v _ (by simp only; omega) j2)); (try (have bz2 : Box w2 w1.heap.size ⟨0, 0⟩ := by (refine Box.only (S := []) ?_ o2 (by simp); exact Box.new w1 ⟨0, 0⟩)); have z0 := bz2.c0; have z1 := bz2.c1; have f0 := bz2.fr 0; have f1 := bz2.fr 1; have t0 := (fun u v => st w1.heap.size ⟨b, o, s⟩ u v _ (by simp only; omega) j0); have t1 := (fun u v => st w1.heap.size ⟨b, o + 1, none⟩ u v _ (by simp only; omega) j1); have t2 := (fun u v => st w1.heap.size ⟨b, o + 2, none⟩ u v _ (by simp only; omega) j2))))
      all_goals
        have oA : Only [] wr w2 := by
          first
            | exact ((Only.refl [] wr).drew.trans' o1).trans' o2
            | exact (((Only.refl [] wr).drew.trans' o1).alloc _).trans' o2
            | exact (((Only.refl [] wr).alloc _).drew.trans' o1).trans' o2
        have hs1 : wr.heap.size ≤ w1.heap.size := by
          have := o1.size
          simp at this
          omega
        have hs2 : wr.heap.size ≤ w2.heap.size := oA.size
        first
          | exact HR.out w2.heap.size _ (oA.alloc _) (Box.new w2 ⟨m, j⟩) hs2
          | exact HR.out wr.heap.size _ ((oA.setCell (.inr hsz0) _).setCell (.inr hsz0) _) (bz2.put m j) hsz0
          | exact HR.out w1.heap.size _ ((oA.setCell (.inr hs1) _).setCell (.inr hs1) _) (bz2.put m j) hs1
    · obtain ⟨Ax, capx, x0, xr⟩ := hS.out.rows
      have HXR := Lib.hid xr
      have hal := Lib.hid (sAll wr.drew wb S wd base l (hS.out.ours.only0 (Only.refl [] wr).drew) ((hS.out.only0 (Only.refl [] wr).drew).tab HT.out).1)
      have hcd : (decide ((p : Int) < (len1 : Int)) = false ∧ ¬ ((p : Int) < (len1 : Int))) ∨ ((p : Int) < (len1 : Int) ∧ decide ((p : Int) < 80) = false) := by
        have hce : ¬ p < len1 ∨ (p < len1 ∧ ¬ p < 80) := by omega
        rcases hce with h9 | h9
        · exact .inl ⟨decide_eq_false (by omega), by omega⟩
        · exact .inr ⟨by omega, decide_eq_false (by omega)⟩
      clear hc hp xr
      rcases hcd with ⟨c1, c2⟩ | ⟨c1, c2⟩
      all_goals
        go_wp2_with fail
        go_region_held3 (fun w' => w'.cell? ⟨xb, 0, none⟩ = some (.slice Ax l.length capx))
          (first | go_keep | (exact k0) | (exact k1))
          (first
            | (go_at_call 15; refine hal.out.mono ?_; rintro e u1 ⟨A2, cap2, rfl, r2, v2, o2⟩; have k0 := o2.stay (p := ⟨xb, 0, none⟩) (v := .slice Ax l.length capx) (by exact x0); have O2 := Lib.hid ((Only.refl [] wr).drew.trans' o2); have R2 := Lib.hid (And.intro r2 (HXR.out.keep (w' := u1) (fun g hg => ((Only.refl [] wr).drew.trans' o2).block g (HXR.out.lt hg) (by simp)))); clear r2 v2 o2)
            | (go_at_call 14; refine (hPlain _ _ _ l l (by exact R2.out.1) (by exact R2.out.2) (by omega) (by omega)).mono ?_; rintro e u2 ⟨rfl, o3⟩; have k1 := o3.stay k0; have O3 := Lib.hid o3; clear o3))
        go_wp2_with fail
        go_ret
        exact ⟨by simp, ((hS.out.only.trans' O2.out).trans' O3.out).below (Nat.le_refl _) (by simp)⟩

/-! ### The step from the walk to the row -/
set_option maxRecDepth 100000 in
theorem lifted (os : Os) (started : os.Started) (H : Type) (enc : TypeId × Value → H) :
    ReturnsInHanded {} Tryd.checked os 4 .any (fun w args => (Rows.shardHeapSpec.pre enc Tryd.prog Tryd.f4 [] false w args ∧ laidMetH Tryd.prog listed w) ∧ sizedMet enc Tryd.prog Tryd.f4 (OpenSpec.ofChange Rows.shardHeapSpec) false w args)
      (Rows.shardHeapSpec.post enc Tryd.prog Tryd.f4 false true false false) := by
  refine returnsInHanded_of_change_and (C := Tryd.checked) (X := fun w _ => laidMetH Tryd.prog listed w) (fun _ _ _ hh h => h.of_heap hh) own started (by kernel_rfl) Tryd.func4
    (ChangeSpec.witness_shaped (enc := enc) (C := Tryd.checked) (os := os) (X := fun w _ => laidMetH Tryd.prog listed w) false (World.doorLaid Tryd.prog 14 os) #[.int .i64 0, .slice none 0 0] 8 rfl (World.shaped_of_RefB (by kernel_rfl) (by kernel_rfl)) (by kernel_rfl) (by kernel_rfl) (by kernel_rfl) (door_met os _)) ?_
  intro W base args ds gs before hval0 hW _ _ hL _
  have hval : ∀ (j : Nat) t v, Tryd.f4.params[j]? = some t → args[j]? = some v → Value.okWide Tryd.prog W .any base t v := hval0
  have hW' := hW
  obtain ⟨p, q, hA0, hV, rfl, hfz, hnd⟩ := hW
  have hA : DataW.TrodAll enc Tryd.prog W 0 (fun _ => true) true Tryd.f4.params.toList args.toList ds p := hA0
  rw [Tryd.params4] at hA hval
  obtain ⟨v0, vs0, d0, ds0, p0, q0, hargs, rfl, rfl, h0, r0⟩ := trodAll_cons hA
  obtain ⟨v1, vs1, d1, ds1, p1, q1, rfl, rfl, rfl, h1, r1⟩ := trodAll_cons r0
  obtain ⟨rfl, rfl, rfl⟩ := trodAll_nil r1
  obtain rfl : args = #[v0, v1] := by cases args; simp_all
  obtain ⟨rfl, rfl⟩ := trodVars_none hV
  obtain ⟨a0, rfl, rfl, rfl, w0⟩ := open_int Tryd.underlying3 (hval 0 3 v0 rfl rfl) h0
  obtain ⟨a1, len1, cap1, rfl⟩ := okWide_slice Tryd.underlying45 (hval 1 45 v1 rfl rfl)
  have k1 := h1
  have lt1 : ∀ x ∈ p1, x.block < W.heap.size := by obtain ⟨m, hm⟩ := k1; exact DataW.trod_lt m _ _ _ hm
  obtain ⟨z1, w1⟩ : ∃ z, InDeeds W a1 len1 z := by
    obtain ⟨fuel, hf⟩ := h1
    exact open_deeds hf
  clear hA0 hval0
  refine (walk a0 a1 len1 cap1 z1 W w0 w1 (tab_of_laid hL)).mono fun e W' ⟨he, bel⟩ => ?_
  subst he
  exact ⟨_, rfl, _, _, _, [], _, [], hW', trodAll_mk1 (shut_bool Tryd.underlying4 _), (trodAll_cons_mk (shut_int Tryd.underlying3 w0) (trodAll_cons_mk (Below.trod laidOut (by kernel_rfl) (of_decide_eq_true (by kernel_rfl)) k1 bel lt1) trodAll_mk0)), rfl, bel.frame _, fun h => by cases h⟩

theorem over : Rows.shardHeapRow.holds Tryd.pinned (OpenSpec.ofChange Rows.shardHeapSpec) :=
  OpenClaim.holds_of_wide 4 Tryd.f4 rfl rfl rfl rfl rfl rfl rfl ⟨rfl, rfl, rfl, rfl, rfl⟩ rfl rfl rfl rfl rfl (by kernel_rfl) Tryd.func4 (by kernel_rfl)
    (of_decide_eq_true (by kernel_rfl)) (by unfold Func.isWrapper; first | (rw [if_pos (by decide +kernel)]; kernel_rfl) | (rw [if_neg (by decide +kernel)]; exact ⟨rfl, rfl⟩))
    (fun os started H enc _ => lifted os started H enc)

/-- The statement: the card, its listed variable tied to the program's text. -/
theorem proved : Rows.ShardHeapCardSaid :=
  Claim7.holds_tied_plain_at .later [] [.data] true (true, "0ee8118f44577387b3c3ee20505714eedfc64a1448e6886277f042c61eddc5d8") false
    over (fun _ h => by cases h) (by kernel_rfl) (fun _ h => by cases h) shardHeap_row_tie rfl ⟨rfl, rfl⟩ (by kernel_rfl) rfl
    (fun f fn hf hfn => by
      obtain rfl : f = 4 := Option.some.inj ((show Tryd.prog.funcNamed "weighbridge/weighbridgelaw06.ShardHeap" = some 4 by kernel_rfl).symm.trans hf) |>.symm
      obtain rfl : fn = Tryd.f4 := (Option.some.inj (Tryd.func4.symm.trans hfn)).symm
      exact ⟨by kernel_rfl, fun j t ht => by
        rw [Tryd.params4] at ht
        have hm : t ∈ [3, 45] := by simpa using Array.mem_of_getElem? ht
        have hall : ([3, 45].all fun u => !Tryd.prog.wantsStandIn u) = true := by kernel_rfl
        exact (show Tryd.prog.wantsStandIn t = false by simpa using List.all_eq_true.1 hall t hm)⟩)
    (by kernel_rfl)
#print axioms proved
end Go.Proofs.YtfgffgicfieieaaDoor.shardHeap
