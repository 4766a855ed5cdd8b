/-
  The statements' step: both queues tell the same, and hold the same behind it.
-/
import Derived.Test.YtajhkdbldbifeaaGreatDoorQueueI
import Derived.Test.YtajhkdbldbifeaaGreatDoorQueueD
import Derived.Deep.DeepCutAuto
namespace Go.Proofs.YtajhkdbldbifeaaGreatDoor
set_option maxRecDepth 100000
open Go.RowKit Go.ChangeMaps Go.MapKept
set_option linter.unusedVariables false
set_option linter.unusedSimpArgs false

theorem ins_len (x : It) (l : List It) : (ins x l).length = l.length + 1 := by
  have := (ins_perm x l).length_eq
  simpa using this
/-- What a deed's step makes of bases and lists: q: which one of eight it is. -/
structure StepTo (q n : Nat) (B : Nat → Int) (L : Nat → List It) (B' : Nat → Int) (L' : Nat → List It) : Prop where
  pop : q = 4 ∨ q = 5 → B' = popB L n B ∧ L' = popL L n
  not : ¬ (q = 4 ∨ q = 5) → B' = B
  len : ∀ i, (L' i).length ≤ (L i).length + 1
theorem fup_len (L : Nat → List It) (i : Nat) (l : List It) (h : l.length ≤ (L i).length + 1) : ∀ k, (fup L i l k).length ≤ (L k).length + 1 := fun k => by
  by_cases e : k = i
  · subst e; rw [fup_same]; exact h
  · rw [fup_other _ _ e]; omega
theorem pushL_len (L : Nat → List It) (n : Nat) (B : Nat → Int) (x : It) : ∀ k, (pushL L n B x k).length ≤ (L k).length + 1 := by
  unfold pushL
  split
  · exact fup_len L _ _ (by rw [ins_len]; exact Nat.le_refl _)
  · intro k; omega
theorem popL_len (L : Nat → List It) (n : Nat) : ∀ k, (popL L n k).length ≤ (L k).length + 1 := by
  unfold popL
  split
  · intro k; omega
  · exact fup_len L _ _ (by simp; omega)
theorem dropL_len (L : Nat → List It) (n : Nat) (id : Int) : ∀ k, (dropL L n id k).length ≤ (L k).length + 1 := by
  unfold dropL
  split
  · exact fup_len L _ _ (Nat.le_trans (List.eraseP_sublist).length_le (Nat.le_succ _))
  · intro k; omega
/-- What is behind a step. -/
def Aft (w : World) (qb : Nat) (S : List Nat) (xb : Nat) (T : List Nat) (n wd : Nat) (B : Nat → Int) (L : Nat → List It) (w' : World) : Prop :=
  ∃ S' T', QPair w' qb S' xb T' n wd B L ∧ Only (S ++ T) w w' ∧ (∀ b ∈ S', b ∈ S ∨ w.heap.size ≤ b) ∧ (∀ b ∈ T', b ∈ T ∨ w.heap.size ≤ b)
theorem Aft.still {w w1 w2 : World} {qb xb n wd : Nat} {S T : List Nat} {B : Nat → Int} {L : Nat → List It} (h : Aft w qb S xb T n wd B L w1) (ho : Only [] w1 w2) : Aft w qb S xb T n wd B L w2 := by
  obtain ⟨S', T', h1, h3, h4, h5⟩ := h
  exact ⟨S', T', h1.only0 ho, h3.trans ho (by simp), h4, h5⟩
/-- Ours moved, then the document's. -/
theorem Aft.mk {w w0 w1 w2 : World} {qb xb n wd : Nat} {S T S' T' : List Nat} {B B' : Nat → Int} {L L' : Nat → List It} (hp : QPair w qb S xb T n wd B L) (o0 : Only [] w w0) (h1 : QueueOf w1 qb S' n wd B' L') (m1 : Moved w0 S w1 S') (h2 : RQOf w2 xb T' n wd B' L') (m2 : Moved w1 T w2 T') : Aft w qb S xb T n wd B' L' w2 := by
  have hT1 : ∀ b ∈ T, b < w.heap.size := hp.ref.lt
  have n1 := (Moved.of_only (S := S) o0).trans m1
  have hST : ∀ b ∈ S', b ∉ T := fun b hb hc => by
    rcases n1.2 b hb with h | h
    · exact hp.dis b h hc
    · have := hT1 b hc; omega
  refine ⟨S', T', ⟨h1.only m2.1 hST, h2, fun b hb hc => ?_⟩, ?_, n1.2, fun b hb => ?_⟩
  · rcases m2.2 b hc with h | h
    · exact hST b hb h
    · have := h1.lt b hb; omega
  · exact (n1.1.mono (T := S ++ T) (by intro k hk; exact .inl (by simp [hk]))).trans m2.1 (fun k hk => .inl (by simp [hk]))
  · rcases m2.2 b hb with h | h
    · exact .inl h
    · exact .inr (Nat.le_trans n1.1.size h)
/-- The document's queue behind what was done to ours. -/
theorem QPair.ref_after {w w0 w1 : World} {qb xb n wd : Nat} {S T S' : List Nat} {B : Nat → Int} {L : Nat → List It} (hp : QPair w qb S xb T n wd B L) (o0 : Only [] w w0) (m1 : Moved w0 S w1 S') : RQOf w1 xb T n wd B L :=
  (hp.ref.only0 o0).only m1.1 (fun b hb hc => hp.dis b hc hb)

set_option maxHeartbeats 8000000 in
theorem hStep8 (w : World) (qb : Nat) (S : List Nat) (xb : Nat) (T : List Nat) (n wd : Nat) (B : Nat → Int) (L : Nat → List It) (hp : QPair w qb S xb T n wd B L) (hT : Tab w) (hg : 0 ∉ S) (hl : ∀ i, (L i).length < 1000) (d : Dd) (hd : d.ok) (q : Nat) (hq : q < 8)
    (hwh : ∀ w, Calls Tryz.prog 21 #[.agg #[.int .i64 d.a, .int .u64 d.b, .int .i64 d.c], .int .i64 8] w fun e w' => e = .returned (.int .i64 (q : Int)) ∧ Only [] w w') :
    Calls Tryz.prog 10 #[.pointer (some ⟨qb, 0, none⟩), .pointer (some ⟨xb, 0, none⟩), .agg #[.int .i64 d.a, .int .u64 d.b, .int .i64 d.c]] w fun e w' => e = .returned (.bool true) ∧ ∃ B' L', StepTo q n B L B' L' ∧ Aft w qb S xb T n wd B' L' w' := by
  have hwd := hp.ours.wd40
  have hbs : Hid (∀ i, i < n → 0 ≤ B i ∧ B i ≤ 18446744073709551615) := fun i hi => ⟨(hp.ours.sits hi).b0, (hp.ours.sits hi).b1⟩
  obtain ⟨j, hj, hna⟩ := hName1 d hd
  have hba : Hid (∀ W, Only [] w W → Calls Tryz.prog 33 #[.pointer (some ⟨xb, 0, none⟩)] W fun e w' => ∃ z, e = .returned (.int .u64 z) ∧ (0 ≤ z ∧ z ≤ 18446744073709551615) ∧ Only [] W w') := fun W o => hBase W xb T n wd B L (hp.ref.only0 o) hbs.out
  have hne : Hid (∀ z, (0 ≤ z ∧ z ≤ 18446744073709551615) → ∃ k, (Lit.int .u64 k).wf = true ∧ ∀ W, Calls Tryz.prog 19 #[.agg #[.int .i64 d.a, .int .u64 d.b, .int .i64 d.c], .int .u64 z] W fun e w' => e = .returned (.int .u64 k) ∧ Only [] W w') := fun z hz => ⟨_, nearM_ok hd.2.1, fun W => hNear d hd z (u64ok_of hz) W⟩
  have oA : Only [] w (w.alloc (.cells #[.int .i64 d.a, .int .u64 d.b, .int .i64 d.c] 31)) := (Only.refl [] w).alloc _
  have bD : DBox _ w.heap.size d := DBox.new w d
  have HP := Lib.hid (And.intro hp (And.intro hT (And.intro hg (And.intro oA bD))))
  have hSw : Hid (∀ b ∈ S, b < w.heap.size) := hp.ours.lt
  have hTw : Hid (∀ b ∈ T, b < w.heap.size) := hp.ref.lt
  have HL := Lib.hid hl
  clear hp hT hg oA bD hl
  obtain ⟨V, eV⟩ : ∃ V, w.alloc (.cells #[.int .i64 d.a, .int .u64 d.b, .int .i64 d.c] 31) = V := ⟨_, rfl⟩
  obtain ⟨N, eN⟩ : ∃ N, w.heap.size = N := ⟨_, rfl⟩
  rw [eV, eN] at HP
  rw [eN] at hSw hTw
  obtain ⟨d0, d1, d2⟩ := HP.out.2.2.2.2.c
  go_enter Tryz.func10, Tryz.ntmps10
  go_wp2_with (simp only [eV, eN])
  have EN := Lib.hid eN
  clear eV eN
  have hNV : N < V.heap.size := HP.out.2.2.2.2.lt
  have hsz0 : V.heap.size ≤ V.heap.size := Nat.le_refl _
  go_upto_region 1 with fail
  go_cut [7] (fun s7 wx => ∃ (bx : Nat) (k : Int), s7 = .pointer (some ⟨bx, 0, none⟩) ∧ Hid (Box wx bx ⟨k, j⟩ ∧ (Lit.int .u64 k).wf = true ∧ Only [] V wx ∧ V.heap.size ≤ bx))
  case first =>
    go_region_held3 (fun w' => w'.cell? ⟨N, 0, none⟩ = some (.int .i64 d.a) ∧ w'.cell? ⟨N, 1, none⟩ = some (.int .u64 d.b) ∧ w'.cell? ⟨N, 2, none⟩ = some (.int .i64 d.c))
      (first | go_keep | (exact ⟨a0, a1, a2⟩) | (exact ⟨e0, e1, e2⟩) | (exact ⟨j0, j1, j2⟩) | (exact ⟨s0 _ _, s1 _ _, s2 _ _⟩))
      (first
        | (go_at_call 33; refine (hba.out _ (by first | exact HP.out.2.2.2.1.drew | exact (HP.out.2.2.2.1.alloc _).drew)).mono ?_; rintro e w0 ⟨z, rfl, hz, o0⟩; have a0 := o0.stay (p := ⟨N, 0, none⟩) (v := .int .i64 d.a) (by go_simp); have a1 := o0.stay (p := ⟨N, 1, none⟩) (v := .int .u64 d.b) (by go_simp); have a2 := o0.stay (p := ⟨N, 2, none⟩) (v := .int .i64 d.c) (by go_simp); have hN0 : N < w0.heap.size := World.block_lt_of_cell? w0 ⟨N, 0, none⟩ a0; have oo0 : Hid (Only [] V w0) := (by first | exact (Only.refl [] V).drew.trans' o0 | exact ((Only.refl [] V).alloc _).drew.trans' o0); have hs0 : V.heap.size ≤ w0.heap.size := oo0.out.size; obtain ⟨k, hk, hn⟩ := hne.out z hz; (try (have bz0 : Box w0 V.heap.size ⟨0, 0⟩ := by (refine Box.only (S := []) ?_ o0 (by simp); exact Box.new V ⟨0, 0⟩))))
        | (go_at_call 19; refine (hn _).mono ?_; rintro e w1 ⟨rfl, o1⟩; have e0 := o1.stay (p := ⟨N, 0, none⟩) (v := .int .i64 d.a) (by go_simp); have e1 := o1.stay (p := ⟨N, 1, none⟩) (v := .int .u64 d.b) (by go_simp); have e2 := o1.stay (p := ⟨N, 2, none⟩) (v := .int .i64 d.c) (by go_simp); have hN1 : N < w1.heap.size := World.block_lt_of_cell? w1 ⟨N, 0, none⟩ e0; have oo1 : Hid (Only [] V w1) := (by first | exact oo0.out.trans' o1 | exact (oo0.out.alloc _).trans' o1); have hs1 : V.heap.size ≤ w1.heap.size := oo1.out.size; (try (have bz1 : Box w1 V.heap.size ⟨0, 0⟩ := bz0.only o1 (by simp))); (try (have by1 : Box w1 w0.heap.size ⟨0, 0⟩ := by (refine Box.only (S := []) ?_ o1 (by simp); exact Box.new w0 ⟨0, 0⟩))))
        | (go_at_call 34; refine (hna _).mono ?_; rintro e w2 ⟨rfl, o2⟩; have j0 := o2.stay (p := ⟨N, 0, none⟩) (v := .int .i64 d.a) (by go_simp); have j1 := o2.stay (p := ⟨N, 1, none⟩) (v := .int .u64 d.b) (by go_simp); have j2 := o2.stay (p := ⟨N, 2, none⟩) (v := .int .i64 d.c) (by go_simp); have hN2 : N < w2.heap.size := World.block_lt_of_cell? w2 ⟨N, 0, none⟩ j0; have oo2 : Hid (Only [] V w2) := (by first | exact oo1.out.trans' o2 | exact (oo1.out.alloc _).trans' o2); have hs2 : V.heap.size ≤ w2.heap.size := oo2.out.size; have st : ∀ (b : Nat) (p : Addr) (u v x : Value), b ≠ p.block → w2.cell? p = some x → ((w2.setCell ⟨b, 0, none⟩ u).setCell ⟨b, 1, none⟩ v).cell? p = some x := (fun b p u v x hb hc => ((((Only.refl [b] w2).setCell (.inl (by simp)) u).setCell (.inl (by simp)) v).cell (World.block_lt_of_cell? w2 p hc) (by simp; exact fun e => hb e.symm)).trans hc); (try (have bz2 : Box w2 V.heap.size ⟨0, 0⟩ := bz1.only o2 (by simp); have z0 := bz2.c0; have z1 := bz2.c1; have f0 := bz2.fr 0; have f1 := bz2.fr 1; have s0 := (fun u v => st V.heap.size ⟨N, 0, none⟩ u v _ (by simp only; omega) j0); have s1 := (fun u v => st V.heap.size ⟨N, 1, none⟩ u v _ (by simp only; omega) j1); have s2 := (fun u v => st V.heap.size ⟨N, 2, none⟩ u v _ (by simp only; omega) j2))); (try (have bz2 : Box w2 w0.heap.size ⟨0, 0⟩ := by1.only o2 (by simp); have z0 := bz2.c0; have z1 := bz2.c1; have f0 := bz2.fr 0; have f1 := bz2.fr 1; have s0 := (fun u v => st w0.heap.size ⟨N, 0, none⟩ u v _ (by simp only; omega) j0); have s1 := (fun u v => st w0.heap.size ⟨N, 1, none⟩ u v _ (by simp only; omega) j1); have s2 := (fun u v => st w0.heap.size ⟨N, 2, none⟩ u v _ (by simp only; omega) j2))); (try (have bz2 : Box w2 w1.heap.size ⟨0, 0⟩ := (by (refine Box.only (S := []) ?_ o2 (by simp); exact Box.new w1 ⟨0, 0⟩)); have z0 := bz2.c0; have z1 := bz2.c1; have f0 := bz2.fr 0; have f1 := bz2.fr 1; have s0 := (fun u v => st w1.heap.size ⟨N, 0, none⟩ u v _ (by simp only; omega) j0); have s1 := (fun u v => st w1.heap.size ⟨N, 1, none⟩ u v _ (by simp only; omega) j1); have s2 := (fun u v => st w1.heap.size ⟨N, 2, none⟩ u v _ (by simp only; omega) j2)))))
    all_goals
      go_wp2_with fail
      go_meet
      case rel =>
        first
          | exact ⟨w2.heap.size, k, rfl, Box.new w2 ⟨k, j⟩, hk, oo2.out.alloc _, hs2⟩
          | exact ⟨V.heap.size, k, rfl, bz2.put k j, hk, (oo2.out.setCell (.inr hsz0) _).setCell (.inr hsz0) _, hsz0⟩
          | exact ⟨w0.heap.size, k, rfl, bz2.put k j, hk, (oo2.out.setCell (.inr hs0) _).setCell (.inr hs0) _, hs0⟩
          | exact ⟨w1.heap.size, k, rfl, bz2.put k j, hk, (oo2.out.setCell (.inr hs1) _).setCell (.inr hs1) _, hs1⟩
  case rest =>
    obtain ⟨bx, k, rfl, HX⟩ := hcut
    have oW : Hid (Only [] w wc) := HP.out.2.2.2.1.trans' HX.out.2.2.1
    have bD' := HP.out.2.2.2.2.only HX.out.2.2.1 (by simp)
    obtain ⟨c0, c1, c2⟩ := bD'.c
    have hk := HX.out.2.1
    have hbV := HX.out.2.2.2
    have hBS : bx ∉ S := fun e => by have := hSw.out bx e; omega
    have hBT : bx ∉ T := fun e => by have := hTw.out bx e; omega
    have HDD := Lib.hid (And.intro d0 (And.intro d1 d2))
    clear d0 d1 d2 bD' hba hne hna
    go_wp2_with fail
    refine (hwh _).mono ?_
    rintro e w1 ⟨rfl, o1⟩
    have oW1 : Hid (Only [] w w1) := oW.out.trans' o1
    have hP1 : Hid (QPair w1 qb S xb T n wd B L) := HP.out.1.only0 oW1.out
    have hT1 : Hid (Tab w1) := HP.out.2.1.only0 oW1.out
    have bB : Hid (Box w1 bx ⟨k, j⟩) := HX.out.1.only o1 (by simp)
    have y0 := bB.out.c0
    have y1 := bB.out.c1
    have hB1 : bx < w1.heap.size := bB.out.lt
    simp only at y0 y1
    clear o1 c0 c1 c2 oW HX hwh
    have hq9 : q = 0 ∨ q = 1 ∨ q = 2 ∨ q = 3 ∨ q = 4 ∨ q = 5 ∨ q = 6 ∨ q = 7 := by omega
    clear hq
    rcases hq9 with rfl | rfl | rfl | rfl | rfl | rfl | rfl | rfl
    iterate 4
      · have hpu := qPush w1.drew qb S n wd B L (hP1.out.ours.only0 (Only.refl [] w1).drew) (hT1.out.only0 (Only.refl [] w1).drew) HP.out.2.2.1 ⟨k, j⟩ ⟨hk, hj⟩ (fun i hi => by have := HL.out i; omega)
        have hrp : Hid (∀ W, RQOf W xb T n wd B L → Calls Tryz.prog 35 #[.pointer (some ⟨xb, 0, none⟩), .agg #[.int .u64 k, .int .i64 j]] W fun e w' => e = .returned (.bool (pushB L n B ⟨k, j⟩)) ∧ ∃ T', RQOf w' xb T' n wd B (pushL L n B ⟨k, j⟩) ∧ Moved W T w' T') := fun W hW => rqPush W xb T n wd B L hW hwd hbs.out ⟨k, j⟩ ⟨hk, hj⟩ (fun i hi => by have := HL.out i; omega)
        have HS : Hid (∀ q, q < 4 → StepTo q n B L B (pushL L n B ⟨k, j⟩)) := fun q hq => ⟨fun h => by omega, fun _ => rfl, pushL_len L n B _⟩
        generalize pushB L n B ⟨k, j⟩ = bb at *
        generalize pushL L n B ⟨k, j⟩ = ll at *
        simp only at hpu
        have HPU := Lib.hid hpu
        clear hpu
        go_wp2_with fail
        go_region_held3 (fun w' => w'.cell? ⟨bx, 0, none⟩ = some (.int .u64 k) ∧ w'.cell? ⟨bx, 1, none⟩ = some (.int .i64 j))
          (first | go_keep | (exact ⟨k0, k1⟩) | (exact ⟨k2, k3⟩))
          (first
            | (go_at_call 22; refine HPU.out.mono ?_; rintro e u1 ⟨rfl, S1, q1, q2⟩; have b3 := (bB.out.only (Only.refl [] w1).drew (by simp)).moved q2 hBS; have k0 := b3.1.c0; have k1 := b3.1.c1; simp only at k0 k1; have Q1 := Lib.hid (And.intro q1 (And.intro q2 b3)); clear q1 q2 b3)
            | (go_at_call 35; refine (hrp.out _ (hP1.out.ref_after (Only.refl [] w1).drew Q1.out.2.1)).mono ?_; rintro e u2 ⟨rfl, T1, q1, q2⟩; have b4 := Q1.out.2.2.1.moved q2 hBT; have k2 := b4.1.c0; have k3 := b4.1.c1; simp only at k2 k3; have Q2 := Lib.hid (And.intro q1 q2); clear q1 q2 b4))
        go_wp2_with fail
        go_ret
        exact ⟨by simp, _, _, HS.out _ (by omega), Aft.mk HP.out.1 (oW1.out.drew) Q1.out.1 Q1.out.2.1 Q2.out.1 Q2.out.2⟩
    iterate 2
      · have hpo := qPop w1 qb S n wd B L hP1.out.ours hT1.out HP.out.2.2.1
        have hro : Hid (∀ W, RQOf W xb T n wd B L → Calls Tryz.prog 36 #[.pointer (some ⟨xb, 0, none⟩)] W fun e w' => e = .returned (.tuple #[(minX L n).val, .bool (minB L n)]) ∧ ∃ T', RQOf w' xb T' n wd (popB L n B) (popL L n) ∧ Moved W T w' T') := fun W hW => rqPop W xb T n wd B L hW (fun i hi => by have := HL.out i; omega)
        have HS : Hid (∀ q, q = 4 ∨ q = 5 → StepTo q n B L (popB L n B) (popL L n)) := fun q hq => ⟨fun _ => ⟨rfl, rfl⟩, fun h => absurd hq h, popL_len L n⟩
        unfold It.val at hpo hro
        generalize popB L n B = B2 at *
        generalize popL L n = L2 at *
        generalize minX L n = x at *
        generalize minB L n = p at *
        have he := item_eql x x
        have hgi := item_guard
        simp only [decide_true] at he
        go_wp2_with fail
        refine hpo.mono ?_
        rintro e w2 ⟨rfl, S2, q1, q2⟩
        have bA : Hid (Box (w2.alloc (.cells #[.int .u64 x.k, .int .i64 x.i] 40)) w2.heap.size x) := Box.new w2 x
        have hr2 := hro.out _ ((hP1.out.ref_after (Only.refl [] w1) q2).only0 ((Only.refl [] w2).alloc (.cells #[.int .u64 x.k, .int .i64 x.i] 40)))
        have Q1 := Lib.hid (And.intro q1 q2)
        have hsT : w2.heap.size ∉ T := fun e => by have := hTw.out _ e; have := q2.1.size; have := oW1.out.size; have := EN.out; omega
        clear q1 q2 hpo
        go_wp2_with fail
        refine hr2.mono ?_
        rintro e w3 ⟨rfl, T3, q1, q2⟩
        have b3 := bA.out.only q2.1 hsT
        have a0 := b3.c0
        have a1 := b3.c1
        have hlt3 : w2.heap.size < w3.heap.size := b3.lt
        have Q2 := Lib.hid (And.intro q1 q2)
        clear q1 q2 b3 hr2
        go_wp2_with fail
        go_ret
        exact ⟨by simp, _, _, HS.out _ (by omega), (Aft.mk HP.out.1 oW1.out (Q1.out.1.only0 ((Only.refl [] w2).alloc _)) (Q1.out.2.still ((Only.refl [] w2).alloc _)) Q2.out.1 Q2.out.2).still ((Only.refl [] w3).alloc _)⟩
    · have hpo := qDrop w1 qb S n wd B L hP1.out.ours hT1.out HP.out.2.2.1 j hj
      have hro : Hid (∀ W, RQOf W xb T n wd B L → Calls Tryz.prog 37 #[.pointer (some ⟨xb, 0, none⟩), .int .i64 j] W fun e w' => e = .returned (.tuple #[((dropF L n j).getD ⟨0, 0⟩).val, .bool (dropF L n j).isSome]) ∧ ∃ T', RQOf w' xb T' n wd B (dropL L n j) ∧ Moved W T w' T') := fun W hW => rqDrop W xb T n wd B L hW (fun i hi => (hP1.out.ours.sits hi).ids) j
      have HS : Hid (StepTo 6 n B L B (dropL L n j)) := ⟨fun h => by omega, fun _ => rfl, dropL_len L n j⟩
      unfold It.val at hpo hro
      generalize dropL L n j = L2 at *
      generalize (dropF L n j).getD ⟨0, 0⟩ = x at *
      generalize (dropF L n j).isSome = p at *
      have he := item_eql x x
      have hgi := item_guard
      simp only [decide_true] at he
      go_wp2_with fail
      refine hpo.mono ?_
      rintro e w2 ⟨rfl, S2, q1, q2⟩
      have bA : Hid (Box (w2.alloc (.cells #[.int .u64 x.k, .int .i64 x.i] 40)) w2.heap.size x) := Box.new w2 x
      have bB2 := (bB.out.moved q2 hBS).1
      have bB3 := bB2.only ((Only.refl [] w2).alloc (.cells #[.int .u64 x.k, .int .i64 x.i] 40)) (by simp)
      have z1 := bB3.c1
      have z1' := bB2.c1
      have hB2 := bB2.lt
      simp only at z1 z1'
      have hr2 := hro.out _ ((hP1.out.ref_after (Only.refl [] w1) q2).only0 ((Only.refl [] w2).alloc (.cells #[.int .u64 x.k, .int .i64 x.i] 40)))
      have Q1 := Lib.hid (And.intro q1 q2)
      have hsT : w2.heap.size ∉ T := fun e => by have := hTw.out _ e; have := q2.1.size; have := oW1.out.size; have := EN.out; omega
      clear q1 q2 hpo bB2 bB3 y0 y1
      go_wp2_with fail
      refine hr2.mono ?_
      rintro e w3 ⟨rfl, T3, q1, q2⟩
      have b3 := bA.out.only q2.1 hsT
      have a0 := b3.c0
      have a1 := b3.c1
      have hlt3 : w2.heap.size < w3.heap.size := b3.lt
      have Q2 := Lib.hid (And.intro q1 q2)
      clear q1 q2 b3 hr2 z1 z1'
      go_wp2_with fail
      go_ret
      exact ⟨by simp, _, _, HS.out, (Aft.mk HP.out.1 oW1.out (Q1.out.1.only0 ((Only.refl [] w2).alloc _)) (Q1.out.2.still ((Only.refl [] w2).alloc _)) Q2.out.1 Q2.out.2).still ((Only.refl [] w3).alloc _)⟩
    · have hmi := qMin w1 qb S n wd B L hP1.out.ours
      have hmr : Hid (∀ W, RQOf W xb T n wd B L → Calls Tryz.prog 38 #[.pointer (some ⟨xb, 0, none⟩)] W fun e w' => e = .returned (.tuple #[(minX L n).val, .bool (minB L n)]) ∧ Only [] W w') := fun W hW => rqMin W xb T n wd B L hW (fun i hi => by have := HL.out i; omega)
      have hha : Hid (∀ W, QueueOf W qb S n wd B L → Calls Tryz.prog 39 #[.pointer (some ⟨qb, 0, none⟩), .int .i64 j] W fun e w' => e = .returned (.bool (hasB8 L n j)) ∧ w' = W) := fun W hW => qHas W qb S n wd B L hW j hj
      have HS : Hid (StepTo 7 n B L B L) := ⟨fun h => by omega, fun _ => rfl, fun i => by omega⟩
      have n1 := hP1.out.ours.n1.1
      have n16 := hP1.out.ours.n1.2
      unfold It.val at hmi hmr
      generalize minX L n = x at *
      generalize minB L n = p at *
      have he := item_eql x x
      have hgi := item_guard
      simp only [decide_true] at he
      by_cases h0 : 0 ≤ j
      · obtain ⟨i, hi, hm, ht⟩ := home_at h0 n1
        have eh : homeN j n = i := homeN_at hm
        have eb : hasB8 L n j = hasId j (L i) := by unfold hasB8; rw [eh, decide_eq_true h0, Bool.true_and]
        rw [eb] at hha
        have hn := fOf_neg (L i) j
        obtain ⟨q, eq⟩ : ∃ q, (fOf (L i) j).getD (-1) = q := ⟨_, rfl⟩
        rw [eq] at hn
        obtain ⟨hb9, ehb⟩ : ∃ hb9, hasId j (L i) = hb9 := ⟨_, rfl⟩
        rw [ehb] at hn hha
        have hq9 : decide (0 ≤ q) = hb9 := by
          cases hb9 with
          | true => exact decide_eq_true (hn.2 rfl)
          | false => exact decide_eq_false (fun h7 => by have := hn.1 h7; cases this)
        obtain ⟨ab, cap, P, TT, eT, hR⟩ := hP1.out.ref
        have hat : Hid (∀ W, RQIs W xb ab n cap P TT wd B L → Calls Tryz.prog 40 #[.pointer (some ⟨P i, 0, none⟩), .int .i64 j] W fun e w' => e = .returned (.int .i64 q) ∧ w' = W) := fun W hW => by
          obtain ⟨v, -, h1, h2⟩ := hW.sh i hi
          have := xAt (Rw wd (B i)) W (P i) v (L i) h1 h2 j
          rw [eq] at this
          exact this
        have HR := Lib.hid hR
        have hI : (0 : Int) ≤ (i : Int) ∧ (i : Int) < (n : Int) := by omega
        have hn0 : ¬ (n : Int) = 0 := by omega
        have hn0' : ¬ n = 0 := by omega
        have h0' : decide (0 ≤ j) = true := decide_eq_true h0
        clear eq hn ehb hm eh eb hR
        go_wp2_with fail
        refine hmi.mono ?_
        rintro e w2 ⟨rfl, o2⟩
        have hr2 := hmr.out _ (hP1.out.ref.only0 (o2.alloc (.cells #[.int .u64 x.k, .int .i64 x.i] 40)))
        have bA : Hid (Box (w2.alloc (.cells #[.int .u64 x.k, .int .i64 x.i] 40)) w2.heap.size x) := Box.new w2 x
        have O2 := Lib.hid (o2.alloc (.cells #[.int .u64 x.k, .int .i64 x.i] 40))
        clear o2 hmi
        go_wp2_with fail
        refine hr2.mono ?_
        rintro e w3 ⟨rfl, o3⟩
        have bA4 : Hid (Box (w3.alloc (.cells #[.int .u64 x.k, .int .i64 x.i] 40)) w2.heap.size x) := (bA.out.only o3 (by simp)).only ((Only.refl [] w3).alloc _) (by simp)
        have bC4 : Hid (Box (w3.alloc (.cells #[.int .u64 x.k, .int .i64 x.i] 40)) w3.heap.size x) := Box.new w3 x
        have O4 : Hid (Only [] w1 (w3.alloc (.cells #[.int .u64 x.k, .int .i64 x.i] 40))) := (O2.out.trans' o3).alloc _
        obtain ⟨w4, e4⟩ : ∃ w4, w3.alloc (.cells #[.int .u64 x.k, .int .i64 x.i] 40) = w4 := ⟨_, rfl⟩
        obtain ⟨A1, eA1⟩ : ∃ A1, w2.heap.size = A1 := ⟨_, rfl⟩
        obtain ⟨A2, eA2⟩ : ∃ A2, w3.heap.size = A2 := ⟨_, rfl⟩
        rw [e4, eA1] at bA4
        rw [e4, eA2] at bC4
        rw [e4] at O4
        have a0 := bA4.out.c0
        have a1 := bA4.out.c1
        have b0' := bC4.out.c0
        have b1' := bC4.out.c1
        have z1 := O4.out.stay y1
        have x0 := (HR.out.only0 O4.out).c0
        have xi := (HR.out.only0 O4.out).at_ hi
        clear o3 hr2 bA O2 y0 y1
        go_wp2_with (simp only [e4, eA1, eA2])
        (try simp only [e4, eA1, eA2])
        clear e4 eA1 eA2
        go_quiet (first | (go_at_call 39; exact Calls.quiet_of_same (hha.out _ (hP1.out.ours.only0 (O4.out.drewN _)))) | (go_at_call 40; exact Calls.quiet_of_same (hat.out _ (HR.out.only0 (O4.out.drewN _)))))
        have O5 := Lib.hid (O4.out.drewN nq)
        generalize w4.drewN nq = w5 at *
        go_wp2_with fail
        go_ret
        exact ⟨by simp, _, _, HS.out, Aft.mk HP.out.1 (oW1.out.trans' O5.out) (hP1.out.ours.only0 O5.out) (Moved.refl _ _) (hP1.out.ref.only0 O5.out) (Moved.refl _ _)⟩
      · have eb : hasB8 L n j = false := by unfold hasB8; rw [decide_eq_false h0]; rfl
        rw [eb] at hha
        have h0' : decide (0 ≤ j) = false := decide_eq_false h0
        clear eb
        go_wp2_with fail
        refine hmi.mono ?_
        rintro e w2 ⟨rfl, o2⟩
        have hr2 := hmr.out _ (hP1.out.ref.only0 (o2.alloc (.cells #[.int .u64 x.k, .int .i64 x.i] 40)))
        have bA : Hid (Box (w2.alloc (.cells #[.int .u64 x.k, .int .i64 x.i] 40)) w2.heap.size x) := Box.new w2 x
        have O2 := Lib.hid (o2.alloc (.cells #[.int .u64 x.k, .int .i64 x.i] 40))
        clear o2 hmi
        go_wp2_with fail
        refine hr2.mono ?_
        rintro e w3 ⟨rfl, o3⟩
        have bA4 : Hid (Box (w3.alloc (.cells #[.int .u64 x.k, .int .i64 x.i] 40)) w2.heap.size x) := (bA.out.only o3 (by simp)).only ((Only.refl [] w3).alloc _) (by simp)
        have bC4 : Hid (Box (w3.alloc (.cells #[.int .u64 x.k, .int .i64 x.i] 40)) w3.heap.size x) := Box.new w3 x
        have O4 : Hid (Only [] w1 (w3.alloc (.cells #[.int .u64 x.k, .int .i64 x.i] 40))) := (O2.out.trans' o3).alloc _
        obtain ⟨w4, e4⟩ : ∃ w4, w3.alloc (.cells #[.int .u64 x.k, .int .i64 x.i] 40) = w4 := ⟨_, rfl⟩
        obtain ⟨A1, eA1⟩ : ∃ A1, w2.heap.size = A1 := ⟨_, rfl⟩
        obtain ⟨A2, eA2⟩ : ∃ A2, w3.heap.size = A2 := ⟨_, rfl⟩
        rw [e4, eA1] at bA4
        rw [e4, eA2] at bC4
        rw [e4] at O4
        have a0 := bA4.out.c0
        have a1 := bA4.out.c1
        have b0' := bC4.out.c0
        have b1' := bC4.out.c1
        have z1 := O4.out.stay y1
        clear o3 hr2 bA O2 y0 y1
        go_wp2_with (simp only [e4, eA1, eA2])
        (try simp only [e4, eA1, eA2])
        clear e4 eA1 eA2
        go_quiet (first | (go_at_call 39; exact Calls.quiet_of_same (hha.out _ (hP1.out.ours.only0 (O4.out.drewN _)))))
        have O5 := Lib.hid (O4.out.drewN nq)
        generalize w4.drewN nq = w5 at *
        go_wp2_with fail
        go_ret
        exact ⟨by simp, _, _, HS.out, Aft.mk HP.out.1 (oW1.out.trans' O5.out) (hP1.out.ours.only0 O5.out) (Moved.refl _ _) (hP1.out.ref.only0 O5.out) (Moved.refl _ _)⟩
end Go.Proofs.YtajhkdbldbifeaaGreatDoor
