/-
  The statements' step: both wheels tell the same, and hold the same behind it.
-/
import Derived.Test.YtfgffgicfieieaaGreatDoorShardH
import Derived.Test.YtfgffgicfieieaaGreatDoorShardA
import Derived.Test.YtfgffgicfieieaaGreatDoorWheelE
namespace Go.Proofs.YtfgffgicfieieaaGreatDoor
set_option maxRecDepth 100000
open Go.RowKit Go.ChangeMaps Go.MapKept
set_option linter.unusedVariables false
set_option linter.unusedSimpArgs false

theorem ins_len (x : It) (l : List It) : (ins x l).length = l.length + 1 := by
  have := (ins_perm x l).length_eq
  simpa using this

/-- Two wheels, ours and the document's, that hold the same. -/
structure Pair (w : World) (wb : Nat) (S : List Nat) (xb : Nat) (T : List Nat) (wd : Nat) (base : Int) (l : List It) : Prop where
  ours : ShardOf w wb S wd base l
  ref : RefOf w xb T wd base l
  dis : ∀ b ∈ S, b ∉ T
theorem Pair.only {w w' : World} {wb xb wd : Nat} {S T U : List Nat} {base : Int} {l : List It} (h : Pair w wb S xb T wd base l) (ho : Only U w w') (hS : ∀ b ∈ S, b ∉ U) (hT : ∀ b ∈ T, b ∉ U) : Pair w' wb S xb T wd base l := ⟨h.ours.only ho hS, h.ref.only ho hT, h.dis⟩
theorem Pair.only0 {w w' : World} {wb xb wd : Nat} {S T : List Nat} {base : Int} {l : List It} (h : Pair w wb S xb T wd base l) (ho : Only [] w w') : Pair w' wb S xb T wd base l := h.only ho (by simp) (by simp)
/-- What a deed makes of a base and a list: k: the key that it names, j: its ID, q: which one of nine it is, c: its number. -/
def stepTo (k j : Int) (q : Nat) (c base : Int) (l : List It) : Int × List It :=
  match q with
  | 0 | 1 | 2 | 3 => (base, if (!hasId j l && decide (base ≤ k)) = true then ins ⟨k, j⟩ l else l)
  | 4 | 5 => (if l.isEmpty = true then base else (first l).k, l.tail)
  | 6 => (base, dropId j l)
  | 7 => (if mayGo base l (if (!l.isEmpty && c.tmod 2 == 0) = true then base + ((first l).k - base) / 2 else k) = true then (if (!l.isEmpty && c.tmod 2 == 0) = true then base + ((first l).k - base) / 2 else k) else base, l)
  | _ => (base, l)
theorem stepTo_len (k j : Int) (q : Nat) (c base : Int) (l : List It) : (stepTo k j q c base l).2.length ≤ l.length + 1 := by
  unfold stepTo
  split
  any_goals
    show (if _ then _ else _ : List It).length ≤ _
    split
    · rw [ins_len]; omega
    · omega
  any_goals (show l.tail.length ≤ _; simp; omega)
  any_goals (show (dropId j l).length ≤ _; exact Nat.le_trans (List.eraseP_sublist).length_le (Nat.le_succ _))
  all_goals (show l.length ≤ _; omega)
/-- What a deed makes of a base and a list. -/
def stepM (mf : Dd → Int) (qf : Dd → Nat) (d : Dd) (base : Int) (l : List It) : Int × List It := stepTo (nearM d.b base) (mf d) (qf d) d.c base l
/-- What is behind a step. -/
def After (w : World) (wb : Nat) (S : List Nat) (xb : Nat) (T : List Nat) (wd : Nat) (p : Int × List It) (w' : World) : Prop :=
  ∃ S' T', Pair w' wb S' xb T' wd p.1 p.2 ∧ Only (S ++ T) w w' ∧ (∀ b ∈ S', b ∈ S ∨ w.heap.size ≤ b) ∧ (∀ b ∈ T', b ∈ T ∨ w.heap.size ≤ b)
theorem After.still {w w1 w2 : World} {wb xb wd : Nat} {S T : List Nat} {p : Int × List It} (h : After w wb S xb T wd p w1) (ho : Only [] w1 w2) : After w wb S xb T wd p w2 := by
  obtain ⟨S', T', h1, h3, h4, h5⟩ := h
  exact ⟨S', T', h1.only0 ho, h3.trans ho (by simp), h4, h5⟩
/-- Ours moved, then the document's. -/
theorem After.mk {w w0 w1 w2 : World} {wb xb wd : Nat} {S T S' T' : List Nat} {base base' : Int} {l l' : List It} (hp : Pair w wb S xb T wd base l) (o0 : Only [] w w0) (h1 : ShardOf w1 wb S' wd base' l') (m1 : Moved w0 S w1 S') (h2 : RefOf w2 xb T' wd base' l') (m2 : Moved w1 T w2 T') : After w wb S xb T wd (base', l') w2 := by
  have hT1 : ∀ b ∈ T, b < w.heap.size := hp.ref.lt
  have n1 := (Moved.of_only (S := S) o0).trans m1
  have hST : ∀ b ∈ S', b ∉ T := fun b hb hc => by
    rcases n1.2 b hb with h | h
    · exact hp.dis b h hc
    · have := hT1 b hc; omega
  refine ⟨S', T', ⟨h1.only m2.1 hST, h2, fun b hb hc => ?_⟩, ?_, n1.2, fun b hb => ?_⟩
  · rcases m2.2 b hc with h | h
    · exact hST b hb h
    · have := h1.lt b hb; omega
  · exact (n1.1.mono (T := S ++ T) (by intro k hk; exact .inl (by simp [hk]))).trans m2.1 (fun k hk => .inl (by simp [hk]))
  · rcases m2.2 b hb with h | h
    · exact .inl h
    · exact .inr (Nat.le_trans n1.1.size h)
/-- The document's wheel behind what was done to ours. -/
theorem Pair.ref_after {w w0 w1 : World} {wb xb wd : Nat} {S T S' : List Nat} {base : Int} {l : List It} (hp : Pair w wb S xb T wd base l) (o0 : Only [] w w0) (m1 : Moved w0 S w1 S') : RefOf w1 xb T wd base l :=
  (hp.ref.only0 o0).only m1.1 (fun b hb hc => hp.dis b hc hb)

set_option maxRecDepth 100000 in
set_option maxHeartbeats 8000000 in
theorem hStep (w : World) (wb : Nat) (S : List Nat) (xb : Nat) (T : List Nat) (wd : Nat) (base : Int) (l : List It) (hp : Pair w wb S xb T wd base l) (hT : Tab w) (hg : 0 ∉ S) (hl : l.length < 1000) (d : Dd) (hd : d.ok) {mf : Dd → Int} {qf : Dd → Nat} (P : Plays mf qf) :
    Calls Tryz.prog 9 #[.pointer (some ⟨wb, 0, none⟩), .pointer (some ⟨xb, 0, none⟩), .agg #[.int .i64 d.a, .int .u64 d.b, .int .i64 d.c]] w fun e w' => e = .returned (.bool true) ∧ After w wb S xb T wd (stepM mf qf d base l) w' := by
  have hwd := hp.ours.wd40
  obtain ⟨b0, b1⟩ := hp.ours.bases
  have hbw : (Lit.int .u64 base).wf = true := u64ok_of ⟨b0, b1⟩
  have hn := hNear d hd base hbw
  obtain ⟨hj, hna⟩ := P.name d hd
  obtain ⟨hq, hwh⟩ := P.what d
  have hk : (Lit.int .u64 (nearM d.b base)).wf = true := nearM_ok hd.2.1
  unfold stepM
  generalize nearM d.b base = k at *
  generalize mf d = j at *
  generalize qf d = q at *
  obtain ⟨p0, ep0⟩ : ∃ p0, stepTo k j q d.c base l = p0 := ⟨_, rfl⟩
  rw [ep0]
  have EP := Lib.hid ep0
  clear ep0 P
  have oA : Only [] w (w.alloc (.cells #[.int .i64 d.a, .int .u64 d.b, .int .i64 d.c] 31)) := (Only.refl [] w).alloc _
  have bD : DBox _ w.heap.size d := DBox.new w d
  obtain ⟨V, eV⟩ : ∃ V, w.alloc (.cells #[.int .i64 d.a, .int .u64 d.b, .int .i64 d.c] 31) = V := ⟨_, rfl⟩
  rw [eV] at oA bD
  obtain ⟨d0, d1, d2⟩ := bD.c
  obtain ⟨cb, -, -, -⟩ := (hp.ref.only0 oA).cells
  have HP := Lib.hid (And.intro hp (And.intro hT (And.intro hg (And.intro oA bD))))
  have hSw : Hid (∀ b ∈ S, b < w.heap.size) := hp.ours.lt
  have hTw : Hid (∀ b ∈ T, b < w.heap.size) := hp.ref.lt
  clear hp hT hg oA bD
  go_enter Tryz.func9, Tryz.ntmps9
  go_wp2_with (simp only [eV])
  rename_i K hK
  obtain ⟨N, eN⟩ : ∃ N, w.heap.size = N := ⟨_, rfl⟩
  rw [eN] at d0 d1 d2 HP hSw hTw
  have EN := Lib.hid eN
  (try rw [eN])
  clear eN eV
  have hNV : N < V.heap.size := HP.out.2.2.2.2.lt
  have hxbV : xb < V.heap.size := World.block_lt_of_cell? V ⟨xb, 1, none⟩ cb
  have rest : ∀ (B : Nat) (W' : World), Only [] V W' → Box W' B ⟨k, j⟩ → V.heap.size ≤ B →
      K { tmps := #[.pointer (some ⟨wb, 0, none⟩), .pointer (some ⟨xb, 0, none⟩), .agg #[.int .i64 d.a, .int .u64 d.b, .int .i64 d.c], undef, undef, .pointer (some ⟨N, 0, none⟩), .bool false, .pointer (some ⟨B, 0, none⟩), undef, undef, undef, undef, undef, undef, undef, undef, undef, undef, undef, undef, undef, undef, undef, .agg #[.int .i64 d.a, .int .u64 d.b, .int .i64 d.c], .pointer (some ⟨xb, 0, none⟩), .pointer (some ⟨xb, 0, none⟩), .pointer (some ⟨xb, 1, none⟩), .int .u64 base, .int .u64 k, .agg #[.int .i64 d.a, .int .u64 d.b, .int .i64 d.c], .int .i64 j, .agg #[.int .u64 k, .int .i64 j], undef, undef, undef, undef, undef, undef, undef, undef, undef, undef, undef, undef, undef, undef, undef, undef, undef, undef, undef, undef, undef, undef, undef, undef, undef, undef, undef, undef, undef, undef, undef, undef, undef, undef, undef, undef, undef, undef, undef, undef, undef, undef, undef, undef, undef, undef, undef, undef, undef, undef, undef, undef, undef, undef, undef, undef, undef, undef, undef, undef, undef, undef, undef, undef, undef, undef, undef, undef, undef, undef, undef, undef, undef, undef, undef, undef, undef, undef, undef, undef, undef, undef, undef, undef, undef, undef, undef, undef, undef, undef, undef, undef, undef, undef, undef, undef, undef, undef, undef, undef, undef, undef, undef, undef, undef, undef, undef, undef, undef, undef, undef, undef, undef, undef, undef, undef, undef, undef, undef, undef, undef, undef, undef, undef, undef, undef, undef, undef, undef, undef, undef, undef, undef], defers := [] } W' := by
    intro B W' o b hB
    have oW : Hid (Only [] w W') := HP.out.2.2.2.1.trans' o
    have bD' := HP.out.2.2.2.2.only o (by simp)
    obtain ⟨c0, c1, c2⟩ := bD'.c
    have bB0 := Lib.hid b
    have HBD := Lib.hid bD'
    have hBS : B ∉ S := fun e => by have := hSw.out B e; omega
    have hBT : B ∉ T := fun e => by have := hTw.out B e; omega
    clear d0 d1 d2 cb o b bD'
    apply hK
    clear hK
    go_wp2_with fail
    refine (hwh _).mono ?_
    rintro e w1 ⟨rfl, o1⟩
    have oW1 : Hid (Only [] w w1) := oW.out.trans' o1
    have hP1 : Hid (Pair w1 wb S xb T wd base l) := HP.out.1.only0 oW1.out
    have hT1 : Hid (Tab w1) := HP.out.2.1.only0 oW1.out
    have bB : Hid (Box w1 B ⟨k, j⟩) := bB0.out.only o1 (by simp)
    have bD1 : Hid (DBox w1 N d) := HBD.out.only o1 (by simp)
    have y0 := bB.out.c0
    have y1 := bB.out.c1
    have hdT : ∀ b ∈ T, b ∉ S := fun b hb hb' => HP.out.1.dis b hb' hb
    have hB1 : B < w1.heap.size := bB.out.lt
    simp only at y0 y1
    clear o1 bB0 c0 c1 c2 oW HBD hn hna hwh
    have hq9 : q = 0 ∨ q = 1 ∨ q = 2 ∨ q = 3 ∨ q = 4 ∨ q = 5 ∨ q = 6 ∨ q = 7 ∨ q = 8 := by omega
    clear hq
    rcases hq9 with rfl | rfl | rfl | rfl | rfl | rfl | rfl | rfl | rfl
    iterate 4
      · have hpu := sPush w1.drew wb S wd base l (hP1.out.ours.only0 ((Only.refl [] w1).drew)) ⟨k, j⟩ ⟨hk, hj⟩ (by omega)
        obtain ⟨bb, hbb⟩ : ∃ bb, (!hasId (It.i ⟨k, j⟩) l && decide (base ≤ It.k ⟨k, j⟩)) = bb := ⟨_, rfl⟩
        obtain ⟨ll, hll⟩ : ∃ ll : List It, (if bb = true then ins ⟨k, j⟩ l else l) = ll := ⟨_, rfl⟩
        rw [hbb, hll] at hpu
        have hrp : Hid (∀ W, RefOf W xb T wd base l → Calls Tryz.prog 27 #[.pointer (some ⟨xb, 0, none⟩), .agg #[.int .u64 k, .int .i64 j]] W fun e w' => e = .returned (.bool bb) ∧ ∃ S', RefOf w' xb S' wd base ll ∧ Moved W T w' S') := fun W hW => by
          have := rPush W xb T wd base l hW hwd b0 b1 ⟨k, j⟩ ⟨hk, hj⟩ (by omega)
          rw [hbb, hll] at this
          exact this
        have HEP : Hid (p0 = (base, ll)) := by show _ = _; rw [← EP.out, ← hll, ← hbb]; rfl
        have HPU := Lib.hid hpu
        clear hbb hll hpu
        go_wp2_with fail
        go_region_held3 (fun w' => w'.cell? ⟨B, 0, none⟩ = some (.int .u64 k) ∧ w'.cell? ⟨B, 1, none⟩ = some (.int .i64 j))
          (first | go_keep | (exact ⟨k0, k1⟩) | (exact ⟨k2, k3⟩))
          (first
            | (go_at_call 23; refine HPU.out.mono ?_; rintro e u1 ⟨rfl, S1, q1, q2⟩; have b3 := (bB.out.only (Only.refl [] w1).drew (by simp)).moved q2 hBS; have k0 := b3.1.c0; have k1 := b3.1.c1; simp only at k0 k1; have Q1 := Lib.hid (And.intro q1 (And.intro q2 b3)); clear q1 q2 b3)
            | (go_at_call 27; refine (hrp.out _ (hP1.out.ref_after (Only.refl [] w1).drew Q1.out.2.1)).mono ?_; rintro e u2 ⟨rfl, T1, q1, q2⟩; have b4 := Q1.out.2.2.1.moved q2 hBT; have k2 := b4.1.c0; have k3 := b4.1.c1; simp only at k2 k3; have Q2 := Lib.hid (And.intro q1 q2); clear q1 q2 b4))
        go_wp2_with fail
        go_ret
        exact ⟨by simp, by rw [HEP.out]; exact After.mk HP.out.1 (oW1.out.drew) Q1.out.1 Q1.out.2.1 Q2.out.1 Q2.out.2⟩
    iterate 2
      · have hpo := sPop w1 wb S wd base l hP1.out.ours hT1.out HP.out.2.2.1
        have hro : Hid (∀ W, RefOf W xb T wd base l → Calls Tryz.prog 28 #[.pointer (some ⟨xb, 0, none⟩)] W fun e w' => e = .returned (.tuple #[(first l).val, .bool (!l.isEmpty)]) ∧ ∃ S', RefOf w' xb S' wd (if l.isEmpty then base else (first l).k) l.tail ∧ Moved W T w' S') := fun W hW => rPop W xb T wd base l hW
        have HEP : Hid (p0 = (if l.isEmpty = true then base else (first l).k, l.tail)) := by show _ = _; rw [← EP.out]; rfl
        clear EP
        unfold It.val at hpo hro
        generalize (if l.isEmpty = true then base else (first l).k) = bs at *
        generalize first l = x at *
        generalize (!l.isEmpty) = p at *
        have he := item_eql x x
        have hgi := item_guard
        simp only [decide_true] at he
        go_wp2_with fail
        refine hpo.mono ?_
        rintro e w2 ⟨rfl, S2, q1, q2⟩
        have bA : Hid (Box (w2.alloc (.cells #[.int .u64 x.k, .int .i64 x.i] 41)) w2.heap.size x) := Box.new w2 x
        have hr2 := hro.out _ ((hP1.out.ref_after (Only.refl [] w1) q2).only0 ((Only.refl [] w2).alloc (.cells #[.int .u64 x.k, .int .i64 x.i] 41)))
        have Q1 := Lib.hid (And.intro q1 q2)
        have hsT : w2.heap.size ∉ T := fun e => by have := hTw.out _ e; have := q2.1.size; have := oW1.out.size; have := EN.out; omega
        clear q1 q2 hpo
        go_wp2_with fail
        refine hr2.mono ?_
        rintro e w3 ⟨rfl, T3, q1, q2⟩
        have b3 := bA.out.only q2.1 hsT
        have a0 := b3.c0
        have a1 := b3.c1
        have hlt3 : w2.heap.size < w3.heap.size := b3.lt
        have Q2 := Lib.hid (And.intro q1 q2)
        clear q1 q2 b3 hr2
        go_wp2_with fail
        go_ret
        exact ⟨by simp, by rw [HEP.out]; exact (After.mk HP.out.1 oW1.out (Q1.out.1.only0 ((Only.refl [] w2).alloc _)) (Q1.out.2.still ((Only.refl [] w2).alloc _)) Q2.out.1 Q2.out.2).still ((Only.refl [] w3).alloc _)⟩
    · have hpo := sDrop w1 wb S wd base l hP1.out.ours j hj
      have hids := hP1.out.ours.sits.ids
      have hro : Hid (∀ W, RefOf W xb T wd base l → Calls Tryz.prog 30 #[.pointer (some ⟨xb, 0, none⟩), .int .i64 j] W fun e w' => e = .returned (.tuple #[((findId j l).getD ⟨0, 0⟩).val, .bool (findId j l).isSome]) ∧ ∃ S', RefOf w' xb S' wd base (dropId j l) ∧ Moved W T w' S') := fun W hW => xDrop (Rw wd base) W xb T l hW hids j
      clear hids
      unfold It.val at hpo hro
      have HEP : Hid (p0 = (base, dropId j l)) := by show _ = _; rw [← EP.out]; rfl
      clear EP
      generalize (findId j l).getD ⟨0, 0⟩ = x at *
      generalize (findId j l).isSome = p at *
      generalize dropId j l = ld at *
      have he := item_eql x x
      have hgi := item_guard
      simp only [decide_true] at he
      go_wp2_with fail
      refine hpo.mono ?_
      rintro e w2 ⟨rfl, S2, q1, q2⟩
      have bA0 : Hid (Box (w2.alloc (.cells #[.int .u64 x.k, .int .i64 x.i] 41)) w2.heap.size x) := Box.new w2 x
      have bB2 := bB.out.moved q2 hBS
      have hB2 : B < w2.heap.size := bB2.1.lt
      obtain ⟨w3, e3⟩ : ∃ w3, w2.alloc (.cells #[.int .u64 x.k, .int .i64 x.i] 41) = w3 := ⟨_, rfl⟩
      have o3 : Only [] w2 w3 := by rw [← e3]; exact (Only.refl [] w2).alloc _
      obtain ⟨A, eA⟩ : ∃ A, w2.heap.size = A := ⟨_, rfl⟩
      rw [e3, eA] at bA0
      have hr3 : Hid (RefOf w3 xb T wd base l) := (hP1.out.ref_after (Only.refl [] w1) q2).only0 o3
      have bB3 := Lib.hid (bB2.1.only o3 (by simp))
      have hAT : A ∉ T := fun e => by have := hTw.out _ e; have := q2.1.size; have := oW1.out.size; have := EN.out; omega
      have hA3 : A < w3.heap.size := bA0.out.lt
      have hB3 : B < w3.heap.size := bB3.out.lt
      have h3T : w3.heap.size ∉ T := fun e => by have := hr3.out.lt _ e; omega
      have Q1 := Lib.hid (And.intro (q1.only0 o3) (q2.still o3))
      have z0 := bB3.out.c1
      have a0 := bA0.out.c0
      have a1 := bA0.out.c1
      simp only at z0 a0 a1
      clear q1 q2 hpo bB2 o3 y0 y1
      go_wp2_with (simp only [e3, eA])
      (try simp only [e3, eA])
      clear e3 eA
      go_region_held3 (fun w' => w'.cell? ⟨B, 1, none⟩ = some (.int .i64 j))
        (first | go_keep | (exact k1) | (exact k9 _ _))
        (first
          | (go_at_call 30; refine (hro.out _ (hr3.out.only0 (by first | exact (Only.refl [] w3).drew | exact ((Only.refl [] w3).alloc _).drew | exact (Only.refl [] w3).drew.alloc _))).mono ?_; rintro e w4 ⟨rfl, T4, q1, q2⟩; have q3 : Moved w3 T w4 T4 := (Moved.of_only (by first | exact (Only.refl [] w3).drew | exact ((Only.refl [] w3).alloc _).drew | exact (Only.refl [] w3).drew.alloc _)).trans q2; have b4 := bB3.out.only q3.1 hBT; have k1 := b4.c1; simp only at k1; have a4 := bA0.out.only q3.1 hAT; have k9 : ∀ u v : Value, ((w4.setCell ⟨w3.heap.size, 0, none⟩ u).setCell ⟨w3.heap.size, 1, none⟩ v).cell? ⟨B, 1, none⟩ = some (.int .i64 j) := (fun u v => ((((Only.refl [w3.heap.size] w4).setCell (.inl (by simp)) u).setCell (.inl (by simp)) v).cell (p := ⟨B, 1, none⟩) b4.lt (by simp; omega)).trans k1); (try (have bz := Box.moved (x := ⟨0, 0⟩) (b := w3.heap.size) (by exact Box.new w3 ⟨0, 0⟩) q2 h3T; have zz0 := bz.1.c0; have zz1 := bz.1.c1; have ff0 := bz.1.fr 0; have ff1 := bz.1.fr 1; simp only at zz0 zz1)); have Q2 := Lib.hid (And.intro q1 (And.intro q3 a4)); clear q1 q3 a4 b4))
      all_goals
        have a40 := Q2.out.2.2.c0
        have a41 := Q2.out.2.2.c1
        have hA4 : A < w4.heap.size := Q2.out.2.2.lt
        clear a0 a1 z0 k1 k9
        go_wp2_with fail
        go_ret
        first
          | exact ⟨by simp, by rw [HEP.out]; exact (After.mk HP.out.1 oW1.out Q1.out.1 Q1.out.2 Q2.out.1 Q2.out.2.1).still ((Only.refl [] w4).alloc _)⟩
          | (have o9 : Only [w3.heap.size] w4 ((w4.setCell ⟨w3.heap.size, 0, none⟩ (.int .u64 x.k)).setCell ⟨w3.heap.size, 1, none⟩ (.int .i64 x.i)) := ((Only.refl _ w4).setCell (.inl (by simp)) _).setCell (.inl (by simp)) _
             exact ⟨by simp, by rw [HEP.out]; exact After.mk HP.out.1 oW1.out Q1.out.1 Q1.out.2 (Q2.out.1.only o9 (fun b hb e => bz.2 (by simp at e; rw [← e]; exact hb))) ⟨Q2.out.2.1.1.trans o9 (by simp), Q2.out.2.1.2⟩⟩)
    · obtain ⟨kk0, kk1⟩ := u64ok_to hk
      obtain ⟨t9, et9⟩ : ∃ t9, (if (!l.isEmpty && d.c.tmod 2 == 0) = true then base + ((first l).k - base) / 2 else k) = t9 := ⟨_, rfl⟩
      have HEP : Hid (p0 = (if mayGo base l t9 = true then t9 else base, l)) := by show _ = _; rw [← EP.out, ← et9]; rfl
      have ET := Lib.hid et9
      clear EP et9
      have hmi : Hid (Calls Tryz.prog 31 #[.pointer (some ⟨xb, 0, none⟩)] w1 fun e w' => e = .returned (.tuple #[.agg #[.int .u64 (first l).k, .int .i64 (first l).i], .bool (!l.isEmpty)]) ∧ Only [] w1 w') := xMin (Rw wd base) w1 xb T l hP1.out.ref
      have hfi : Hid (l.isEmpty = false → base ≤ (first l).k ∧ (first l).k ≤ 18446744073709551615) := fun he => by
        cases l with
        | nil => cases he
        | cons z t =>
          have h9 := hP1.out.ours.sits.up z (by simp)
          have h8 := (u64ok_to (hP1.out.ours.fit z (by simp)).1).2
          exact ⟨h9, h8⟩
      have fin : Hid (∀ (to : Int) (w2 : World), 0 ≤ to → to ≤ 18446744073709551615 → Only [] w1 w2 → ∃ bb bs, bs = (if mayGo base l to = true then to else base) ∧ Calls Tryz.prog 32 #[.pointer (some ⟨wb, 0, none⟩), .int .u64 to] w2 (fun e w3 => e = .returned (.bool bb) ∧ ∃ S', ShardOf w3 wb S' wd bs l ∧ Moved w2 S w3 S') ∧ ∀ w3, RefOf w3 xb T wd base l → Calls Tryz.prog 33 #[.pointer (some ⟨xb, 0, none⟩), .int .u64 to] w3 (fun e w4 => e = .returned (.bool bb) ∧ ∃ T', RefOf w4 xb T' wd bs l ∧ Moved w3 T w4 T')) := fun to w2 t0 t1 o2 =>
        ⟨_, _, rfl, sMove w2 wb S wd base l (hP1.out.ours.only0 o2) (hT1.out.only0 o2) to t0 t1, fun w3 h3 => rMove w3 xb T wd base l h3 to⟩
      obtain ⟨e0, e1, e2⟩ := bD1.out.c
      generalize hx : first l = x at *
      rcases hp : l.isEmpty with _ | _
      · rw [hp] at hmi
        simp only [Bool.not_false] at hmi
        obtain ⟨f0, f1⟩ := hfi.out hp
        by_cases hpar : d.c.tmod 2 = 0
        · have hpar' : (d.c.tmod 2 == 0) = true := by simpa using hpar
          obtain ⟨y, ey⟩ : ∃ y, x.k - base = y := ⟨_, rfl⟩
          obtain ⟨z, ez⟩ : ∃ z, y / 2 = z := ⟨_, rfl⟩
          obtain ⟨t, et⟩ : ∃ t, base + z = t := ⟨_, rfl⟩
          have E9 : Hid (t9 = t) := by show _ = _; rw [← ET.out, hp, hpar']; simp; rw [ey, ez, et]
          have t0 : 0 ≤ t := by omega
          have t1 : t ≤ 18446744073709551615 := by omega
          have y0' : 0 ≤ y := by omega
          have y1' : y ≤ 18446744073709551615 := by omega
          clear hpar hp
          go_wp2_with fail
          refine hmi.out.mono ?_
          rintro e w2 ⟨rfl, o2⟩
          have g2 := o2.stay e2
          have g2' := (o2.alloc (.cells #[.int .u64 x.k, .int .i64 x.i] 41)).stay e2
          obtain ⟨cb1, -, -, -⟩ := (hP1.out.ref.only0 o2).cells
          obtain ⟨cb2, -, -, -⟩ := (hP1.out.ref.only0 (o2.alloc (.cells #[.int .u64 x.k, .int .i64 x.i] 41))).cells
          have bM : Box (w2.alloc (.cells #[.int .u64 x.k, .int .i64 x.i] 41)) w2.heap.size x := Box.new w2 x
          have m0 := bM.c0
          have O2 := Lib.hid (o2.alloc (.cells #[.int .u64 x.k, .int .i64 x.i] 41))
          have hxb2 : xb < w2.heap.size := World.block_lt_of_cell? w2 _ cb1
          clear o2 bM e0 e1 e2 y0 y1
          have hwy : IntKind.u64.wrap y = y := by rw [IntKind.wrap_u64]; omega
          have hwt : IntKind.u64.wrap t = t := by rw [IntKind.wrap_u64]; omega
          have hyd : y.tdiv 2 = z := by rw [Int.tdiv_eq_ediv_of_nonneg y0']; exact ez
          go_wp2_with fail
          go_quiet (fail)
          have O5 := Lib.hid (O2.out.drewN nq)
          generalize (w2.alloc (.cells #[.int .u64 x.k, .int .i64 x.i] 41)).drewN nq = w5 at *
          obtain ⟨bb, bs, ebs, p1, p2⟩ := fin.out t w5 t0 t1 O5.out
          have P2 := Lib.hid p2
          have HB9 : Hid (p0 = (bs, l)) := by show _ = _; rw [HEP.out, E9.out, ebs]
          clear p2 g2 g2' cb1 cb2 m0 ebs
          go_wp2_with fail
          refine p1.mono ?_
          rintro e w3 ⟨rfl, S3, q1, q2⟩
          have hr3 := P2.out w3 (hP1.out.ref_after O5.out q2)
          have Q1 := Lib.hid (And.intro q1 q2)
          clear q1 q2 p1
          go_wp2_with fail
          refine hr3.mono ?_
          rintro e w4 ⟨rfl, T4, q1, q2⟩
          have Q2 := Lib.hid (And.intro q1 q2)
          clear q1 q2 hr3
          go_wp2_with fail
          go_ret
          exact ⟨by simp, by rw [HB9.out]; exact After.mk HP.out.1 (oW1.out.trans' O5.out) Q1.out.1 Q1.out.2 Q2.out.1 Q2.out.2⟩
        · have hpar' : (d.c.tmod 2 == 0) = false := by simpa using hpar
          have E9 : Hid (t9 = k) := by show _ = _; rw [← ET.out, hp, hpar']; simp
          clear hpar hp
          go_wp2_with fail
          refine hmi.out.mono ?_
          rintro e w2 ⟨rfl, o2⟩
          have g2 := o2.stay e2
          have g2' := (o2.alloc (.cells #[.int .u64 x.k, .int .i64 x.i] 41)).stay e2
          obtain ⟨bb, bs, ebs, p1, p2⟩ := fin.out k _ kk0 kk1 (o2.alloc (.cells #[.int .u64 x.k, .int .i64 x.i] 41))
          have O2 := Lib.hid (o2.alloc (.cells #[.int .u64 x.k, .int .i64 x.i] 41))
          have P2 := Lib.hid p2
          have HB9 : Hid (p0 = (bs, l)) := by show _ = _; rw [HEP.out, E9.out, ebs]
          clear o2 p2 ebs
          go_wp2_with fail
          refine p1.mono ?_
          rintro e w3 ⟨rfl, S3, q1, q2⟩
          have hr3 := P2.out w3 (hP1.out.ref_after O2.out q2)
          have Q1 := Lib.hid (And.intro q1 q2)
          clear q1 q2 p1
          go_wp2_with fail
          refine hr3.mono ?_
          rintro e w4 ⟨rfl, T4, q1, q2⟩
          have Q2 := Lib.hid (And.intro q1 q2)
          clear q1 q2 hr3
          go_wp2_with fail
          go_ret
          exact ⟨by simp, by rw [HB9.out]; exact After.mk HP.out.1 (oW1.out.trans' O2.out) Q1.out.1 Q1.out.2 Q2.out.1 Q2.out.2⟩
      · rw [hp] at hmi
        simp only [Bool.not_true] at hmi
        have E9 : Hid (t9 = k) := by show _ = _; rw [← ET.out, hp]; simp
        clear hp
        go_wp2_with fail
        refine hmi.out.mono ?_
        rintro e w2 ⟨rfl, o2⟩
        obtain ⟨bb, bs, ebs, p1, p2⟩ := fin.out k _ kk0 kk1 (o2.alloc (.cells #[.int .u64 x.k, .int .i64 x.i] 41))
        have O2 := Lib.hid (o2.alloc (.cells #[.int .u64 x.k, .int .i64 x.i] 41))
        have P2 := Lib.hid p2
        have HB9 : Hid (p0 = (bs, l)) := by show _ = _; rw [HEP.out, E9.out, ebs]
        clear o2 p2 ebs
        go_wp2_with fail
        refine p1.mono ?_
        rintro e w3 ⟨rfl, S3, q1, q2⟩
        have hr3 := P2.out w3 (hP1.out.ref_after O2.out q2)
        have Q1 := Lib.hid (And.intro q1 q2)
        clear q1 q2 p1
        go_wp2_with fail
        refine hr3.mono ?_
        rintro e w4 ⟨rfl, T4, q1, q2⟩
        have Q2 := Lib.hid (And.intro q1 q2)
        clear q1 q2 hr3
        go_wp2_with fail
        go_ret
        exact ⟨by simp, by rw [HB9.out]; exact After.mk HP.out.1 (oW1.out.trans' O2.out) Q1.out.1 Q1.out.2 Q2.out.1 Q2.out.2⟩
    · have HEP : Hid (p0 = (base, l)) := by show _ = _; rw [← EP.out]; rfl
      clear EP
      have hmi := sMin w1 wb S wd base l hP1.out.ours hT1.out
      have hmr : Hid (∀ W, RefOf W xb T wd base l → Calls Tryz.prog 31 #[.pointer (some ⟨xb, 0, none⟩)] W fun e w' => e = .returned (.tuple #[.agg #[.int .u64 (first l).k, .int .i64 (first l).i], .bool (!l.isEmpty)]) ∧ Only [] W w') := fun W hW => xMin (Rw wd base) W xb T l hW
      have hha : Hid (∀ W, ShardOf W wb S wd base l → Calls Tryz.prog 18 #[.pointer (some ⟨wb, 0, none⟩), .int .i64 j] W fun e w' => e = .returned (.bool (hasId j l)) ∧ w' = W) := fun W hW => sHasOf W wb S wd base l hW j hj
      have hn := fOf_neg l j
      obtain ⟨q, eq⟩ : ∃ q, (fOf l j).getD (-1) = q := ⟨_, rfl⟩
      have hat : Hid (∀ W, RefOf W xb T wd base l → Calls Tryz.prog 35 #[.pointer (some ⟨xb, 0, none⟩), .int .i64 j] W fun e w' => e = .returned (.int .i64 q) ∧ w' = W) := fun W hW => by
        obtain ⟨v, rfl, h1, h2⟩ := hW
        have := xAt (Rw wd base) W xb v l h1 h2 j
        rw [eq] at this
        exact this
      rw [eq] at hn
      obtain ⟨hb9, ehb⟩ : ∃ hb9, hasId j l = hb9 := ⟨_, rfl⟩
      rw [ehb] at hn hha
      have hq9 : decide (0 ≤ q) = hb9 := by
        cases hb9 with
        | true => exact decide_eq_true (hn.2 rfl)
        | false => exact decide_eq_false (fun h7 => by have := hn.1 h7; cases this)
      clear eq hn ehb
      generalize first l = x at *
      generalize (!l.isEmpty) = p at *
      have he := item_eql x x
      have hgi := item_guard
      simp only [decide_true] at he
      go_wp2_with fail
      refine hmi.mono ?_
      rintro e w2 ⟨rfl, o2⟩
      have hr2 := hmr.out _ (hP1.out.ref.only0 (o2.alloc (.cells #[.int .u64 x.k, .int .i64 x.i] 41)))
      have bA : Hid (Box (w2.alloc (.cells #[.int .u64 x.k, .int .i64 x.i] 41)) w2.heap.size x) := Box.new w2 x
      have O2 := Lib.hid (o2.alloc (.cells #[.int .u64 x.k, .int .i64 x.i] 41))
      have hA2 : B < w2.heap.size := by have := o2.size; omega
      clear o2 hmi
      go_wp2_with fail
      refine hr2.mono ?_
      rintro e w3 ⟨rfl, o3⟩
      have bA4 : Hid (Box (w3.alloc (.cells #[.int .u64 x.k, .int .i64 x.i] 41)) w2.heap.size x) := (bA.out.only o3 (by simp)).only ((Only.refl [] w3).alloc _) (by simp)
      have bC4 : Hid (Box (w3.alloc (.cells #[.int .u64 x.k, .int .i64 x.i] 41)) w3.heap.size x) := Box.new w3 x
      have O4 : Hid (Only [] w1 (w3.alloc (.cells #[.int .u64 x.k, .int .i64 x.i] 41))) := (O2.out.trans' o3).alloc _
      obtain ⟨w4, e4⟩ : ∃ w4, w3.alloc (.cells #[.int .u64 x.k, .int .i64 x.i] 41) = w4 := ⟨_, rfl⟩
      obtain ⟨A1, eA1⟩ : ∃ A1, w2.heap.size = A1 := ⟨_, rfl⟩
      obtain ⟨A2, eA2⟩ : ∃ A2, w3.heap.size = A2 := ⟨_, rfl⟩
      rw [e4, eA1] at bA4
      rw [e4, eA2] at bC4
      rw [e4] at O4
      have a0 := bA4.out.c0
      have a1 := bA4.out.c1
      have b0' := bC4.out.c0
      have b1' := bC4.out.c1
      have z1 := O4.out.stay y1
      clear o3 hr2 bA O2 y0 y1
      go_wp2_with (simp only [e4, eA1, eA2])
      (try simp only [e4, eA1, eA2])
      clear e4 eA1 eA2
      go_quiet (first | (go_at_call 18; exact Calls.quiet_of_same (hha.out _ (hP1.out.ours.only0 (O4.out.drewN _)))) | (go_at_call 35; exact Calls.quiet_of_same (hat.out _ (hP1.out.ref.only0 (O4.out.drewN _)))))
      have O5 := Lib.hid (O4.out.drewN nq)
      generalize w4.drewN nq = w5 at *
      go_wp2_with fail
      go_ret
      exact ⟨by simp [hq9], by rw [HEP.out]; exact After.mk HP.out.1 (oW1.out.trans' O5.out) (hP1.out.ours.only0 O5.out) (Moved.refl _ _) (hP1.out.ref.only0 O5.out) (Moved.refl _ _)⟩
  have HR := Lib.hid rest
  clear rest
  have hsz0 : V.heap.size ≤ V.heap.size := Nat.le_refl _
  go_region_held3 (fun w' => w'.cell? ⟨N, 0, none⟩ = some (.int .i64 d.a) ∧ w'.cell? ⟨N, 1, none⟩ = some (.int .u64 d.b) ∧ w'.cell? ⟨N, 2, none⟩ = some (.int .i64 d.c) ∧ w'.cell? ⟨xb, 1, none⟩ = some (.int .u64 base))
    (first | go_keep | (exact ⟨e0, e1, e2, e3⟩) | (exact ⟨j0, j1, j2, j3⟩) | (exact ⟨s0 _ _, s1 _ _, s2 _ _, s3 _ _⟩) | (exact ⟨t0 _ _, t1 _ _, t2 _ _, t3 _ _⟩))
    (first
      | (go_at_call 24; refine (hn _).mono ?_; rintro e w1 ⟨rfl, o1⟩; have e0 := o1.stay (p := ⟨N, 0, none⟩) (v := .int .i64 d.a) (by go_simp); have e1 := o1.stay (p := ⟨N, 1, none⟩) (v := .int .u64 d.b) (by go_simp); have e2 := o1.stay (p := ⟨N, 2, none⟩) (v := .int .i64 d.c) (by go_simp); have e3 := o1.stay (p := ⟨xb, 1, none⟩) (v := .int .u64 base) (by go_simp); have hN1 : N < w1.heap.size := World.block_lt_of_cell? w1 ⟨N, 0, none⟩ e0; have hX1 : xb < w1.heap.size := World.block_lt_of_cell? w1 ⟨xb, 1, none⟩ e3; (try (have bz1 : Box w1 V.heap.size ⟨0, 0⟩ := by (refine Box.only (S := []) ?_ o1 (by simp); exact Box.new V ⟨0, 0⟩))))
      | (go_at_call 25; refine (hna _).mono ?_; rintro e w2 ⟨rfl, o2⟩; have j0 := o2.stay (p := ⟨N, 0, none⟩) (v := .int .i64 d.a) (by go_simp); have j1 := o2.stay (p := ⟨N, 1, none⟩) (v := .int .u64 d.b) (by go_simp); have j2 := o2.stay (p := ⟨N, 2, none⟩) (v := .int .i64 d.c) (by go_simp); have j3 := o2.stay (p := ⟨xb, 1, none⟩) (v := .int .u64 base) (by go_simp); have hN2 : N < w2.heap.size := World.block_lt_of_cell? w2 ⟨N, 0, none⟩ j0; have hX2 : xb < w2.heap.size := World.block_lt_of_cell? w2 ⟨xb, 1, none⟩ j3; have st : ∀ (b : Nat) (p : Addr) (u v x : Value), b ≠ p.block → w2.cell? p = some x → ((w2.setCell ⟨b, 0, none⟩ u).setCell ⟨b, 1, none⟩ v).cell? p = some x := (fun b p u v x hb hc => ((((Only.refl [b] w2).setCell (.inl (by simp)) u).setCell (.inl (by simp)) v).cell (World.block_lt_of_cell? w2 p hc) (by simp; exact fun e => hb e.symm)).trans hc); (try (have bz2 : Box w2 V.heap.size ⟨0, 0⟩ := by (refine Box.only (S := []) ?_ o2 (by simp); exact bz1)); have z0 := bz2.c0; have z1 := bz2.c1; have f0 := bz2.fr 0; have f1 := bz2.fr 1; have s0 := (fun u v => st V.heap.size ⟨N, 0, none⟩ u v _ (by simp only; omega) j0); have s1 := (fun u v => st V.heap.size ⟨N, 1, none⟩ u v _ (by simp only; omega) j1); have s2 := (fun u v => st V.heap.size ⟨N, 2, none⟩ u v _ (by simp only; omega) j2); have s3 := (fun u v => st V.heap.size ⟨xb, 1, none⟩ u v _ (by simp only; omega) j3)); (try (have bz2 : Box w2 w1.heap.size ⟨0, 0⟩ := by (refine Box.only (S := []) ?_ o2 (by simp); exact Box.new w1 ⟨0, 0⟩)); have z0 := bz2.c0; have z1 := bz2.c1; have f0 := bz2.fr 0; have f1 := bz2.fr 1; have t0 := (fun u v => st w1.heap.size ⟨N, 0, none⟩ u v _ (by simp only; omega) j0); have t1 := (fun u v => st w1.heap.size ⟨N, 1, none⟩ u v _ (by simp only; omega) j1); have t2 := (fun u v => st w1.heap.size ⟨N, 2, none⟩ u v _ (by simp only; omega) j2); have t3 := (fun u v => st w1.heap.size ⟨xb, 1, none⟩ u v _ (by simp only; omega) j3))))
  all_goals
    have oA : Only [] V w2 := by
      first
        | exact ((Only.refl [] V).drew.trans' o1).trans' o2
        | exact (((Only.refl [] V).drew.trans' o1).alloc _).trans' o2
        | exact (((Only.refl [] V).alloc _).drew.trans' o1).trans' o2
    have hs1 : V.heap.size ≤ w1.heap.size := by
      have := o1.size
      simp at this
      omega
    have hs2 : V.heap.size ≤ w2.heap.size := oA.size
    first
      | exact HR.out w2.heap.size _ (oA.alloc _) (Box.new w2 ⟨k, j⟩) hs2
      | exact HR.out V.heap.size _ ((oA.setCell (.inr hsz0) _).setCell (.inr hsz0) _) (bz2.put k j) hsz0
      | exact HR.out w1.heap.size _ ((oA.setCell (.inr hs1) _).setCell (.inr hs1) _) (bz2.put k j) hs1
end Go.Proofs.YtfgffgicfieieaaGreatDoor
