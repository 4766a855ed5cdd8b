/-
  Copy of both; Spoil of packets.
-/
import Derived.Test.YtklolepmmabijaaGreatMdC
import Derived.Shelf.SlMaps.Clone
namespace Go.Proofs.YtklolepmmabijaaGreat
set_option maxRecDepth 100000
open Go.RowKit
set_option linter.unusedVariables false
set_option linter.unusedSimpArgs false
set_option maxRecDepth 100000

theorem mClone (w : World) (m : Nat) (es : Array MapEntry) (clock : Nat) (hb : w.heap[m]? = some (.map es clock)) :
    Calls Tryz.prog 59 #[.map (some m)] w fun e w' => e = .returned (.map (some w.heap.size)) ∧ w' = w.alloc (.map es clock) := by
  have hq := fun w => run_eql_map_nil_sl (P := Tryz.prog) w 78 _ _ (some m) Tryz.underlying78
  go_enter Tryz.func59, Tryz.ntmps59
  go_wp2
  rw [run_callFunc_extern Tryz.func81 (by kernel_rfl) (by kernel_rfl) (by kernel_rfl) (e := Extern.MapsClone.clone) (by kernel_rfl), run_maps_clone_sl w 78 hb]
  simp only [Result.andThen]
  rw [Oper.upon_value]
  go_wp2
  rw [run_typeAssert_map_sl _ 78 20 _ _ _ Tryz.underlying78]
  simp only [Result.andThen]
  rw [Oper.upon_value]
  go_wp2
  go_ret
  exact ⟨rfl, rfl⟩
section
variable {w w' : World} {b s m : Nat} {C : Cf} {n : Int}
theorem MBlk.set3 (h : MBlk w b C s m n) (x : Nat) : MBlk (w.setCell ⟨b, 3, none⟩ (.pointer (some ⟨x, 0, none⟩))) b C x m n := by
  have := heap_setCell_same w b 3 _ _ (.pointer (some ⟨x, 0, none⟩)) h
  simpa [MBlk] using this
theorem MBlk.set4 (h : MBlk w b C s m n) (x : Nat) : MBlk (w.setCell ⟨b, 4, none⟩ (.map (some x))) b C s x n := by
  have := heap_setCell_same w b 4 _ _ (.map (some x)) h
  simpa [MBlk] using this
end
set_option maxHeartbeats 2000000 in
theorem mCopy (w : World) (b : Nat) (M : Md) (O : List Nat) (h : MdOf b M w O) :
    Calls Tryz.prog 25 #[.pointer (some ⟨b, 0, none⟩)] w fun e w' => ∃ nb, e = .returned (.pointer (some ⟨nb, 0, none⟩)) ∧ ∃ O', MdOf nb M w' O' ∧ Only [] w w' ∧ ∀ k ∈ O', w.heap.size ≤ k := by
  obtain ⟨s, m, Q, h, rfl⟩ := h
  obtain ⟨c0, c1, c2, c3, c4, c5⟩ := h.blk.c
  have o1 : Only [] w (w.alloc (.cells #[.int .i64 M.c.sh, .int .i64 M.c.sl, .int .u64 M.c.un, .pointer (some ⟨s, 0, none⟩), .map (some m), .int .i64 M.n] 80)) := (Only.refl [] w).alloc _
  have hb1 : MBlk (w.alloc (.cells #[.int .i64 M.c.sh, .int .i64 M.c.sl, .int .u64 M.c.un, .pointer (some ⟨s, 0, none⟩), .map (some m), .int .i64 M.n] 80)) w.heap.size M.c s m M.n := heap_alloc_new w _
  have d3 := (h.blk.only0 o1).c.2.2.2.1
  have hc := sCopy _ s M.S Q (h.sq.only0 o1)
  have hb := h.blk.lt
  have hsz : (w.alloc (.cells #[.int .i64 M.c.sh, .int .i64 M.c.sl, .int .u64 M.c.un, .pointer (some ⟨s, 0, none⟩), .map (some m), .int .i64 M.n] 80)).heap.size = w.heap.size + 1 := by simp
  have H := Lib.hid (And.intro h (And.intro o1 (And.intro hb1 hsz)))
  clear h o1 hb1
  go_enter Tryz.func25, Tryz.ntmps25
  go_wp2_with fail
  refine hc.mono ?_
  rintro e w2 ⟨nb, rfl, Q2, q2, o2, n2⟩
  generalize w.alloc (.cells #[.int .i64 M.c.sh, .int .i64 M.c.sl, .int .u64 M.c.un, .pointer (some ⟨s, 0, none⟩), .map (some m), .int .i64 M.n] 80) = W1 at *
  obtain ⟨N, eN⟩ : ∃ N, w.heap.size = N := ⟨_, rfl⟩
  have HN := Lib.hid eN
  have hb2 := H.out.2.2.1.only0 o2
  rw [eN] at hb2 hb H ⊢
  obtain ⟨_, _, _, e3, e4, _⟩ := hb2.c
  have fr3 := hb2.fr 3
  have fr4 := hb2.fr 4
  have g4 := (H.out.1.blk.only0 (H.out.2.1.trans' o2)).c.2.2.2.2.1
  have hne1 : ¬ (N = b) := by omega
  have hne2 : ¬ (b = N) := by omega
  have NQ : N ∉ Q2 := fun hk => by have := n2 N hk; have := H.out.2.2.2; omega
  have n3 : ∀ k ∈ Q2, N < k := fun k hk => by have := n2 k hk; have := H.out.2.2.2; omega
  have m2 : MapAt w2 m (lensK M.S.l) := (H.out.1.map.only H.out.2.1 (by simp)).only o2 (by simp)
  have oS : Only [N] w2 (w2.setCell ⟨N, 3, none⟩ (.pointer (some ⟨nb, 0, none⟩))) := (Only.refl [N] w2).setCell (by simp) _
  have mS : MapAt (w2.setCell ⟨N, 3, none⟩ (.pointer (some ⟨nb, 0, none⟩))) m (lensK M.S.l) := m2.only oS (by have := H.out.1.map.lt; have := HN.out; simp; omega)
  obtain ⟨es, clock, mb, mr⟩ := mS
  have kc := mClone _ m es clock mb
  have sS : (w2.setCell ⟨N, 3, none⟩ (.pointer (some ⟨nb, 0, none⟩))).heap.size = w2.heap.size := by simp
  have hNw := hb2.lt
  have R := Lib.hid (And.intro hb2 (And.intro oS (And.intro q2 (And.intro (H.out.2.1.trans' o2) (And.intro NQ (And.intro n3 mr))))))
  clear hb2 q2 o2 n2 NQ n3 m2 oS mb mr hc eN H c0 c1 c2 c3 c4 c5 d3 hsz
  go_wp2_with fail
  refine kc.mono ?_
  rintro e w3 ⟨rfl, rfl⟩
  clear kc
  have b3 := R.out.1.set3 nb
  have oM : Only [] (w2.setCell ⟨N, 3, none⟩ (.pointer (some ⟨nb, 0, none⟩))) ((w2.setCell ⟨N, 3, none⟩ (.pointer (some ⟨nb, 0, none⟩))).alloc (.map es clock)) := (Only.refl [] _).alloc _
  have b4 := b3.only0 oM
  have u4 := b4.c.2.2.2.2.1
  have fu4 := b4.fr 4
  have hm : MapAt ((w2.setCell ⟨N, 3, none⟩ (.pointer (some ⟨nb, 0, none⟩))).alloc (.map es clock)) (w2.setCell ⟨N, 3, none⟩ (.pointer (some ⟨nb, 0, none⟩))).heap.size (lensK M.S.l) := ⟨es, clock, (MapKept.heap_alloc _ _).1, R.out.2.2.2.2.2.2⟩
  have R4 := Lib.hid (And.intro b4 (And.intro hm oM))
  clear b3 b4 oM hm
  go_wp2_with fail
  go_ret
  obtain ⟨hb2, oS, q2, o2, NQ, n3, mr⟩ := R.out
  have eN := HN.out
  have b5 := (hb2.set3 nb).set4 w2.heap.size
  have s5 : ((w2.setCell ⟨N, 3, none⟩ (.pointer (some ⟨nb, 0, none⟩))).setCell ⟨N, 4, none⟩ (.map (some w2.heap.size))).heap.size = w2.heap.size := by simp
  have o5 : Only [N] w2 ((w2.setCell ⟨N, 3, none⟩ (.pointer (some ⟨nb, 0, none⟩))).setCell ⟨N, 4, none⟩ (.map (some w2.heap.size))) := oS.setCell (by simp) _
  generalize (w2.setCell ⟨N, 3, none⟩ (.pointer (some ⟨nb, 0, none⟩))).setCell ⟨N, 4, none⟩ (.map (some w2.heap.size)) = W5 at *
  have oM : Only [] W5 (W5.alloc (.map es clock)) := (Only.refl [] _).alloc _
  have hm : MapAt (W5.alloc (.map es clock)) w2.heap.size (lensK M.S.l) := ⟨es, clock, by rw [← s5]; exact (MapKept.heap_alloc _ _).1, mr⟩
  refine ⟨N, rfl, ownM N w2.heap.size Q2, ⟨nb, w2.heap.size, Q2, ⟨b5.only0 oM, ?_, hm, NQ, ?_, ?_⟩, rfl⟩, ?_, ?_⟩
  · exact (q2.only o5 (fun k hk hk2 => by simp at hk2; subst hk2; exact NQ hk)).only0 oM
  · exact fun hk => by have := q2.lt _ hk; omega
  · omega
  · exact (o2.trans o5 (by simp; omega)).trans' oM
  · intro k hk
    simp [ownM] at hk
    have := o2.size
    rcases hk with rfl | rfl | hk
    · omega
    · omega
    · have := n3 k hk; omega
def NCp (w : World) (c : Nat) (M : Md) (s : Nat) (Q : List Nat) (W : World) : Prop := NdIs W c M s Q ∧ Only [] w W
set_option maxHeartbeats 2000000 in
theorem nCopy (w : World) (b : Nat) (M : Md) (O : List Nat) (h : NdOf b M w O) :
    Calls Tryz.prog 29 #[.pointer (some ⟨b, 0, none⟩)] w fun e w' => ∃ nb, e = .returned (.pointer (some ⟨nb, 0, none⟩)) ∧ ∃ O', NdOf nb M w' O' ∧ Only [] w w' ∧ ∀ k ∈ O', w.heap.size ≤ k := by
  obtain ⟨s, Q, h, rfl⟩ := h
  obtain ⟨c0, c1, c2, c3, c4, c5, c6⟩ := h.blk.c
  have hb := h.blk.lt
  have kc := Lib.hid (fun W (hW : RqOf W s M.S Q) => zCopy W s M.S Q hW)
  have st : Hid (NCp w b M s Q w.drew) := ⟨h.only0 (Only.refl [] w).drew, (Only.refl [] w).drew⟩
  have cl : Hid (∀ W, NCp w b M s Q W → W.cell? ⟨b, 0, none⟩ = some (.int .i64 M.c.sh) ∧ W.cell? ⟨b, 1, none⟩ = some (.int .i64 M.c.sl) ∧ W.cell? ⟨b, 2, none⟩ = some (.int .i64 M.c.wk) ∧ W.cell? ⟨b, 3, none⟩ = some (.int .i64 M.c.wd) ∧ W.cell? ⟨b, 4, none⟩ = some (.int .u64 M.c.un) ∧ W.cell? ⟨b, 5, none⟩ = some (.pointer (some ⟨s, 0, none⟩)) ∧ W.cell? ⟨b, 6, none⟩ = some (.int .i64 M.n)) := fun W hW => hW.1.blk.c
  clear h
  go_enter Tryz.func29, Tryz.ntmps29
  go_wp2_with fail
  go_region_held3 (fun w' => w'.cell? ⟨b, 0, none⟩ = some (.int .i64 M.c.sh) ∧ w'.cell? ⟨b, 1, none⟩ = some (.int .i64 M.c.sl) ∧ w'.cell? ⟨b, 2, none⟩ = some (.int .i64 M.c.wk) ∧ w'.cell? ⟨b, 3, none⟩ = some (.int .i64 M.c.wd) ∧ w'.cell? ⟨b, 4, none⟩ = some (.int .u64 M.c.un) ∧ w'.cell? ⟨b, 5, none⟩ = some (.pointer (some ⟨s, 0, none⟩)) ∧ w'.cell? ⟨b, 6, none⟩ = some (.int .i64 M.n))
    (first | (exact cl.out _ st.out) | go_keep)
    (first
      | (go_at_call 60
         refine (kc.out _ st.out.1.sq).mono ?_
         rintro e u ⟨nb, rfl, Q2, q2, o2, n2⟩
         have R := Lib.hid (And.intro st.out.2.size (And.intro q2 n2))
         have st : Hid (NCp w b M s Q u) := ⟨st.out.1.only0 o2, st.out.2.trans' o2⟩
         clear q2 o2 n2))
  all_goals
    go_wp2_with fail
    go_ret
    obtain ⟨r1, q2, n2⟩ := R.out
    have hn : NBlk (u.alloc (.cells #[.int .i64 M.c.sh, .int .i64 M.c.sl, .int .i64 M.c.wk, .int .i64 M.c.wd, .int .u64 M.c.un, .pointer (some ⟨nb, 0, none⟩), .int .i64 M.n] 75)) u.heap.size M.c nb M.n := heap_alloc_new u _
    have oA : Only [] u (u.alloc (.cells #[.int .i64 M.c.sh, .int .i64 M.c.sl, .int .i64 M.c.wk, .int .i64 M.c.wd, .int .u64 M.c.un, .pointer (some ⟨nb, 0, none⟩), .int .i64 M.n] 75)) := (Only.refl [] u).alloc _
    refine ⟨u.heap.size, rfl, u.heap.size :: Q2, ⟨nb, Q2, ⟨hn, q2.only0 oA, fun hk => by have := q2.lt _ hk; omega⟩, rfl⟩, st.out.2.trans' oA, fun k hk => ?_⟩
    simp at hk
    have := st.out.2.size
    rcases hk with rfl | hk
    · omega
    · have := n2 k hk; omega
/-- Spoil: the row alone turns. -/
def Pc (W : World) (g c : Nat) : Prop := ∃ cur : Array Value, W.heap[g]? = some (.cells cur 60 (0, 0)) ∧ cur.size = c * 3
theorem Pc.cell {W : World} {g c : Nat} (h : Pc W g c) {i : Nat} (hi : i < c * 3) : ∃ v, W.cell? ⟨g, i, none⟩ = some v := by
  obtain ⟨cur, h1, h2⟩ := h
  rw [cell_of_row W g i cur _ _ h1]
  exact ⟨_, Array.getElem?_eq_getElem (by omega)⟩
theorem Pc.fr {W : World} {g c : Nat} (h : Pc W g c) (i : Nat) : W.frozen? ⟨g, i, none⟩ = false := by
  obtain ⟨cur, h1, h2⟩ := h
  exact frozen_of_row W g i _ _ h1
theorem Pc.set {W : World} {g c : Nat} (h : Pc W g c) (i : Nat) (v : Value) : Pc (W.setCell ⟨g, i, none⟩ v) g c := by
  obtain ⟨cur, h1, h2⟩ := h
  exact ⟨_, heap_setCell_same W g i _ _ v h1, by simpa using h2⟩
set_option maxHeartbeats 2000000 in
theorem pSpoil (w : World) (A : Option Addr) (n c : Nat) (ps : List Pk) (hn : ps.length = n) (hm : n ≤ 1000000) (h : PRow w (.slice A n c) ps) :
    Calls Tryz.prog 26 #[.slice A n c] w fun e w' => e = .returned (.tuple #[]) ∧ Only (Value.slice A n c).ownBlock.toList w w' := by
  have hA : Hid (0 < n → ∃ g, A = some ⟨g, 0, none⟩ ∧ g < w.heap.size ∧ n ≤ c ∧ Pc w g c) := fun h0 => by
    obtain ⟨g, cap, e, h1, _, h2, ⟨cur, h3, h4, _⟩, _⟩ := h.at_ (by omega)
    injection e with e1 e2 e3
    subst e3
    exact ⟨g, e1, h2, by omega, cur, h3, h4⟩
  have hB : PBox (w.alloc (.cells #[.int .i64 0, .int .i64 0, .int .i64 0] 60)) w.heap.size ⟨0, 0, 0⟩ := heap_alloc_new w _
  have oA : Only [] w (w.alloc (.cells #[.int .i64 0, .int .i64 0, .int .i64 0] 60)) := (Only.refl [] w).alloc _
  have H0 : Hid (PBox (w.alloc (.cells #[.int .i64 0, .int .i64 0, .int .i64 0] 60)) w.heap.size ⟨0, 0, 0⟩ ∧ Only (Value.slice A n c).ownBlock.toList w (w.alloc (.cells #[.int .i64 0, .int .i64 0, .int .i64 0] 60)) ∧ ∀ g, A = some ⟨g, 0, none⟩ → Pc w g c → Pc (w.alloc (.cells #[.int .i64 0, .int .i64 0, .int .i64 0] 60)) g c) :=
    ⟨hB, oA.mono (by simp), fun g _ ⟨cur, h1, h2⟩ => ⟨cur, oA.get h1 (by simp), h2⟩⟩
  clear h hn hB oA
  go_enter Tryz.func26, Tryz.ntmps26
  go_wp2_with fail
  go_loopg [3] (n + 1) (fun gk si wr => ∃ p : Nat, si = .int .i64 (p : Int) ∧ p ≤ n ∧ n + 1 ≤ gk + p ∧ Hid (PBox wr w.heap.size ⟨0, 0, 0⟩ ∧ Only (Value.slice A n c).ownBlock.toList w wr ∧ ∀ g, A = some ⟨g, 0, none⟩ → Pc w g c → Pc wr g c))
  case atStart => exact ⟨0, rfl, by omega, by omega, H0⟩
  case round =>
    obtain ⟨p, rfl, hp, hg, R⟩ := hrel
    clear H0
    by_cases hpl : p < n
    · have hpl' : (p : Int) < (n : Int) := by omega
      obtain ⟨g, rfl, hgw, hnc, hpc⟩ := hA.out (by omega)
      have q := R.out.2.2 g rfl hpc
      obtain ⟨y0, y1, y2⟩ := R.out.1.c
      obtain ⟨v0, d0⟩ := q.cell (i := p * 3) (by omega)
      obtain ⟨v1, d1⟩ := q.cell (i := p * 3 + 1) (by omega)
      obtain ⟨v2, d2⟩ := q.cell (i := p * 3 + 2) (by omega)
      have f0 := q.fr (p * 3)
      have f1 := q.fr (p * 3 + 1)
      have f2 := q.fr (p * 3 + 2)
      have Q := Lib.hid (And.intro q hgw)
      clear hA hpc q
      go_wp2_with fail
      go_roundg (n + 1 - (p + 1))
      case measure => omega
      case rel =>
        obtain ⟨q, hgw⟩ := Q.out
        obtain ⟨r1, r2, r3⟩ := R.out
        have oS : Only [g] wr (((wr.setCell ⟨g, p * 3, none⟩ (.int .i64 0)).setCell ⟨g, p * 3 + 1, none⟩ (.int .i64 0)).setCell ⟨g, p * 3 + 2, none⟩ (.int .i64 0)) := (((Only.refl [g] wr).setCell (by simp) _).setCell (by simp) _).setCell (by simp) _
        refine ⟨p + 1, by simp, by omega, by omega, r1.only oS (by simp; omega), ((r2.setCell (.inl (by simp [Value.ownBlock])) _).setCell (.inl (by simp [Value.ownBlock])) _).setCell (.inl (by simp [Value.ownBlock])) _, fun g' e1 _ => ?_⟩
        injection e1 with e1
        injection e1 with e1 _ _
        subst e1
        exact ((q.set _ _).set _ _).set _ _
    · have hpl' : decide ((p : Int) < (n : Int)) = false := decide_eq_false (by omega)
      have hpl'' : ¬ ((p : Int) < (n : Int)) := by omega
      go_wp2_with fail
      go_end0
      exact ⟨rfl, R.out.2.1⟩
end Go.Proofs.YtklolepmmabijaaGreat
