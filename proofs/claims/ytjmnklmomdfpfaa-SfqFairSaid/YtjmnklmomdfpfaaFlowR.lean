/-
  Contracts of Serve, Arrive, New and Copy.
-/
import Derived.Test.YtjmnklmomdfpfaaFlowQ
namespace Go.Proofs.Ytjmnklmomdfpfaa
set_option maxRecDepth 100000
open Go.RowKit
set_option linter.unusedVariables false
set_option linter.unusedSimpArgs false
set_option maxRecDepth 100000

theorem i64_to {a : Int} (h : i64ok a) : -9223372036854775808 ≤ a ∧ a ≤ 9223372036854775807 := by
  simp [i64ok, Lit.wf, IntKind.min, IntKind.max, IntKind.signed, IntKind.bits] at h
  omega
theorem cost_word (s r : Int) (hr : U64 r) : U64 (costM s r) := mul_word (size_nn s) hr.1
theorem fin_word {s : Int} (hs : U64 s) (c r : Int) (hr : U64 r) : U64 (addM s (costM c r)) := add_word hs.1 (cost_word c r hr).1

section
variable {w w2 : World} {b : Nat} {r n s e : Int} {v : Value} {zs : List Pk}
theorem Turn.set3 (h : Turn w b r n s e v zs w2) (u : Int) : Turn w b r n s u v zs (w2.setCell ⟨b, 3, none⟩ (.int .u64 u)) := by
  obtain ⟨v', h1, h2, h3, h4⟩ := h
  exact ⟨v', h1.set3 u, h2.only ((Only.refl [b] w2).setCell (by simp) _) (fun g hg => by simpa using h1.ne h2 g hg), h3.setCell (by simp) _, h4⟩
theorem Turn.set2 (h : Turn w b r n s e v zs w2) (u : Int) : Turn w b r n u e v zs (w2.setCell ⟨b, 2, none⟩ (.int .u64 u)) := by
  obtain ⟨v', h1, h2, h3, h4⟩ := h
  exact ⟨v', h1.set2 u, h2.only ((Only.refl [b] w2).setCell (by simp) _) (fun g hg => by simpa using h1.ne h2 g hg), h3.setCell (by simp) _, h4⟩
theorem Turn.from {W : World} (o : Only (b :: v.ownBlock.toList) w W) (h : Turn W b r n s e v zs w2) : Turn w b r n s e v zs w2 := by
  obtain ⟨v', h1, h2, h3, h4⟩ := h
  exact ⟨v', h1, h2, o.trans' h3, h4.imp id fun ⟨g, e, hg⟩ => ⟨g, e, Nat.le_trans o.size hg⟩⟩
/-- The flow's own slice, as it stands. -/
theorem Turn.blk (h : Turn w b r n s e v zs w2) : ∃ A cap, FBlk w2 b r n s e (.slice A zs.length cap) := by
  obtain ⟨v', h1, h2, h3, h4⟩ := h
  obtain ⟨A, cap, rfl⟩ := h2.form
  exact ⟨A, cap, h1⟩
theorem Turn.keep (h : Turn w b r n s e v zs w2) {k : Nat} {x : Pk} (hx : PBox w k x) (hk : k ≠ b) (hv : v.ownBlock ≠ some k) : PBox w2 k x := by
  obtain ⟨v', h1, h2, h3, h4⟩ := h
  refine hx.only h3 (fun hm => ?_)
  rcases List.mem_cons.1 hm with e | hm
  · exact hk e
  · exact hv (Option.mem_toList.1 hm)
end
set_option maxHeartbeats 1000000 in
theorem fServe0 (w : World) (b : Nat) (r n s e : Int) (A : Option Addr) (cap : Nat) (h : FBlk w b r n s e (.slice A 0 cap)) :
    Calls Try.prog 43 #[.pointer (some ⟨b, 0, none⟩)] w fun e' w' => e' = .returned (.tuple #[.agg #[.int .i64 0, .int .i64 0, .int .i64 0], .int .u64 0, .bool false]) ∧ Only [] w w' := by
  have hmf := makes
  have o0 : Only [] w (w.alloc (.cells #[.int .i64 0, .int .i64 0, .int .i64 0] 34)) := (Only.refl [] w).alloc _
  have bz := PBox.new w ⟨0, 0, 0⟩
  have hi := fIfNone _ b r n s e A cap (h.only0 o0)
  clear h
  go_enter Try.func43, Try.ntmps43
  go_wp2_with fail
  refine (hi _).mono ?_
  rintro e' w2 ⟨rfl, o2⟩
  have b2 := (bz.only o2 (by simp)).only (w' := w2.alloc (.cells #[.int .i64 0, .int .i64 0, .int .i64 0] 34)) ((Only.refl [] w2).alloc _) (by simp)
  have b1 := bz.only o2 (by simp)
  obtain ⟨z0, z1, z2⟩ := b1.c
  have f0 := b1.fr 0
  have f1 := b1.fr 1
  have f2 := b1.fr 2
  have O := Lib.hid (o0.trans' o2)
  have hsz : w.heap.size < w2.heap.size := b1.lt
  clear hi o0 bz b2 b1 o2
  go_wp2_with fail
  refine bodyPost_ret (v := .tuple #[.agg #[.int .i64 0, .int .i64 0, .int .i64 0], .int .u64 0, .bool false]) ?_ rfl ?_
  · rw [results_cell_tmp2 rfl]; go_simp
  · refine ⟨rfl, ?_⟩
    first
      | exact (((O.out.alloc _).setCell (.inr (Nat.le_refl _)) _).setCell (.inr (Nat.le_refl _)) _).setCell (.inr (Nat.le_refl _)) _
      | exact (((O.out.setCell (.inr (Nat.le_refl _)) _).setCell (.inr (Nat.le_refl _)) _).setCell (.inr (Nat.le_refl _)) _).alloc _

set_option maxHeartbeats 2000000 in
theorem fServe1 (w : World) (b : Nat) (r n s e : Int) (v : Value) (x : Pk) (xs : List Pk) (h : FBlk w b r n s e v) (hx : PRow w v (x :: xs)) (hxl : xs.length ≤ 1000) (hr : U64 r) (hs : U64 s) (hok : x.ok) (fin : Int) (hfin : addM s (costM x.l r) = fin) :
    Calls Try.prog 43 #[.pointer (some ⟨b, 0, none⟩)] w fun e' w' => e' = .returned (.tuple #[.agg #[.int .i64 x.f, .int .i64 x.l, .int .i64 x.m], .int .u64 fin, .bool true]) ∧ ∃ s', (xs ≠ [] → s' = fin) ∧ U64 s' ∧ Turn w b r n s' fin v xs w' := by
  have hmf := makes
  have o0 : Only [] w (w.alloc (.cells #[.int .i64 0, .int .i64 0, .int .i64 0] 34)) := (Only.refl [] w).alloc _
  have bz := PBox.new w ⟨0, 0, 0⟩
  have hb := h.lt
  have hvl : ∀ g, v.ownBlock = some g → g < w.heap.size := fun g hg => hx.lt hg
  have hi := fIfTake _ b r n s e v x xs (h.only0 o0) (hx.only o0 (by simp)) hxl
  have hc := cost_any x.l r (w := w)
  have hs0 : (w.alloc (.cells #[.int .i64 0, .int .i64 0, .int .i64 0] 34)).heap.size = w.heap.size + 1 := by simp
  clear h hx hc
  go_enter Try.func43, Try.ntmps43
  go_wp2_with fail
  generalize w.alloc (.cells #[.int .i64 0, .int .i64 0, .int .i64 0] 34) = W0 at *
  refine hi.mono ?_
  rintro e' w2 ⟨rfl, ht⟩
  have bz2 := ht.keep bz (by omega) (fun hk => by have := hvl _ hk; omega)
  have hzl : w.heap.size < w2.heap.size := bz2.lt
  have hbl : b < w2.heap.size := by omega
  have o3 : Only [] w2 (w2.alloc (.cells #[.int .i64 x.f, .int .i64 x.l, .int .i64 x.m] 34)) := (Only.refl [] w2).alloc _
  have ht3 := ht.behind o3
  have bx3 := PBox.new w2 x
  have bz3 := bz2.only o3 (by simp)
  clear ht bz2 o3 hi bz
  go_wp2_with fail
  generalize w2.alloc (.cells #[.int .i64 x.f, .int .i64 x.l, .int .i64 x.m] 34) = W3 at *
  obtain ⟨A, cap, hb3⟩ := ht3.blk
  obtain ⟨c0, _, c2, c3, _⟩ := hb3.c
  have x1 := bx3.c.2.1
  have fr3 := hb3.fr 3
  have hl := fLen _ b r n s fin A xs.length cap ((hb3.set3 fin).only0 (Only.refl [] _).drew)
  have ht4 := (ht3.set3 fin).behind (Only.refl [] _).drew
  have hne1 : ¬ (w.heap.size = b) := by omega
  have hne2 : ¬ (w2.heap.size = b) := by omega
  have bx4 : PBox (W3.setCell ⟨b, 3, none⟩ (.int .u64 fin)).drew w2.heap.size x := bx3.only (((Only.refl [b] W3).setCell (by simp) _).drew) (by simpa using hne2)
  have bz4 : PBox (W3.setCell ⟨b, 3, none⟩ (.int .u64 fin)).drew w.heap.size ⟨0, 0, 0⟩ := bz3.only (((Only.refl [b] W3).setCell (by simp) _).drew) (by simpa using hne1)
  have T4 := Lib.hid (And.intro ht4 (And.intro bx4 (And.intro bz4 o0)))
  have hcst := cost_any x.l r W3.drew (i64_to hok.2.1).1 (i64_to hok.2.1).2 hr.1 hr.2
  have hadd := add_any s (costM x.l r) W3.drew hs.1 (cost_word x.l r hr).1 hs.2 (cost_word x.l r hr).2
  have hfw := fin_word hs x.l r hr
  rw [hfin] at hadd hfw
  have hq4 := ((hb3.set3 fin).only0 (Only.refl [] _).drew).c
  have HS4 := Lib.hid (And.intro hq4.1 (And.intro hq4.2.2.1 bx4.c.2.1))
  clear ht3 bx3 bz3 hb3 ht4 bx4 bz4 o0 hq4
  go_region_held3 (fun w' => w'.cell? ⟨b, 0, none⟩ = some (.int .u64 r) ∧ w'.cell? ⟨b, 2, none⟩ = some (.int .u64 s) ∧ w'.cell? ⟨w2.heap.size, 1, none⟩ = some (.int .i64 x.l))
    (first | (exact HS4.out) | go_keep)
    (first | (go_at_call 71; refine hcst.mono ?_; rintro e' w' ⟨rfl, rfl⟩) | (go_at_call 70; refine hadd.mono ?_; rintro e' w' ⟨rfl, rfl⟩))
  clear hcst hadd
  go_wp2_with fail
  generalize (W3.setCell ⟨b, 3, none⟩ (.int .u64 fin)).drew = W4 at *
  refine hl.mono ?_
  rintro e' w' ⟨rfl, rfl⟩
  obtain ⟨A4, cap4, hb4⟩ := T4.out.1.blk
  obtain ⟨_, _, d2, d3, _⟩ := hb4.c
  have fr2 := hb4.fr 2
  obtain ⟨y0, y1, y2⟩ := T4.out.2.1.c
  obtain ⟨z0, z1, z2⟩ := T4.out.2.2.1.c
  have g0 := T4.out.2.2.1.fr 0
  have g1 := T4.out.2.2.1.fr 1
  have g2 := T4.out.2.2.1.fr 2
  have hne3 : ¬ (w.heap.size = w2.heap.size) := by omega
  clear hl c0 c2 c3 x1 fr3 hb4 hfin
  have hbox : Hid (∀ (s' : Int) (zs : List Pk) (V : World), Turn W0 b r n s' fin v zs V → Turn w b r n s' fin v zs (((V.setCell ⟨w.heap.size, 0, none⟩ (.int .i64 x.f)).setCell ⟨w.heap.size, 1, none⟩ (.int .i64 x.l)).setCell ⟨w.heap.size, 2, none⟩ (.int .i64 x.m)).drew) := fun s' zs V hV =>
    hV.box T4.out.2.2.2 (S := [w.heap.size]) (by simp; omega) hb hvl (((((Only.refl _ _).setCell (by simp) _).setCell (by simp) _).setCell (by simp) _).drew)
  rcases xs with _ | ⟨y, ys⟩
  · go_wp2_with fail
    go_region
    go_wp2_with fail
    refine bodyPost_ret (v := .tuple #[.agg #[.int .i64 x.f, .int .i64 x.l, .int .i64 x.m], .int .u64 fin, .bool true]) ?_ rfl ?_
    · rw [results_cell_tmp2 rfl]; go_simp
    · exact ⟨rfl, s, fun h => absurd rfl h, hs, hbox.out _ _ _ T4.out.1⟩
  · obtain ⟨p1, p2, p3, p4⟩ := pos_len ys.length
    have p5 : (0 : Int) < ((y :: ys).length : Int) := by simp
    have p6 : (0 : Int) < (ys.length : Int) + 1 := by omega
    have ht5 := T4.out.1.set2 fin
    have T5 := Lib.hid ht5
    obtain ⟨A5, cap5, hb5⟩ := ht5.blk
    obtain ⟨_, _, _, e3, _⟩ := hb5.c
    clear ht5 hb5
    go_wp2_with fail
    go_region
    go_wp2_with fail
    refine bodyPost_ret (v := .tuple #[.agg #[.int .i64 x.f, .int .i64 x.l, .int .i64 x.m], .int .u64 fin, .bool true]) ?_ rfl ?_
    · rw [results_cell_tmp2 rfl]; go_simp
    · exact ⟨rfl, fin, fun _ => rfl, hfw, hbox.out _ _ _ T5.out⟩

set_option maxHeartbeats 1000000 in
theorem fArriveFull (w : World) (b : Nat) (r s e : Int) (A : Option Addr) (m cap : Nat) (h : FBlk w b r (m : Int) s e (.slice A m cap)) (vt : Int) (x : Pk) :
    Calls Try.prog 46 #[.pointer (some ⟨b, 0, none⟩), .int .u64 vt, .agg #[.int .i64 x.f, .int .i64 x.l, .int .i64 x.m]] w fun e' w' => e' = .returned (.bool false) ∧ Only [] w w' := by
  have o0 : Only [] w (w.alloc (.cells #[.int .i64 x.f, .int .i64 x.l, .int .i64 x.m] 34)) := (Only.refl [] w).alloc _
  have hl := fun q => fLen _ b r m s e A m cap (h.only0 (o0.drewN q))
  go_enter Try.func46, Try.ntmps46
  go_wp2_with fail
  generalize w.alloc (.cells #[.int .i64 x.f, .int .i64 x.l, .int .i64 x.m] 34) = W at *
  obtain ⟨_, c1, _, _, _⟩ := (h.only0 o0).c
  clear h
  go_quiet (first | (go_at_call 52; exact Calls.quiet_of_same (hl _)))
  go_wp2_with fail
  go_ret
  exact ⟨rfl, o0.drewN _⟩

set_option maxHeartbeats 2000000 in
theorem fArrive (w : World) (b : Nat) (r n s e : Int) (v : Value) (xs : List Pk) (h : FBlk w b r n s e v) (hx : PRow w v xs) (hxl : xs.length ≤ 1000) (hn : (xs.length : Int) ≠ n) (vt : Int) (x : Pk) (s' : Int) (hs' : s' = if xs = [] then max vt e else s) :
    Calls Try.prog 46 #[.pointer (some ⟨b, 0, none⟩), .int .u64 vt, .agg #[.int .i64 x.f, .int .i64 x.l, .int .i64 x.m]] w fun e' w' => e' = .returned (.bool true) ∧ Turn w b r n s' e v (xs ++ [x]) w' := by
  have o0 : Only [] w (w.alloc (.cells #[.int .i64 x.f, .int .i64 x.l, .int .i64 x.m] 34)) := (Only.refl [] w).alloc _
  have bx := PBox.new w x
  have hb := h.lt
  have hvl : ∀ g, v.ownBlock = some g → g < w.heap.size := fun g hg => hx.lt hg
  obtain ⟨A, cap, rfl⟩ := hx.form
  have hn1 : ((xs.length : Int) == n) = false := by simpa using hn
  have hl := fun W' (q : Only [] w W') => fLen _ b r n s e A xs.length cap (h.only0 q)
  go_enter Try.func46, Try.ntmps46
  go_wp2_with fail
  generalize w.alloc (.cells #[.int .i64 x.f, .int .i64 x.l, .int .i64 x.m] 34) = W at *
  obtain ⟨_, c1, _, _, _⟩ := (h.only0 o0).c
  have H := Lib.hid (And.intro h hx)
  have HL := Lib.hid hl
  clear h hx hl
  go_quiet (first | (go_at_call 52; exact Calls.quiet_of_same (HL.out _ (o0.drewN _))))
  have o1 : Only [] w (W.drewN nq) := o0.drewN nq
  have bx1 : PBox (W.drewN nq) w.heap.size x := bx
  generalize W.drewN nq = W1 at *
  clear c1 bx o0
  go_wp2_with fail
  refine (HL.out _ o1).mono ?_
  rintro e' W1 ⟨rfl, rfl⟩
  have hne1 : ¬ (w.heap.size = b) := by omega
  have hne2 : ¬ (b = w.heap.size) := by omega
  rcases xs with _ | ⟨y, ys⟩
  · rw [if_pos rfl] at hs'
    have m1 : max vt e = s' := hs'.symm
    have m2 : (if vt < e then e else vt) = s' := by rw [hs']; split <;> omega
    have m3 : (if e < vt then vt else e) = s' := by rw [hs']; split <;> omega
    have hW := H.out.1.only0 o1
    obtain ⟨_, _, c2, c3, _⟩ := hW.c
    have fr2 := hW.fr 2
    have o2 : Hid (Only (b :: (Value.slice A ([] : List Pk).length cap).ownBlock.toList) w (W1.setCell ⟨b, 2, none⟩ (.int .u64 s'))) := (o1.mono (T := b :: (Value.slice A ([] : List Pk).length cap).ownBlock.toList) (by simp)).setCell (by simp) _
    have hb2 := hW.set2 s'
    have hx2 := (H.out.2.only o1 (by simp)).only (w' := W1.setCell ⟨b, 2, none⟩ (.int .u64 s')) ((Only.refl [b] W1).setCell (by simp) _) (fun g hg => by simpa using hW.ne (H.out.2.only o1 (by simp)) g hg)
    have bx2 := bx1.only (w' := W1.setCell ⟨b, 2, none⟩ (.int .u64 s')) ((Only.refl [b] W1).setCell (by simp) _) (by simpa using hne1)
    have H2 := Lib.hid (And.intro hb2 hx2)
    clear hs' hW hb2 hx2 o1 bx1
    go_wp2_with fail
    generalize W1.setCell ⟨b, 2, none⟩ (.int .u64 s') = W2 at *
    obtain ⟨x0, x1, x2⟩ := bx2.c
    have hadd := fAdd W2.drew b r n s' e _ [] (H2.out.1.only0 (Only.refl [] W2).drew) (H2.out.2.only (Only.refl [] W2).drew (by simp)) x (by simp)
    clear c2 c3 fr2 bx2 m1 m2 m3
    go_still_tail 4, (by kernel_rfl)
    change wpList _ _ _ _ _ W2.drew
    go_wp2_with fail
    refine hadd.mono ?_
    rintro e' w3 ⟨rfl, ht⟩
    have T := Lib.hid (Turn.from o2.out.drew ht)
    clear ht hadd
    go_wp2_with fail
    go_ret
    exact ⟨rfl, T.out⟩
  · rw [if_neg (by simp)] at hs'
    subst hs'
    obtain ⟨p1, p2, p3, p4⟩ := pos_len ys.length
    obtain ⟨x0, x1, x2⟩ := bx1.c
    have o2 : Hid (Only (b :: (Value.slice A (y :: ys).length cap).ownBlock.toList) w W1) := o1.mono (by simp)
    have hadd := fAdd W1.drew b r n s' e _ _ ((H.out.1.only0 o1).only0 (Only.refl [] W1).drew) ((H.out.2.only o1 (by simp)).only (Only.refl [] W1).drew (by simp)) x hxl
    clear bx1 o1
    go_wp2_with fail
    go_still_tail 4, (by kernel_rfl)
    change wpList _ _ _ _ _ W1.drew
    go_wp2_with fail
    refine hadd.mono ?_
    rintro e' w3 ⟨rfl, ht⟩
    have T := Lib.hid (Turn.from o2.out.drew ht)
    clear ht hadd
    go_wp2_with fail
    go_ret
    exact ⟨rfl, T.out⟩
end Go.Proofs.Ytjmnklmomdfpfaa
