/-
  Contracts of the wheel's Min and All.
-/
import Derived.Test.YtfgffgicfieieaaDoorWheelR
namespace Go.Proofs.YtfgffgicfieieaaDoor
set_option maxRecDepth 100000
open Go.RowKit Go.ChangeMaps Go.MapKept
set_option linter.unusedVariables false
set_option linter.unusedSimpArgs false

theorem Tab.only {w w' : World} {S : List Nat} (h : Tab w) (ho : Only S w w') (hS : 0 ∉ S) : Tab w' := fun j hj =>
  (ho.cell (World.block_lt_of_cell? w _ (h j hj)) hS).trans (h j hj)
theorem Tab.only0 {w w' : World} (h : Tab w) (ho : Only [] w w') : Tab w' := h.only ho (by simp)
/-- What a bitmap's bit says. -/
theorem Tells.nil {ms : Nat → Nat} {f : Nat → List It} (h : Tells ms f) {L b : Nat} (hL : L < 3) (hb : b < 64) (hbit : (ms L).testBit b = false) : f (L * 64 + b) = [] := by
  have := (h L hL).2 b hb
  rw [hbit] at this
  cases hh : f (L * 64 + b) with
  | nil => rfl
  | cons x l => rw [hh] at this; cases this
theorem Tells.some {ms : Nat → Nat} {f : Nat → List It} (h : Tells ms f) {L b : Nat} (hL : L < 3) (hb : b < 64) (hbit : (ms L).testBit b = true) : f (L * 64 + b) ≠ [] := by
  have := (h L hL).2 b hb
  rw [hbit] at this
  intro hh
  rw [hh] at this
  cases this

set_option maxRecDepth 100000 in
set_option maxHeartbeats 2000000 in
theorem wMin (w : World) (wb : Nat) (S : List Nat) (wd : Nat) (base : Int) (l : List It) (h : WheelOf w wb S wd base l) (hT : Tab w) :
    Calls Tryd.prog 50 #[.pointer (some ⟨wb, 0, none⟩)] w fun e w' => e = .returned (.tuple #[.agg #[.int .u64 (first l).k, .int .i64 (first l).i], .bool (!l.isEmpty)]) ∧ Only [] w w' := by
  obtain ⟨vs, ms, mb, rfl, hW, hL, hok, hlen, hwd, hb1⟩ := h
  have oA : Only [] w (w.alloc (.cells #[.int .u64 0, .int .i64 0] 35)) := (Only.refl [] w).alloc _
  have bR : Box _ w.heap.size ⟨0, 0⟩ := Box.new w ⟨0, 0⟩
  have hW1 := hW.only0 oA
  have hT1 := hT.only0 oA
  obtain ⟨V, hV⟩ : ∃ V, w.alloc (.cells #[.int .u64 0, .int .i64 0] 35) = V := ⟨_, rfl⟩
  rw [hV] at hW1 oA bR hT1
  obtain ⟨N, eN⟩ : ∃ N, w.heap.size = N := ⟨_, rfl⟩
  rw [eN] at bR
  have y0 := bR.c0
  have y1 := bR.c1
  have f0 := bR.fr 0
  have f1 := bR.fr 1
  have HW := Lib.hid (And.intro hW1 (And.intro hL (And.intro hT1 oA)))
  clear hW hW1 hT hT1 oA bR hok
  go_enter Tryd.func50, Tryd.ntmps50
  go_wp2_with (simp only [hV])
  (try rw [hV])
  (try rw [eN])
  go_loopg [6] 4 (fun gk si wr => ∃ L : Nat, si = .int .i64 (L : Int) ∧ L ≤ 3 ∧ 4 ≤ gk + L ∧ wr = V ∧ Hid (∀ j, j < L * 64 → part (pl wd base) j l = []))
  case atStart => exact ⟨0, rfl, by omega, by omega, rfl, fun j hj => absurd hj (by omega)⟩
  case round =>
    obtain ⟨L, rfl, hL3, hg, rfl, hE⟩ := hrel
    by_cases hlt : L < 3
    · have hlt' : (L : Int) < 3 := by omega
      have hms := (HW.out.1.tells L hlt).1
      have m0 := HW.out.1.blk.bmap hlt
      have hnx := next_any (ms L) 0 wr hms HW.out.2.2.1
      rcases nextM_cases (ms L) 0 with ⟨e, hz⟩ | ⟨k, hk, e, hbit, -, hz⟩
      · rw [e] at hnx
        have hE' : Hid (∀ j, j < (L + 1) * 64 → part (pl wd base) j l = []) := fun j hj => by
          rcases Nat.lt_or_ge j (L * 64) with h1 | h1
          · exact hE.out j h1
          · have := HW.out.1.tells.nil hlt (b := j - L * 64) (by omega) (hz _ (by omega) (by omega))
            rw [show L * 64 + (j - L * 64) = j by omega] at this
            exact this
        clear hz e
        generalize ms L = m at *
        go_wp2_with (go_at_call 63; refine hnx.mono ?_; rintro e w' ⟨rfl, rfl⟩)
        go_roundg (4 - (L + 1))
        case measure => omega
        case rel => exact ⟨L + 1, by simp, by omega, by omega, rfl, hE'⟩
      · rw [e] at hnx
        have hi : L * 64 + k < 192 := by omega
        obtain ⟨x, r, hpx, t, hlx⟩ := part_first HW.out.2.1.sorted (i := L * 64 + k) (fun j hj => by
          rcases Nat.lt_or_ge j (L * 64) with h1 | h1
          · exact hE.out j h1
          · have := HW.out.1.tells.nil hlt (b := j - L * 64) (by omega) (hz _ (by omega) (by omega))
            rw [show L * 64 + (j - L * 64) = j by omega] at this
            exact this) (HW.out.1.tells.some hlt hk hbit)
        have hrow := HW.out.1.rows _ hi
        simp only [hpx] at hrow
        obtain ⟨g, cap, ev, -, -, -, -, hc⟩ := hrow.at_ (by simp)
        obtain ⟨d0, d1, -, -⟩ := hc 0 (by simp)
        simp [gOf] at d0 d1
        have hn : (0 : Int) < ((x :: r).length : Int) := by simp
        have cl : wr.cell? ⟨wb, 2 + L * 64 + k, none⟩ = some (.slice (some ⟨g, 0, none⟩) (x :: r).length cap) := by rw [Nat.add_assoc, ← ev]; exact HW.out.1.blk.list hi
        have hk' : (k : Int) < 64 := by omega
        have tk : ((k : Int) != -1) = true := by simp
        have HX := Lib.hid hlx
        clear hz e hbit hrow hc ev hpx hlx
        generalize (x :: r).length = n at *
        generalize ms L = m at *
        go_wp2_with (go_at_call 63; refine hnx.mono ?_; rintro e w' ⟨rfl, rfl⟩)
        (try simp only [Exit.inBlock, Exit.then])
        refine bodyPost_ret (v := .tuple #[.agg #[.int .u64 x.k, .int .i64 x.i], .bool true]) ?_ rfl ?_
        · rw [results_cell_tmp rfl]; go_simp
        · refine ⟨by rw [HX.out]; rfl, ?_⟩
          exact (HW.out.2.2.2.setCell (.inr (by rw [eN]; exact Nat.le_refl _)) _).setCell (.inr (by rw [eN]; exact Nat.le_refl _)) _
    · obtain rfl : L = 3 := by omega
      have hl0 : l = [] := by
        cases l with
        | nil => rfl
        | cons x t =>
          have := part_nil_iff.1 (hE.out (pl wd base x) (by have := HW.out.2.1.lt x (by simp); omega)) x (by simp)
          exact absurd rfl this
      have HX := Lib.hid hl0
      go_wp2_with fail
      (try simp only [Exit.inBlock, Exit.then])
      refine bodyPost_ret (v := .tuple #[.agg #[.int .u64 0, .int .i64 0], .bool false]) ?_ rfl ?_
      · rw [results_cell_tmp rfl]; go_simp
      · refine ⟨by rw [HX.out]; rfl, ?_⟩
        exact (HW.out.2.2.2.setCell (.inr (by rw [eN]; exact Nat.le_refl _)) _).setCell (.inr (by rw [eN]; exact Nat.le_refl _)) _

theorem below_le (p : It → Nat) (m : Nat) (l : List It) : (below p m l).length ≤ l.length := List.length_filter_le _ _

set_option maxRecDepth 100000 in
set_option maxHeartbeats 4000000 in
theorem wAll (w : World) (wb : Nat) (S : List Nat) (wd : Nat) (base : Int) (l : List It) (h : WheelOf w wb S wd base l) (hT : Tab w) (hlen : ∀ W, Only [] w W → Calls Tryd.prog 49 #[.pointer (some ⟨wb, 0, none⟩)] W fun e w' => e = .returned (.int .i64 (l.length : Int)) ∧ w' = W) :
    Calls Tryd.prog 38 #[.pointer (some ⟨wb, 0, none⟩)] w fun e w' => ∃ A cap, e = .returned (.slice A l.length cap) ∧ RowIs w' (.slice A l.length cap) l ∧ (∀ k, (Value.slice A l.length cap).ownBlock = some k → w.heap.size ≤ k) ∧ Only [] w w' := by
  obtain ⟨i0, hi0, hz0, hz1, hz2⟩ := info_parts item_info
  obtain ⟨vs, ms, mb, rfl, hW, hL, hok, hl4, hwd, hb1⟩ := h
  have HW := Lib.hid (And.intro hW (And.intro hL hT))
  have hle := hlen w (Only.refl [] w)
  clear hW hL hT hok hlen
  go_enter Tryd.func38, Tryd.ntmps38
  go_wp2_with (first | (go_at_call 49; refine hle.mono ?_; rintro e wz ⟨rfl, rfl⟩) | (with_reducible refine wpList_make_own _ rfl _ _ 38 rfl 0 35 i0 (.agg #[.int .u64 0, .int .i64 0]) 2 Tryd.underlying38 hi0 hz0 hz1 .i64 .i64 _ l.length rfl rfl rfl ?m1 ?m2 ?m3 ?_))
  case m1 => rw [hz2]; omega
  case m2 => unfold maxLen; omega
  case m3 => exact Nat.zero_le _
  intro w1 hown hgrow
  have o1 : Hid (Only [] wz w1) := (Only.refl [] wz).grown hgrow (by simp)
  have r1 : Hid (RowIs w1 (.slice (some ⟨wz.heap.size, 0, none⟩) (below (pl wd base) (0 * 64) l).length l.length) (below (pl wd base) (0 * 64) l)) := by
    show RowIs _ _ _
    rw [Nat.zero_mul, below_zero]
    exact hown
  have v1 : Hid (∀ g, (Value.slice (some ⟨wz.heap.size, 0, none⟩) (below (pl wd base) (0 * 64) l).length l.length).ownBlock = some g → wz.heap.size ≤ g) := fun g hg => by
    have : wz.heap.size = g := by simpa [Value.ownBlock] using hg
    omega
  have e0 : (0 : Nat) = (below (pl wd base) (0 * 64) l).length := by rw [Nat.zero_mul, below_zero]; rfl
  have hsort : Hid (l.Pairwise (fun x y => pl wd base x ≤ pl wd base y)) := HW.out.2.1.sorted
  clear hown hgrow hle hz0 hz1 hz2 hi0
  go_wp2_with fail
  go_loopg [3, 9] 4 (fun gk sl si wr => ∃ (L : Nat) (A : Option Addr) (cap : Nat), si = .int .i64 (L : Int) ∧ L ≤ 3 ∧ 4 ≤ gk + L ∧ sl = .slice A (below (pl wd base) (L * 64) l).length cap ∧ Hid (RowIs wr (.slice A (below (pl wd base) (L * 64) l).length cap) (below (pl wd base) (L * 64) l)) ∧ Hid (∀ g, (Value.slice A (below (pl wd base) (L * 64) l).length cap).ownBlock = some g → wz.heap.size ≤ g) ∧ Hid (Only [] wz wr))
  case atStart => exact ⟨0, some ⟨wz.heap.size, 0, none⟩, l.length, rfl, by omega, by omega, by rw [← e0], r1, v1, o1⟩
  case round =>
    obtain ⟨L, A, cap, rfl, hL3, hgk, rfl, hR, hV, hO⟩ := hrel
    clear r1 v1 o1 e0
    by_cases hlt : L < 3
    · have hlt' : (L : Int) < 3 := by omega
      have hms := (HW.out.1.tells L hlt).1
      have m0 := (HW.out.1.only0 hO.out).blk.bmap hlt
      have hnx : Hid (∀ W k, Only [] wz W → Calls Tryd.prog 63 #[.int .u64 ((ms L : Nat) : Int), .int .i64 k] W fun e w' => e = .returned (.int .i64 (nextM (ms L) k)) ∧ W = w') := fun W k oW => next_any (ms L) k W hms (HW.out.2.2.only0 oW)
      have e1 : L * 64 = L * 64 + 0 := rfl
      rw [e1] at hR hV
      have e2 : (below (pl wd base) (L * 64) l).length = (below (pl wd base) (L * 64 + 0) l).length := rfl
      rw [e2]
      clear e1 e2
      go_wp2_with (go_at_call 63; refine (hnx.out _ _ hO.out).mono ?_; rintro e w' ⟨rfl, rfl⟩)
      go_loopg [3, 5] 66 (fun g2 sl sb wr => ∃ (k : Nat) (A : Option Addr) (cap : Nat), sb = .int .i64 (nextM (ms L) (k : Int)) ∧ k ≤ 64 ∧ 65 ≤ g2 + k ∧ sl = .slice A (below (pl wd base) (L * 64 + k) l).length cap ∧ Hid (RowIs wr (.slice A (below (pl wd base) (L * 64 + k) l).length cap) (below (pl wd base) (L * 64 + k) l)) ∧ Hid (∀ g, (Value.slice A (below (pl wd base) (L * 64 + k) l).length cap).ownBlock = some g → wz.heap.size ≤ g) ∧ Hid (Only [] wz wr))
      case atStart => exact ⟨0, A, cap, rfl, by omega, by omega, rfl, hR, hV, hO⟩
      case round =>
        clear hR hV hO m0
        obtain ⟨k, A, cap, rfl, hk, hg2, rfl, hR, hV, hO⟩ := hrel
        have m0 := (HW.out.1.only0 hO.out).blk.bmap hlt
        rcases nextM_cases (ms L) (k : Int) with ⟨e, hz⟩ | ⟨m, hm, e, hbit, hkm, hz⟩
        · have hbl : below (pl wd base) ((L + 1) * 64) l = below (pl wd base) (L * 64 + k) l := below_skip hsort.out _ _ (by omega) fun j h1 h2 => by
            have := HW.out.1.tells.nil hlt (b := j - L * 64) (by omega) (hz _ (by omega) (by omega))
            rw [show L * 64 + (j - L * 64) = j by omega] at this
            exact this
          have HBL := Lib.hid hbl
          rw [e]
          clear e hz hbl
          go_wp2_with fail
          go_roundg (4 - (L + 1))
          case measure => omega
          case rel => exact ⟨L + 1, A, cap, by simp, by omega, by omega, by rw [HBL.out], by rw [HBL.out]; exact hR, by rw [HBL.out]; exact hV, hO⟩
        · have hi : L * 64 + m < 192 := by omega
          have hb1 : below (pl wd base) (L * 64 + m) l = below (pl wd base) (L * 64 + k) l := below_skip hsort.out _ _ (by omega) fun j h1 h2 => by
            have := HW.out.1.tells.nil hlt (b := j - L * 64) (by omega) (hz _ (by omega) (by omega))
            rw [show L * 64 + (j - L * 64) = j by omega] at this
            exact this
          have hb2 : below (pl wd base) (L * 64 + (m + 1)) l = below (pl wd base) (L * 64 + k) l ++ part (pl wd base) (L * 64 + m) l := by
            rw [← hb1, ← below_succ _ hsort.out]; rfl
          have HB2 := Lib.hid hb2
          have hrow := (HW.out.1.only0 hO.out).rows _ hi
          obtain ⟨A5, cap5, ev⟩ := hrow.form
          have cl : wr.cell? ⟨wb, 2 + L * 64 + m, none⟩ = some (.slice A5 (part (pl wd base) (L * 64 + m) l).length cap5) := by rw [Nat.add_assoc, ← ev]; exact (HW.out.1.only0 hO.out).blk.list hi
          have hsrc : Hid (Src wr A5 (part (pl wd base) (L * 64 + m) l)) := by
            rw [ev] at hrow
            exact Src.of_row hrow
          have hm' : (m : Int) < 64 := by omega
          have hNl : Hid ((below (pl wd base) (L * 64 + k) l).length + (part (pl wd base) (L * 64 + m) l).length = (below (pl wd base) (L * 64 + (m + 1)) l).length) := by
            show _ = _
            rw [hb2, List.length_append]
          have hNb := below_le (pl wd base) (L * 64 + (m + 1)) l
          rw [e]
          clear e hz hbit hb1 hb2 hrow ev
          have hkm' : k ≤ m := by omega
          have tm : ((m : Int) != -1) = true := by simp
          generalize hP : part (pl wd base) (L * 64 + m) l = P at *
          generalize hQ : (below (pl wd base) (L * 64 + (m + 1)) l).length = Q at *
          go_wp2_with (at_builtin
                       refine wpList_append_row rfl (.tmp 30) (.tmp 38) rfl _ (below (pl wd base) (L * 64 + k) l) rfl hR.out _ _ _ P rfl rfl hsrc.out Q hNl.out (by omega) ?_
                       intro A2 cap2 w2 r2 g2 l2
                       have q2 : Only [] wz w2 := hO.out.grown g2 (fun k hk => .inr (hV.out k hk))
                       have v2 := own_fresh (B := wz.heap.size) l2 hV.out hO.out.size
                       rw [← HB2.out] at r2
                       have m2 := (HW.out.1.only0 q2).blk.bmap hlt
                       have R2 := Lib.hid (And.intro r2 (And.intro v2 q2))
                       clear r2 g2 l2 q2 v2)
          refine (hnx.out _ _ R2.out.2.2).mono ?_
          rintro e w' ⟨rfl, rfl⟩
          go_wp2_with fail
          go_roundg (65 - (m + 1))
          case measure => omega
          case rel =>
            rw [← hQ] at R2
            exact ⟨m + 1, A2, cap2, by rw [Int.natCast_add]; rfl, by omega, by omega, by rw [hQ], R2.out.1, R2.out.2.1, R2.out.2.2⟩
    · obtain rfl : L = 3 := by omega
      have hful : below (pl wd base) (3 * 64) l = l := below_full HW.out.2.1.lt
      rw [hful] at hR hV ⊢
      go_wp2_with fail
      go_ret
      exact ⟨A, cap, rfl, hR.out, hV.out, hO.out⟩
end Go.Proofs.YtfgffgicfieieaaDoor
