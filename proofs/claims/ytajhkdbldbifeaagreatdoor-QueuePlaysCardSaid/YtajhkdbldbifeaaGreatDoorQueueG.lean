/-
  Contracts of the queue's Shard and All.
-/
import Derived.Test.YtajhkdbldbifeaaGreatDoorQueueA
import Derived.Test.YtajhkdbldbifeaaGreatDoorQueueQ
namespace Go.Proofs.YtajhkdbldbifeaaGreatDoor
set_option maxRecDepth 100000
open Go.RowKit Go.ChangeMaps Go.MapKept
set_option linter.unusedVariables false
set_option linter.unusedSimpArgs false

theorem qShardIn (w : World) (qb : Nat) (S : List Nat) (n wd : Nat) (B : Nat → Int) (L : Nat → List It) (h : QueueOf w qb S n wd B L) (hT : Tab w) (i : Nat) (hi : i < n) :
    Calls Tryz.prog 18 #[.pointer (some ⟨qb, 0, none⟩), .int .i64 (i : Int)] w fun e w' => ∃ A cap, e = .returned (.slice A (L i).length cap) ∧ RowIs w' (.slice A (L i).length cap) (L i) ∧ (∀ k, (Value.slice A (L i).length cap).ownBlock = some k → w.heap.size ≤ k) ∧ Only [] w w' := by
  obtain ⟨ab, tb, ib, nb, P, SS, rfl, h⟩ := h
  have c0 := h.c0
  have ci := h.at_ hi
  have n16 := h.n1.2
  have hI : (0 : Int) ≤ (i : Int) ∧ (i : Int) < (n : Int) := by omega
  have h1 : ¬ ((i : Int) < 0) := by omega
  have h1' : decide ((i : Int) < 0) = false := decide_eq_false h1
  have h2 : ¬ ((n : Int) ≤ (i : Int)) := by omega
  have h2' : ¬ (n ≤ i) := by omega
  have ha := sAll w (P i) (SS i) wd (B i) (L i) (h.sh i hi) hT
  clear h hT
  generalize (L i).length = m at *
  go_enter Tryz.func18, Tryz.ntmps18
  go_wp2_with fail
  refine ha.mono ?_
  rintro e w2 ⟨A, cap, rfl, r, v, o⟩
  have R := Lib.hid (And.intro r (And.intro v o))
  clear r v o ha
  go_wp2_with fail
  go_ret
  exact ⟨A, cap, rfl, R.out.1, R.out.2.1, R.out.2.2⟩
theorem qShardOut (w : World) (qb : Nat) (S : List Nat) (n wd : Nat) (B : Nat → Int) (L : Nat → List It) (h : QueueOf w qb S n wd B L) (i : Int) (hi : i < 0 ∨ (n : Int) ≤ i) :
    Calls Tryz.prog 18 #[.pointer (some ⟨qb, 0, none⟩), .int .i64 i] w fun e w' => e = .returned (.slice none 0 0) ∧ w' = w := by
  obtain ⟨ab, tb, ib, nb, P, SS, rfl, h⟩ := h
  have c0 := h.c0
  have n16 := h.n1.2
  clear h
  by_cases h1 : i < 0
  · clear hi
    go_enter Tryz.func18, Tryz.ntmps18
    go_wp2_with fail
    go_ret
    exact ⟨rfl, rfl⟩
  · have h2 : (n : Int) ≤ i := by omega
    have h1' : decide (i < 0) = false := decide_eq_false h1
    clear hi
    go_enter Tryz.func18, Tryz.ntmps18
    go_wp2_with fail
    go_ret
    exact ⟨rfl, rfl⟩

/-- The lists of the first p shards; none of the others. -/
def upL (L : Nat → List It) (p : Nat) : Nat → List It := fun i => if i < p then L i else []
theorem upL_zero (L : Nat → List It) : upL L 0 = fun _ => [] := by funext i; simp [upL]
theorem upL_succ (L : Nat → List It) (p : Nat) : fup (upL L p) p (L p) = upL L (p + 1) := by
  funext i
  unfold fup upL
  by_cases e : i = p
  · subst e; simp
  · rw [if_neg e]
    by_cases h : i < p
    · rw [if_pos h, if_pos (by omega)]
    · rw [if_neg h, if_neg (by omega)]
theorem info_run : (Tryz.prog.info? 79).map (fun i => (i.zero, i.size, i.bytes)) = some (some (.slice none 0 0), 1, 24) := by kernel_rfl
def nilsR (n : Nat) : List Value := List.replicate n (.slice none 0 0)
theorem make_runs (m : Nat) (h : m ≤ 1000) (w : World) : (Instr.makeSlice 77 (.int .i64 (m : Int)) (.int .i64 (m : Int))).run Tryz.prog w = .ok (.slice (some ⟨w.heap.size, 0, none⟩) m m) (w.alloc (.cells (nilsR m).toArray 79)) := by
  have := run_make_row' (P := Tryz.prog) 77 79 (.slice none 0 0) 24 Tryz.underlying77 info_run rfl .i64 .i64 m (by omega) (by omega) w
  rw [made_one] at this
  exact this
theorem mrgStart {w w3 : World} {rb tb ib nb n : Nat} {v : Value} (r : RowIs w3 v []) (a : Arr w3 rb 79 (nilsR n)) (t : TourOf w3 tb ib nb n (fun _ => false) (fun _ => ⟨0, 0⟩)) (ne : ∀ b ∈ [tb, ib, nb], b ≠ rb) (own : ∀ g, v.ownBlock = some g → g ∉ [rb, tb, ib, nb]) (newv : ∀ g, v.ownBlock = some g → w.heap.size ≤ g) (new4 : ∀ b ∈ [rb, tb, ib, nb], w.heap.size ≤ b) (only : Only [] w w3) : Mrg w w3 rb tb ib nb n v [] (fun _ => []) :=
  ⟨r, ⟨_, a, by simp [nilsR], fun i hi => ⟨.slice none 0 0, by simp [nilsR, hi], Run.nil _ _⟩⟩, t, ne, own, newv, new4, only⟩
theorem mrgA {w w1 w2 : World} {tb ib nb n a0 cap : Nat} (r : RowIs w1 (.slice (some ⟨a0, 0, none⟩) 0 cap) []) (ha : w.heap.size ≤ a0) (o1 : Only [] w w1) (t : TourOf w2 tb ib nb n (fun _ => false) (fun _ => ⟨0, 0⟩)) (hb : ∀ b ∈ [tb, ib, nb], (w1.alloc (.cells (nilsR n).toArray 79)).drew.heap.size ≤ b) (o2 : Only [] (w1.alloc (.cells (nilsR n).toArray 79)).drew w2) :
    Mrg w w2 w1.heap.size tb ib nb n (.slice (some ⟨a0, 0, none⟩) 0 cap) [] (fun _ => []) := by
  have s1 := o1.size
  have s2 : (w1.alloc (.cells (nilsR n).toArray 79)).drew.heap.size = w1.heap.size + 1 := by simp
  have hla := r.lt (g := a0) rfl
  have o3 : Only [] w1 w2 := ((Only.refl [] w1).alloc _).drew.trans' o2
  rw [s2] at hb
  refine mrgStart (r.keep fun g hg => o3.block g (r.lt hg) (by simp)) ((Arr.new w1 _ _).only0 ((Only.refl [] _).drew.trans' o2)) t (fun b hb' => ?_) (fun g hg hc => ?_) (fun g hg => ?_) (fun b hb' => ?_) (o1.trans' o3)
  · have := hb b hb'; omega
  · have e : a0 = g := by simpa [Value.ownBlock] using hg
    subst e
    simp only [List.mem_cons, List.not_mem_nil, or_false] at hc
    rcases hc with hc | hc
    · omega
    · have := hb a0 (by simp; exact hc); omega
  · have e : a0 = g := by simpa [Value.ownBlock] using hg
    omega
  · simp only [List.mem_cons, List.not_mem_nil, or_false] at hb'
    rcases hb' with hc | hc
    · omega
    · have := hb b (by simp; exact hc); omega
theorem mrgB {w w1 w2 : World} {tb ib nb n a0 cap : Nat} (r : RowIs w1 (.slice (some ⟨a0, 0, none⟩) 0 cap) []) (ha : w.heap.size ≤ a0) (o1 : Only [] w w1) (t : TourOf w2 tb ib nb n (fun _ => false) (fun _ => ⟨0, 0⟩)) (hb : ∀ b ∈ [tb, ib, nb], w1.drew.heap.size ≤ b) (o2 : Only [] w1.drew w2) :
    Mrg w (w2.alloc (.cells (nilsR n).toArray 79)) w2.heap.size tb ib nb n (.slice (some ⟨a0, 0, none⟩) 0 cap) [] (fun _ => []) := by
  have s1 := o1.size
  have s2 : w1.drew.heap.size = w1.heap.size := rfl
  have s3 := o2.size
  have hla := r.lt (g := a0) rfl
  have o3 : Only [] w1 w2 := (Only.refl [] w1).drew.trans' o2
  have o4 : Only [] w1 (w2.alloc (.cells (nilsR n).toArray 79)) := o3.alloc _
  rw [s2] at hb s3
  refine mrgStart (r.keep fun g hg => o4.block g (r.lt hg) (by simp)) (Arr.new w2 _ _) (t.only0 ((Only.refl [] w2).alloc _)) (fun b hb' => ?_) (fun g hg hc => ?_) (fun g hg => ?_) (fun b hb' => ?_) (o1.trans' o4)
  · have := t.lt b hb'; omega
  · have e : a0 = g := by simpa [Value.ownBlock] using hg
    subst e
    simp only [List.mem_cons, List.not_mem_nil, or_false] at hc
    rcases hc with hc | hc
    · omega
    · have := hb a0 (by simp; exact hc); omega
  · have e : a0 = g := by simpa [Value.ownBlock] using hg
    omega
  · simp only [List.mem_cons, List.not_mem_nil, or_false] at hb'
    rcases hb' with hc | hc
    · omega
    · have := hb b (by simp; exact hc); omega
theorem Mrg.lt {w wr : World} {rb tb ib nb n : Nat} {v : Value} {D : List It} {R : Nat → List It} (h : Mrg w wr rb tb ib nb n v D R) : ∀ b ∈ v.ownBlock.toList ++ [rb, tb, ib, nb], b < wr.heap.size := fun b hb => by
  rcases List.mem_append.1 hb with h1 | h1
  · exact h.all.lt (Option.mem_toList.1 h1)
  · simp only [List.mem_cons, List.not_mem_nil, or_false] at h1
    obtain ⟨vs, a1, -⟩ := h.arr
    rcases h1 with rfl | h1
    · exact a1.lt
    · exact h.tr.lt b (by simp; exact h1)

set_option maxHeartbeats 8000000 in
theorem qAll (w : World) (qb : Nat) (S : List Nat) (n wd : Nat) (B : Nat → Int) (L : Nat → List It) (h : QueueOf w qb S n wd B L) (hT : Tab w) (hroom : (catL L n).length ≤ 100000) :
    Calls Tryz.prog 17 #[.pointer (some ⟨qb, 0, none⟩)] w fun e w' => ∃ A cap, e = .returned (.slice A (mergeM L n).length cap) ∧ RowIs w' (.slice A (mergeM L n).length cap) (mergeM L n) ∧ (∀ k, (Value.slice A (mergeM L n).length cap).ownBlock = some k → w.heap.size ≤ k) ∧ Only [] w w' := by
  obtain ⟨i0, hi0, hz0, hz1, hz2⟩ := info_parts item_info
  have hlen := qLen w qb S n wd B L h
  obtain ⟨ab, tb0, ib0, nb0, P, SS, rfl, h⟩ := h
  have n16 := h.n1.2
  have n1 := h.n1.1
  have htn : Hid (∀ (W : World), Calls Tryz.prog 47 #[.int .i64 (n : Int)] W fun e w' => ∃ tb, e = .returned (.pointer (some ⟨tb, 0, none⟩)) ∧ ∃ ib nb, TourOf w' tb ib nb n (fun _ => false) (fun _ => ⟨0, 0⟩) ∧ (∀ b ∈ [tb, ib, nb], W.heap.size ≤ b) ∧ Only [] W w') := fun W => by
    have := tNew W n
    have e : clampM (n : Int) = n := by have := clampM_eq (n : Int); omega
    rw [e] at this
    exact this
  have mk2 := make_runs n (by omega)
  have H := Lib.hid (And.intro h hT)
  clear h hT
  generalize hcl : (catL L n).length = cl at *
  have HCL := Lib.hid hcl
  clear hcl
  go_enter Tryz.func17, Tryz.ntmps17
  go_wp2_with (first | (go_at_call 11; refine hlen.mono ?_; rintro e wz ⟨rfl, oz⟩) | (with_reducible refine wpList_make_own _ rfl _ _ 33 rfl 0 40 i0 (.agg #[.int .u64 0, .int .i64 0]) 2 Tryz.underlying33 hi0 hz0 hz1 .i64 .i64 _ cl rfl rfl rfl ?m1 ?m2 ?m3 ?_))
  case m1 => rw [hz2]; omega
  case m2 => unfold maxLen; omega
  case m3 => exact Nat.zero_le _
  intro w1 hown hgrow
  have o1 : Only [] w w1 := oz.grown hgrow (by simp)
  have r1 : RowIs w1 (.slice (some ⟨wz.heap.size, 0, none⟩) 0 cl) [] := hown
  have c0 := (H.out.1.only0 o1).c0
  have R1 := Lib.hid (And.intro o1 (And.intro r1 oz.size))
  clear o1 r1 hown hgrow hlen hz0 hz1 hz2 hi0 oz
  go_wp2_with fail
  have hqb := World.block_lt_of_cell? w1 ⟨qb, 0, none⟩ c0
  go_region_held3 (fun w' => w'.cell? ⟨qb, 0, none⟩ = some (.slice (some ⟨ab, 0, none⟩) n n))
    (first | go_keep | (exact k0))
    (first | (go_at_call 47; refine (htn.out _).mono ?_; rintro e w2 ⟨tb, rfl, ib, nb, t2, f2, o2⟩; have k0 : w2.cell? ⟨qb, 0, none⟩ = some (.slice (some ⟨ab, 0, none⟩) n n) := o2.stay (by go_simp); have R2 := Lib.hid (And.intro t2 (And.intro f2 o2)); clear t2 f2 o2))
  all_goals
    go_wp2_with fail
    first
      | (have HM : Hid (Mrg w w2 w1.heap.size tb ib nb n (.slice (some ⟨wz.heap.size, 0, none⟩) 0 cl) [] (fun _ => [])) := mrgA R1.out.2.1 R1.out.2.2 R1.out.1 R2.out.1 R2.out.2.1 R2.out.2.2
         generalize w1.heap.size = rb at *
         generalize w2 = W0 at *)
      | (have HM : Hid (Mrg w (w2.alloc (.cells (nilsR n).toArray 79)) w2.heap.size tb ib nb n (.slice (some ⟨wz.heap.size, 0, none⟩) 0 cl) [] (fun _ => [])) := mrgB R1.out.2.1 R1.out.2.2 R1.out.1 R2.out.1 R2.out.2.1 R2.out.2.2
         generalize w2.alloc _ = W0 at *
         generalize w2.heap.size = rb at *)
    generalize wz.heap.size = a0 at *
    clear R1 R2 mk2 htn c0 hqb k0
    go_loopg [31] (n + 1) (fun gk si wr => ∃ p : Nat, si = .int .i64 (p : Int) ∧ p ≤ n ∧ n + 1 ≤ gk + p ∧ Hid (Mrg w wr rb tb ib nb n (.slice (some ⟨a0, 0, none⟩) 0 cl) [] (upL L p)))
    case atStart => exact ⟨0, rfl, by omega, by omega, by rw [upL_zero]; exact HM⟩
    case round =>
      obtain ⟨p, rfl, hp, hg, M⟩ := hrel
      clear HM
      by_cases hpl : p < n
      · have hpl' : (p : Int) < (n : Int) := by omega
        have hI : (0 : Int) ≤ (p : Int) ∧ (p : Int) < (n : Int) := by omega
        have hQ := H.out.1.only0 M.out.only
        have di := hQ.at_ hpl
        have ha := sAll wr (P p) (SS p) wd (B p) (L p) (hQ.sh p hpl) (H.out.2.only0 M.out.only)
        clear hQ
        have HE := Lib.hid (upL_succ L p)
        obtain ⟨m, em⟩ : ∃ m, (L p).length = m := ⟨_, rfl⟩
        rw [em] at ha
        have EM := Lib.hid em
        clear em
        go_wp2_with fail
        refine ha.mono ?_
        rintro e w3 ⟨A, cap, rfl, r3, v3, o3⟩
        have M3 := M.out.only0 o3
        obtain ⟨u0, d0, f0, -⟩ := M3.at_ hpl
        have hrun : Run w3 (.slice A m cap) (L p) ((Value.slice (some ⟨a0, 0, none⟩) 0 cl).ownBlock.toList ++ [rb, tb, ib, nb]) := by
          have e := EM.out
          subst e
          exact Run.of_row r3 fun g hg hc => by
            have := v3 g hg
            have := M.out.lt g hc
            omega
        obtain ⟨q1, q2⟩ := M3.store (i := p) hrun
        have hen := qEnterR _ tb ib nb n _ _ q1 _ _ _ q2 p hpl
        have R3 := Lib.hid (And.intro M3 hrun)
        clear r3 v3 o3 M3 hrun q1 q2 ha
        go_wp2_with fail
        refine hen.mono ?_
        rintro e w4 ⟨rfl, q1, q2⟩
        have M4 := Lib.hid (R3.out.1.put hpl R3.out.2 q1 q2)
        clear q1 q2 hen
        go_wp2_with fail
        go_roundg (n + 1 - (p + 1))
        case measure => omega
        case rel => exact ⟨p + 1, by simp, by omega, by omega, by rw [← HE.out]; exact M4⟩
      · have hpe : p = n := by omega
        subst hpe
        have hpl' : ¬ ((p : Int) < (p : Int)) := by omega
        have hw := tWin wr tb ib nb p _ _ M.out.tr
        rw [nodeM_one n16] at hw
        have HH : Hid (Homes p (upL L p) ∧ mergeM (upL L p) p = mergeM L p) := by
          have e : ∀ i, i < p → upL L p i = L i := fun i hi => by unfold upL; rw [if_pos hi]
          have hh := H.out.1.homes
          exact ⟨⟨fun i hi => by rw [e i hi]; exact hh.rises i hi, fun i hi => by rw [e i hi]; exact hh.ids i hi, fun i hi => by rw [e i hi]; exact hh.home i hi⟩, merge_congr e⟩
        have hml : Hid ((mergeM L p).length ≤ 100000) := by show _ ≤ _; rw [merge_len, HCL.out]; exact hroom
        change Calls _ _ _ _ (fun e w' => e = .returned (.tuple #[.int .i64 (winI (bestL (upL L p) p)), .agg #[.int .u64 (winX (bestL (upL L p) p) (firL (upL L p))).k, .int .i64 (winX (bestL (upL L p) p) (firL (upL L p))).i], .bool (winB (bestL (upL L p) p))]) ∧ Only [] wr w') at hw
        generalize upL L p = R0 at *
        go_wp2_with fail
        refine hw.mono ?_
        rintro e w3 ⟨rfl, o3⟩
        have hB := Box.new w3 (winX (bestL R0 p) (firL R0))
        have M3 := Lib.hid (And.intro (M.out.only0 (o3.alloc (.cells #[.int .u64 (winX (bestL R0 p) (firL R0)).k, .int .i64 (winX (bestL R0 p) (firL R0)).i] 40))) (And.intro hB (And.intro (fun hc => by have := M.out.lt _ hc; have := o3.size; omega : w3.heap.size ∉ (Value.slice (some ⟨a0, 0, none⟩) 0 cl).ownBlock.toList ++ [rb, tb, ib, nb]) (Nat.le_trans M.out.only.size o3.size))))
        clear o3 hB hw M
        go_wp2_with fail
        go_loopg [3, 8, 9, 10] ((mergeM R0 p).length + 1) (fun gk s3 s8 s9 s10 wr => ∃ (A : Option Addr) (cap : Nat) (D : List It) (R : Nat → List It) (bx : Nat), s3 = .slice A D.length cap ∧ s8 = .int .i64 (winI (bestL R p)) ∧ s9 = .pointer (some ⟨bx, 0, none⟩) ∧ s10 = .bool (winB (bestL R p)) ∧ Hid ((mergeM R p).length < gk) ∧ Hid (Mrg w wr rb tb ib nb p (.slice A D.length cap) D R ∧ Box wr bx (winX (bestL R p) (firL R)) ∧ bx ∉ (Value.slice A D.length cap).ownBlock.toList ++ [rb, tb, ib, nb] ∧ w.heap.size ≤ bx) ∧ Hid (Homes p R ∧ D ++ mergeM R p = mergeM L p))
        case atStart => exact ⟨_, _, [], R0, _, rfl, rfl, rfl, rfl, Nat.lt_succ_self _, M3.out, HH.out.1, by rw [HH.out.2]; rfl⟩
        case round =>
          obtain ⟨A, cap, D, R, bx, rfl, rfl, rfl, rfl, hgk, M, HD⟩ := hrel
          clear M3 HH
          have hDl : D.length ≤ 100000 := by
            have := hml.out
            rw [← HD.out.2, List.length_append] at this
            omega
          rcases bestL_range R p with e | ⟨i, hi, hne, e⟩
          · rw [e]
            have q1 : winI (-1) = 0 := rfl
            have q3 : winB (-1) = false := rfl
            rw [q1, q3]
            have hfin : D = mergeM L p := by
              have := HD.out.2
              rw [merge_none e, List.append_nil] at this
              exact this
            have HF := Lib.hid hfin
            clear hfin e q1 q3
            go_wp2_with fail
            go_ret
            obtain ⟨m1, m2, m3, m4⟩ := M.out
            have r := m1.all
            have v := m1.newv
            rw [HF.out] at r v ⊢
            exact ⟨A, cap, rfl, r, v, m1.only⟩
          · obtain ⟨f1, f2, f3⟩ := HD.out.1.merge_first e
            have q1 : winI (i : Int) = i := by unfold winI; rw [if_neg (by omega)]
            have q2 : winX (i : Int) (firL R) = first (R i) := by unfold winX firL; rw [if_neg (by omega), Int.toNat_natCast]
            have q3 : winB (i : Int) = true := by simp [winB]
            rw [e] at M ⊢
            rw [q1, q3]
            rw [q2] at M
            have HS : Hid (Homes p (fup R i (R i).tail)) := HD.out.1.sub f1 (List.tail_sublist _)
            have hI : (0 : Int) ≤ (i : Int) ∧ (i : Int) < (p : Int) := by omega
            obtain ⟨x, ex⟩ : ∃ x, first (R i) = x := ⟨_, rfl⟩
            rw [ex] at M f3
            have HF := Lib.hid f3
            have x0 := M.out.2.1.c0
            have x1 := M.out.2.1.c1
            obtain ⟨u, d0, k0, hrun⟩ := M.out.1.at_ hi
            obtain ⟨g, o, cu, hu, h1, h2, -, -⟩ := hrun.head hne
            subst hu
            have hbl := World.block_lt_of_cell? wr ⟨rb, i, none⟩ d0
            have hmp : 0 < (R i).length := List.length_pos_iff.2 hne
            have hrn : Hid (rb ∉ (Value.slice A D.length cap).ownBlock.toList) := fun hc => M.out.1.own rb (Option.mem_toList.1 hc) (by simp)
            have HN := Lib.hid hne
            obtain ⟨m, em⟩ : ∃ m, (R i).length = m := ⟨_, rfl⟩
            rw [em] at d0 h1 hmp
            have EM := Lib.hid em
            have hm1 : ¬ ((m : Int) < 1) := by omega
            have hm2 : (1 : Int) ≤ (m : Int) := by omega
            have hmc : (m : Int) ≤ (cu : Int) := by omega
            clear q1 q2 q3 e ex f2 f3 hrun hne em
            by_cases hcu : cu = 1
            all_goals
              go_wp2_with (at_builtin
                           refine wpList_append_row rfl (.tmp 63) (.tmp 65) rfl _ D rfl (M.out.1.all.keep (w' := wr.alloc (.cells #[.int .u64 x.k, .int .i64 x.i] 40)) fun g hg => Below.heap_alloc _ _ _ (M.out.1.all.lt hg)) (some ⟨wr.heap.size, 0, none⟩) 1 1 [x] rfl rfl (src_box wr x) (D.length + 1) rfl (by omega) ?_
                           intro A2 cap2 w2 r2 g2 l2
                           have hm := M.out.1.app ((Only.refl [] wr).alloc _) r2 g2 l2
                           have d2 : w2.cell? ⟨rb, i, none⟩ = some (.slice (some ⟨g, o, none⟩) m cu) := (hm.2.cell hbl hrn.out).trans d0
                           obtain ⟨u', d', k2, hrun⟩ := hm.1.at_ hi
                           have eu : u' = .slice (some ⟨g, o, none⟩) m cu := by
                             rw [d2] at d'
                             injection d' with d'
                             exact d'.symm
                           subst eu
                           have hen : Hid (∀ u2, Run w2 u2 (R i).tail ((Value.slice A2 (D.length + 1) cap2).ownBlock.toList ++ [rb, tb, ib, nb]) → Calls Tryz.prog 49 #[.pointer (some ⟨tb, 0, none⟩), .int .i64 (i : Int), .func (.func 50) #[u2] #[]] (w2.setCell ⟨rb, i, none⟩ u2) fun e w' => e = .returned (.tuple #[]) ∧ Mrg w w' rb tb ib nb p (.slice A2 (D.length + 1) cap2) (D ++ [x]) (fup R i (R i).tail) ∧ Only [rb, ib, nb] w2 w') := fun u2 hu2 => by
                             obtain ⟨q1, q2⟩ := hm.1.store (i := i) hu2
                             refine (qEnterR _ tb ib nb p _ _ q1 _ _ _ q2 i hi).mono ?_
                             rintro e w4 ⟨rfl, q3, q4⟩
                             exact ⟨rfl, hm.1.put hi hu2 q3 q4, ((Only.refl [rb, ib, nb] w2).setCell (by simp) _).trans q4 (fun b hb => .inl (List.mem_cons_of_mem _ hb))⟩
                           have R2 := Lib.hid (And.intro hm (And.intro hrun l2))
                           clear r2 g2 l2 hm hrun d')
              refine (hen.out _ (by
                have hr := R2.out.2.1
                have e := EM.out
                subst e
                first
                  | exact hr.tail HN.out _ (fun _ => rfl)
                  | (have h8 := hr.tail HN.out (some ⟨g, o, none⟩) (fun h9 => by omega)
                     have h7 : cu - 1 = 0 := by omega
                     rw [h7] at h8
                     exact h8))).mono ?_
              rintro e w3 ⟨rfl, M3, o3⟩
              have hbx : bx ∉ (Value.slice A2 (D.length + 1) cap2).ownBlock.toList ++ [rb, tb, ib, nb] := fun hc => by
                rcases List.mem_append.1 hc with h9 | h9
                · rcases R2.out.2.2 with l9 | l9
                  · rw [l9] at h9
                    exact M.out.2.2.1 (List.mem_append.2 (.inl h9))
                  · rw [l9] at h9
                    have h10 : bx = (wr.alloc (.cells #[.int .u64 x.k, .int .i64 x.i] 40)).heap.size := by simpa using h9
                    have := M.out.2.1.lt
                    simp at h10
                    omega
                · exact M.out.2.2.1 (List.mem_append.2 (.inr h9))
              have bx2 : Box w2 bx x := M.out.2.1.only R2.out.1.2 (fun hc => M.out.2.2.1 (List.mem_append.2 (.inl hc)))
              have bx3 : Box w3 bx x := bx2.only o3 (fun hc => hbx (List.mem_append.2 (.inr (by simp at hc ⊢; rcases hc with rfl | rfl | rfl <;> simp))))
              have z0 := bx3.c0
              have z1 := bx3.c1
              have oA : Only [] w3 (w3.alloc (.cells #[.int .u64 x.k, .int .i64 x.i] 40)) := (Only.refl [] w3).alloc _
              have bN := Box.new w3 x
              have hw := tWin _ tb ib nb p _ _ (M3.tr.only0 oA)
              rw [nodeM_one n16] at hw
              change Calls _ _ _ _ (fun e w' => e = .returned (.tuple #[.int .i64 (winI (bestL (fup R i (R i).tail) p)), .agg #[.int .u64 (winX (bestL (fup R i (R i).tail) p) (firL (fup R i (R i).tail))).k, .int .i64 (winX (bestL (fup R i (R i).tail) p) (firL (fup R i (R i).tail))).i], .bool (winB (bestL (fup R i (R i).tail) p))]) ∧ Only [] _ w') at hw
              have R3 := Lib.hid (And.intro M3 (And.intro oA bN))
              clear M3 o3 oA bN hbx bx2 bx3 hen R2
              generalize fup R i (R i).tail = R' at *
              go_wp2_with fail
              refine hw.mono ?_
              rintro e w5 ⟨rfl, o5⟩
              have b5 := R3.out.2.2.only o5 (by simp)
              have y0 := b5.c0
              have y1 := b5.c1
              have v0 := b5.fr 0
              have v1 := b5.fr 1
              have R5 := Lib.hid (And.intro o5 b5)
              clear o5 b5 hw
              go_wp2_with fail
              go_roundg ((mergeM R' p).length + 1)
              case measure =>
                have := hgk.out
                rw [HF.out] at this
                simpa using this
              case rel =>
                have o6 : Only [] w3 _ := ((R3.out.2.1.trans' R5.out.1).setCell (p := ⟨w3.heap.size, 0, none⟩) (.inr (Nat.le_refl _)) (.int .u64 (winX (bestL R' p) (firL R')).k)).setCell (p := ⟨w3.heap.size, 1, none⟩) (.inr (Nat.le_refl _)) (.int .i64 (winX (bestL R' p) (firL R')).i)
                have hd : (D ++ [x]).length = D.length + 1 := by simp
                refine ⟨A2, cap2, D ++ [x], R', w3.heap.size, by rw [hd], rfl, rfl, rfl, Nat.lt_succ_self _, ⟨by rw [hd]; exact R3.out.1.only0 o6, R5.out.2.put _ _, fun hc => ?_, R3.out.1.only.size⟩, HS.out, ?_⟩
                · rw [hd] at hc
                  have := R3.out.1.lt _ hc
                  omega
                · rw [List.append_assoc]
                  have := HD.out.2
                  rw [HF.out] at this
                  exact this
end Go.Proofs.YtajhkdbldbifeaaGreatDoor
