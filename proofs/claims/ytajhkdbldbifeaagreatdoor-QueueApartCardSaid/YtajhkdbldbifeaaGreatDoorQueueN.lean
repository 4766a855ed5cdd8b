/-
  Contract of the queue's New.
-/
import Derived.Test.YtajhkdbldbifeaaGreatDoorQueueO
namespace Go.Proofs.YtajhkdbldbifeaaGreatDoor
set_option maxRecDepth 100000
open Go.RowKit Go.ChangeMaps Go.MapKept
set_option linter.unusedVariables false
set_option linter.unusedSimpArgs false

/-- A queue that is being made: p of its shards are there. -/
structure Made (w wr : World) (qb ab tb ib nb n p : Nat) (P : Nat → Nat) (SS : Nat → List Nat) (wd : Nat) : Prop where
  blk : Arr wr qb 70 [.slice (some ⟨ab, 0, none⟩) n n, .pointer (some ⟨tb, 0, none⟩)]
  ptr : ∃ vs, Arr wr ab 71 vs ∧ vs.length = n ∧ ∀ i, i < p → vs[i]? = some (.pointer (some ⟨P i, 0, none⟩))
  tr : TourOf wr tb ib nb n (fun _ => false) (fun _ => ⟨0, 0⟩)
  sh : ∀ i, i < p → ShardOf wr (P i) (SS i) wd 0 []
  dis : ∀ i j, i < p → j < p → i ≠ j → ∀ b ∈ SS i, b ∉ SS j
  out : ∀ i, i < p → ∀ b ∈ SS i, b ∉ [qb, ab, tb, ib, nb]
  ne1 : ∀ b ∈ [tb, ib, nb], b ≠ qb ∧ b ≠ ab
  new5 : ∀ b ∈ [qb, ab, tb, ib, nb], w.heap.size ≤ b
  newS : ∀ i, i < p → ∀ b ∈ SS i, w.heap.size ≤ b
  only : Only [] w wr
def nils (n : Nat) : List Value := List.replicate n (.pointer none)
theorem info_sp : (Tryz.prog.info? 71).map (fun i => (i.zero, i.size, i.bytes)) = some (some (.pointer none), 1, 8) := by kernel_rfl
theorem make_ptrs' (m : Nat) (z : Int) (hz : z = (m : Int)) (h : m ≤ 1000) (w : World) : (Instr.makeSlice 67 (.int .i64 z) (.int .i64 z)).run Tryz.prog w = .ok (.slice (some ⟨w.heap.size, 0, none⟩) m m) (w.alloc (.cells (nils m).toArray 71)) := by
  rw [hz]
  have := run_make_row' (P := Tryz.prog) 67 71 (.pointer none) 8 Tryz.underlying67 info_sp rfl .i64 .i64 m (by omega) (by omega) w
  rw [made_one] at this
  exact this
/-- The slice made first, then the tournament; and the other way round. -/
theorem madeA {w w1 w2 w3 : World} {tb ib nb n wd : Nat} (o1 : Only [] (w.alloc (.cells (nils n).toArray 71)) w1) (t : TourOf w2 tb ib nb n (fun _ => false) (fun _ => ⟨0, 0⟩)) (hb : ∀ b ∈ [tb, ib, nb], w1.heap.size ≤ b) (o2 : Only [] w1 w2)
    (o3 : Only [] (w2.alloc (.cells #[.slice (some ⟨w.heap.size, 0, none⟩) n n, .pointer (some ⟨tb, 0, none⟩)] 70)) w3) : Made w w3 w2.heap.size w.heap.size tb ib nb n 0 (fun _ => 0) (fun _ => []) wd := by
  have s1 := o1.size
  have s2 := o2.size
  simp at s1
  have oA : Only [] w w1 := ((Only.refl [] w).alloc _).trans' o1
  have oB : Only [] w2 w3 := ((Only.refl [] w2).alloc _).trans' o3
  refine ⟨(Arr.new w2 _ [_, _]).only0 o3, ⟨nils n, (((Arr.new w _ _).only0 o1).only0 o2).only0 oB, by simp [nils], fun i hi => by omega⟩, t.only0 oB, fun i hi => by omega, fun i j hi => by omega, fun i hi => by omega, fun b hb' => ?_, fun b hb' => ?_, fun i hi => by omega, (oA.trans' o2).trans' oB⟩
  · have h1 := t.lt b hb'
    have h2 := hb b hb'
    omega
  · simp only [List.mem_cons, List.not_mem_nil, or_false] at hb'
    rcases hb' with rfl | rfl | h9
    · omega
    · omega
    · have := hb b (by simpa using h9); omega
theorem madeB {w w1 w2 w3 : World} {tb ib nb n wd : Nat} (t : TourOf w1 tb ib nb n (fun _ => false) (fun _ => ⟨0, 0⟩)) (hb : ∀ b ∈ [tb, ib, nb], w.heap.size ≤ b) (o1 : Only [] w w1) (o2 : Only [] (w1.alloc (.cells (nils n).toArray 71)) w2) (e2 : w2.heap.size = w1.heap.size + 1)
    (o3 : Only [] (w2.alloc (.cells #[.slice (some ⟨w1.heap.size, 0, none⟩) n n, .pointer (some ⟨tb, 0, none⟩)] 70)) w3) : Made w w3 (w1.heap.size + 1) w1.heap.size tb ib nb n 0 (fun _ => 0) (fun _ => []) wd := by
  have s1 := o1.size
  have oB : Only [] w2 w3 := ((Only.refl [] w2).alloc _).trans' o3
  have oA : Only [] w1 w2 := ((Only.refl [] w1).alloc _).trans' o2
  rw [← e2]
  refine ⟨(Arr.new w2 _ [_, _]).only0 o3, ⟨nils n, ((Arr.new w1 _ _).only0 o2).only0 oB, by simp [nils], fun i hi => by omega⟩, (t.only0 oA).only0 oB, fun i hi => by omega, fun i j hi => by omega, fun i hi => by omega, fun b hb' => ?_, fun b hb' => ?_, fun i hi => by omega, (o1.trans' oA).trans' oB⟩
  · have h1 := t.lt b hb'
    omega
  · simp only [List.mem_cons, List.not_mem_nil, or_false] at hb'
    rcases hb' with rfl | rfl | h9
    · omega
    · omega
    · have := hb b (by simpa using h9); omega
section
variable {w wr w' : World} {qb ab tb ib nb n p wd : Nat} {P : Nat → Nat} {SS : Nat → List Nat}
theorem Made.lt (h : Made w wr qb ab tb ib nb n p P SS wd) : (∀ b ∈ [qb, ab, tb, ib, nb], b < wr.heap.size) ∧ ∀ i, i < p → ∀ b ∈ SS i, b < wr.heap.size := by
  refine ⟨fun b hb => ?_, fun i hi b hb => (h.sh i hi).lt b hb⟩
  simp only [List.mem_cons, List.not_mem_nil, or_false] at hb
  rcases hb with rfl | rfl | h1
  · exact h.blk.lt
  · obtain ⟨vs, h1, -⟩ := h.ptr
    exact h1.lt
  · exact h.tr.lt b (by simpa using h1)
/-- One shard more. -/
theorem Made.more (h : Made w wr qb ab tb ib nb n p P SS wd) (hp : p < n) {sb : Nat} {S : List Nat} {w2 : World} (hs : ShardOf w2 sb S wd 0 []) (hf : ∀ b ∈ S, wr.heap.size ≤ b) (o1 : Only [] wr w2) (o2 : Only [ab] w2 w') (he : ∀ vs, Arr w2 ab 71 vs → Arr w' ab 71 (vs.set p (.pointer (some ⟨sb, 0, none⟩)))) :
    Made w w' qb ab tb ib nb n (p + 1) (fup P p sb) (fup SS p S) wd := by
  obtain ⟨l1, l2⟩ := h.lt
  obtain ⟨vs, v1, v2, v3⟩ := h.ptr
  have hsz := h.only.size
  have nab : ∀ b ∈ [tb, ib, nb], b ∉ [ab] := fun b hb hc => (h.ne1 b hb).2 (by simpa using hc)
  have nqb : qb ∉ [ab] := fun hc => h.blk.ne v1 (by decide) (by simpa using hc)
  have nS : ∀ b ∈ S, b ∉ [ab] := fun b hb hc => by
    have e : b = ab := by simpa using hc
    have := hf b hb
    have := l1 ab (by simp)
    omega
  refine ⟨(h.blk.only0 o1).only o2 nqb, ⟨_, he vs (v1.only0 o1), by simpa using v2, fun i hi => ?_⟩, (h.tr.only0 o1).only o2 nab, fun i hi => ?_, fun i j hi hj hne b hb hc => ?_, fun i hi b hb hc => ?_, h.ne1, h.new5, fun i hi b hb => ?_, (h.only.trans' o1).trans o2 (by simp; exact h.new5 ab (by simp))⟩
  · by_cases e : i = p
    · subst e; rw [fup_same]; simp [v2, hp]
    · rw [fup_other _ _ e, List.getElem?_set_ne (by omega)]; exact v3 i (by omega)
  · by_cases e : i = p
    · subst e; rw [fup_same, fup_same]; exact hs.only o2 nS
    · rw [fup_other _ _ e, fup_other _ _ e]
      refine ((h.sh i (by omega)).only0 o1).only o2 fun b hb hc => ?_
      exact h.out i (by omega) b hb (by simp at hc; simp [hc])
  · by_cases e : i = p
    · subst e
      rw [fup_same] at hb
      rw [fup_other _ _ (Ne.symm hne)] at hc
      have := hf b hb
      have := l2 j (by omega) b hc
      omega
    · rw [fup_other _ _ e] at hb
      by_cases e2 : j = p
      · subst e2
        rw [fup_same] at hc
        have := hf b hc
        have := l2 i (by omega) b hb
        omega
      · rw [fup_other _ _ e2] at hc
        exact h.dis i j (by omega) (by omega) hne b hb hc
  · by_cases e : i = p
    · subst e
      rw [fup_same] at hb
      have := hf b hb
      have := l1 b hc
      omega
    · rw [fup_other _ _ e] at hb; exact h.out i (by omega) b hb hc
  · by_cases e : i = p
    · subst e
      rw [fup_same] at hb
      have := hf b hb
      omega
    · rw [fup_other _ _ e] at hb; exact h.newS i (by omega) b hb
/-- All of them. -/
theorem Made.done (h : Made w wr qb ab tb ib nb n n P SS wd) : QueueOf wr qb (qown qb ab tb ib nb n SS) n wd (fun _ => 0) (fun _ => []) ∧ (∀ b ∈ qown qb ab tb ib nb n SS, w.heap.size ≤ b) := by
  obtain ⟨vs, v1, v2, v3⟩ := h.ptr
  have e : vs = ptrs P n := by
    apply List.ext_getElem? 
    intro i
    by_cases hi : i < n
    · rw [v3 i hi, ptrs_at P hi]
    · rw [List.getElem?_eq_none (by omega), List.getElem?_eq_none (by simp; omega)]
  rw [e] at v1
  refine ⟨⟨ab, tb, ib, nb, P, SS, rfl, h.blk, v1, h.tr, h.sh, h.dis, h.out, h.ne1, Homes.empty n⟩, fun b hb => ?_⟩
  rcases mem_qown.1 hb with h1 | ⟨i, hi, h1⟩
  · exact h.new5 b h1
  · exact h.newS i hi b h1
end

set_option maxHeartbeats 4000000 in
theorem qNew (w : World) (a width : Int) : Calls Tryz.prog 31 #[.int .i64 a, .int .i64 width] w fun e w' => ∃ qb, e = .returned (.pointer (some ⟨qb, 0, none⟩)) ∧ ∃ S, QueueOf w' qb S (clampM a) (wid width) (fun _ => 0) (fun _ => []) ∧ (∀ b ∈ S, w.heap.size ≤ b) ∧ Only [] w w' := by
  have hc := clampM_eq a
  obtain ⟨h1, h16⟩ := clampM_le a
  generalize clampM a = n at *
  have htn : Hid (∀ (z : Int) (W : World), z = (n : Int) → Calls Tryz.prog 47 #[.int .i64 z] W fun e w' => ∃ tb, e = .returned (.pointer (some ⟨tb, 0, none⟩)) ∧ ∃ ib nb, TourOf w' tb ib nb n (fun _ => false) (fun _ => ⟨0, 0⟩) ∧ (∀ b ∈ [tb, ib, nb], W.heap.size ≤ b) ∧ Only [] W w') := fun z W hz => by
    have := tNew W z
    have e : clampM z = n := by have := clampM_eq z; omega
    rw [e] at this
    exact this
  have hsn : Hid (∀ W, Calls Tryz.prog 59 #[.int .i64 width] W fun e w' => ∃ sb S, e = .returned (.pointer (some ⟨sb, 0, none⟩)) ∧ ShardOf w' sb S (wid width) 0 [] ∧ (∀ b ∈ S, W.heap.size ≤ b) ∧ Only [] W w') := fun W => sNewOf W width
  have mk2 := make_ptrs' n _ rfl (by omega)
  have sf := Lib.hid (fun W => htn.out _ W rfl)
  clear htn
  go_enter Tryz.func31, Tryz.ntmps31
  go_wp2_with fail
  go_region_with (go_at_call 47; refine (sf.out _).mono ?_; rintro e w1 ⟨tb, rfl, ib, nb, t1, f1, o1⟩; have R1 := Lib.hid (And.intro t1 (And.intro f1 o1)); clear t1 f1 o1)
  all_goals
    go_wp2_with fail
    first
      | (have HM : Hid (Made w _ w1.heap.size w.heap.size tb ib nb n 0 (fun _ => 0) (fun _ => []) (wid width)) := madeA ((Only.refl [] _).drew) R1.out.1 R1.out.2.1 R1.out.2.2 (Only.refl [] _)
         generalize w1.alloc _ = W0 at *
         generalize w1.heap.size = qb at *
         generalize w.heap.size = ab at *)
      | (have HM : Hid (Made w _ (w1.heap.size + 1) w1.heap.size tb ib nb n 0 (fun _ => 0) (fun _ => []) (wid width)) := madeB R1.out.1 R1.out.2.1 ((Only.refl [] w).drew.trans' R1.out.2.2) (Only.refl [] _) (by simp) (Only.refl [] _)
         generalize (w1.alloc _).alloc _ = W0 at *
         generalize w1.heap.size + 1 = qb at *
         generalize w1.heap.size = ab at *)
    clear R1 mk2 sf hc
    go_loopg [22] (n + 1) (fun gk si wr => ∃ (p : Nat) (P : Nat → Nat) (SS : Nat → List Nat), si = .int .i64 (p : Int) ∧ p ≤ n ∧ n + 1 ≤ gk + p ∧ Hid (Made w wr qb ab tb ib nb n p P SS (wid width)))
    case atStart => exact ⟨0, _, _, rfl, by omega, by omega, HM⟩
    case round =>
      obtain ⟨p, P, SS, rfl, hp, hg, M⟩ := hrel
      clear HM
      by_cases hpl : p < n
      · have hpl' : (p : Int) < (n : Int) := by omega
        have c0 : wr.cell? ⟨qb, 0, none⟩ = some (.slice (some ⟨ab, 0, none⟩) n n) := by rw [M.out.blk.cell]; rfl
        obtain ⟨vs, v1, v2, -⟩ := M.out.ptr
        obtain ⟨v, ev⟩ : ∃ v, vs[p]? = some v := ⟨_, List.getElem?_eq_getElem (by omega)⟩
        have cp : wr.cell? ⟨ab, p, none⟩ = some v := by rw [v1.cell]; exact ev
        have fp := v1.fr p
        have V := Lib.hid (And.intro v1 (And.intro v2 ev))
        have nqa : ¬ qb = ab := M.out.blk.ne v1 (by decide)
        have naq : ¬ ab = qb := fun e => nqa e.symm
        clear v1 v2 ev
        go_wp2_with fail
        go_region_held3 (fun w' => w'.cell? ⟨qb, 0, none⟩ = some (.slice (some ⟨ab, 0, none⟩) n n))
          (first | go_keep | (exact k0))
          (first | (go_at_call 59; refine (hsn.out _).mono ?_; rintro e w2 ⟨sb, S, rfl, q1, q2, q3⟩; have o1 := (Only.refl [] wr).drew.trans' q3; have b1 := M.out.blk.only0 o1; have b2 := V.out.1.only0 o1; have k0 : w2.cell? ⟨qb, 0, none⟩ = some (.slice (some ⟨ab, 0, none⟩) n n) := (by rw [b1.cell]; rfl); have k1 : w2.cell? ⟨ab, p, none⟩ = some v := (by rw [b2.cell]; exact V.out.2.2); have k2 := b2.fr p; have Q := Lib.hid (And.intro q1 (And.intro q2 o1)); clear q1 q2 q3 o1 b1 b2))
        all_goals
          go_wp2_with fail
          go_roundg (n + 1 - (p + 1))
          case measure => omega
          case rel => exact ⟨p + 1, _, _, by simp, by omega, by omega, M.out.more hpl Q.out.1 Q.out.2.1 Q.out.2.2 ((Only.refl [ab] _).setCell (by simp) _) (fun vs h => h.store p _)⟩
      · have hpe : p = n := by omega
        subst hpe
        have hpl' : ¬ ((p : Int) < (p : Int)) := by omega
        go_wp2_with fail
        go_ret
        have hd := M.out.done
        exact ⟨_, rfl, _, hd.1, hd.2, M.out.only⟩
end Go.Proofs.YtajhkdbldbifeaaGreatDoor
