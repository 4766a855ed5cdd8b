/-
  Contracts of the shard's give, advance, Move, Pop.
-/
import Derived.Test.YtfgffgicfieieaaDoorShardP
namespace Go.Proofs.YtfgffgicfieieaaDoor
set_option maxRecDepth 100000
open Go.RowKit Go.ChangeMaps Go.MapKept
set_option linter.unusedVariables false
set_option linter.unusedSimpArgs false

theorem Box.put {w : World} {b : Nat} {x : It} (h : Box w b x) (k j : Int) : Box ((w.setCell ⟨b, 0, none⟩ (.int .u64 k)).setCell ⟨b, 1, none⟩ (.int .i64 j)) b ⟨k, j⟩ := by
  unfold Box at h ⊢
  simp [World.setCell, Array.getElem?_modify, h]
theorem far_up {wd : Nat} {base j k : Int} (hj : inR wd base j = false) (hb : base ≤ j) (hk : j ≤ k) : inR wd base k = false := by
  rcases h : inR wd base k with _ | _
  · rfl
  · have h1 := inR_iff.1 h
    have h2 : reach wd base j := ⟨hb, by
      have u1 := uu_le wd hb
      have u2 := uu_le wd hk
      have h3 := h1.2
      generalize uu wd base = B at *
      generalize uu wd j = X at *
      generalize uu wd k = Y at *
      omega⟩
    rw [inR_iff.2 h2] at hj
    cases hj
theorem ins_last {x : It} {n : List It} (hr : Rises (n ++ [x])) (hi : ∀ y ∈ n, y.i ≠ x.i) : ins x n = n ++ [x] :=
  Rises.eq_of_perm (ins_rises (List.pairwise_append.1 hr).1 hi) hr (ins_perm x n)
theorem ids_parts {x : It} {n t : List It} (h : Ids (n ++ x :: t)) : (∀ y ∈ n, y.i ≠ x.i) := by
  unfold Ids at h
  rw [List.map_append, List.map_cons] at h
  intro y hy e
  exact (List.nodup_append.1 h).2.2 y.i (List.mem_map.2 ⟨y, hy, rfl⟩) x.i (by simp) e
/-- What give has got to: n in the wheel, f still in the heap. -/
structure Giving (w0 w : World) (sb wb hb : Nat) (Sn Sf : List Nat) (wd : Nat) (base : Int) (l : List It) (Sn' Sf' : List Nat) (n f : List It) : Prop where
  holds : Holds w sb wb hb Sn' Sf' wd base n f
  moved : Moved w0 (sown sb Sn Sf) w (sown sb Sn' Sf')
  all : n ++ f = l
  near : ∀ x ∈ n, inR wd base x.k = true
theorem Giving.only0 {w0 w w' : World} {sb wb hb wd : Nat} {Sn Sf Sn' Sf' : List Nat} {base : Int} {l n f : List It} (h : Giving w0 w sb wb hb Sn Sf wd base l Sn' Sf' n f) (ho : Only [] w w') : Giving w0 w' sb wb hb Sn Sf wd base l Sn' Sf' n f :=
  ⟨h.holds.only0 ho, h.moved.still ho, h.all, h.near⟩

set_option maxRecDepth 100000 in
set_option maxHeartbeats 4000000 in
theorem sGive (w : World) (sb wb hb : Nat) (Sn Sf : List Nat) (wd : Nat) (base : Int) (n f : List It) (h : Holds w sb wb hb Sn Sf wd base n f) (hs : Sits base (n ++ f)) (hn : ∀ x ∈ n, inR wd base x.k = true) :
    Calls Tryd.prog 53 #[.pointer (some ⟨sb, 0, none⟩), wayOf 32 wb] w fun e w' => e = .returned (.tuple #[]) ∧
      ∃ Sn' Sf', Holds w' sb wb hb Sn' Sf' wd base (nears wd base (n ++ f)) (fars wd base (n ++ f)) ∧ Moved w (sown sb Sn Sf) w' (sown sb Sn' Sf') := by
  obtain ⟨l, el⟩ : ∃ l, n ++ f = l := ⟨_, rfl⟩
  rw [el] at hs ⊢
  have G0 : Hid (Giving w w sb wb hb Sn Sf wd base l Sn Sf n f) := ⟨h, Moved.refl _ _, el, hn⟩
  have HS := Lib.hid hs
  have c1 := h.c1
  have hm := hMin w hb Sf f h.hp
  clear h hs hn el
  go_enter Tryd.func53, Tryd.ntmps53
  go_wp2_with fail
  refine hm.mono ?_
  rintro e w2 ⟨rfl, o2⟩
  have bX : Hid (Box (w2.alloc (.cells #[.int .u64 (first f).k, .int .i64 (first f).i] 35)) w2.heap.size (first f)) := Box.new w2 (first f)
  have G2 := Lib.hid (G0.out.only0 (o2.alloc (.cells #[.int .u64 (first f).k, .int .i64 (first f).i] 35)))
  have hN2 : w2.heap.size ∉ sown sb Sn Sf := fun hc => by have := G0.out.holds.lt _ hc; have := o2.size; omega
  have hS2 : w.heap.size ≤ w2.heap.size := o2.size
  unfold It.val
  clear G0 o2 hm c1
  go_wp2_with fail
  go_loopg [4, 5] (f.length + 1) (fun gk sx so wr => ∃ (B : Nat) (Sn' Sf' : List Nat) (n' f' : List It), sx = .pointer (some ⟨B, 0, none⟩) ∧ so = .bool (!f'.isEmpty) ∧ f'.length + 1 ≤ gk ∧ Hid (Box wr B (first f')) ∧ Hid (B ∉ sown sb Sn' Sf') ∧ w.heap.size ≤ B ∧ Hid (Giving w wr sb wb hb Sn Sf wd base l Sn' Sf' n' f'))
  case atStart => exact ⟨w2.heap.size, Sn, Sf, n, f, rfl, rfl, Nat.le_refl _, bX, hN2, hS2, G2⟩
  case round =>
    obtain ⟨B, Sn', Sf', n', f', rfl, rfl, hg, hB, hBS, hBw, hG⟩ := hrel
    clear bX G2 hN2 hS2
    cases f' with
    | nil =>
      have e1 := hG.out.all
      rw [List.append_nil] at e1
      simp only [List.isEmpty_nil, Bool.not_true]
      go_wp2_with fail
      go_end0
      refine ⟨rfl, Sn', Sf', ?_, hG.out.moved⟩
      have := parts_of (f := []) hG.out.near (by simp)
      rw [List.append_nil, e1] at this
      rw [this.1, this.2, ← e1]
      exact hG.out.holds
    | cons x t =>
      have hall := hG.out.all
      have hsit := HS.out
      rw [← hall] at hsit
      have hidn := ids_parts hsit.ids
      have hxok := hsit.fit x (by simp)
      have hbx := hsit.up x (by simp)
      have hlen := hsit.small
      simp only [List.length_append, List.length_cons] at hlen hg
      have hri : Rises (n' ++ [x]) := List.Pairwise.sublist ((List.Sublist.refl n').append (by simp)) hsit.rises
      have hnh : hasId x.i n' = false := (hasId_not _ _).2 hidn
      have hpu := wPush wr wb Sn' wd base n' hG.out.holds.wh x hxok (by omega)
      rw [hnh] at hpu
      simp only [Bool.not_false, Bool.true_and] at hpu
      have x0 := hB.out.c0
      have x1 := hB.out.c1
      have ef : first (x :: t) = x := rfl
      rw [ef] at x0 x1 hB
      have hBn : B ∉ Sn' := fun hc => hBS.out (mem_sown.2 (.inr (.inl hc)))
      simp only [List.isEmpty_cons, Bool.not_false]
      have HX := Lib.hid (And.intro hall (And.intro hsit (And.intro hidn (And.intro hbx hri))))
      clear hall hsit hidn hbx hri hxok hnh
      rcases hr : inR wd base x.k with _ | _
      · rw [hr] at hpu
        simp only [Bool.false_eq_true, if_false] at hpu
        go_wp2_with fail
        refine hpu.mono ?_
        rintro e w3 ⟨rfl, S3, q1, q2⟩
        have R3 := Lib.hid (hG.out.holds.wheel q1 q2)
        clear q1 q2 hpu
        go_wp2_with fail
        go_end0
        obtain ⟨hall, hsit, hidn, hbx, hri⟩ := HX.out
        have hf : ∀ y ∈ x :: t, inR wd base y.k = false := fun y hy => by
          rcases List.mem_cons.1 hy with rfl | hy
          · exact hr
          · exact far_up hr hbx (rises_up (List.pairwise_append.1 hsit.rises).2.1 y hy)
        have hpo := parts_of hG.out.near hf
        rw [hall] at hpo
        refine ⟨rfl, S3, Sf', ?_, hG.out.moved.trans R3.out.2⟩
        rw [hpo.1, hpo.2]
        exact R3.out.1
      · rw [hr] at hpu
        simp only [if_true] at hpu
        rw [ins_last HX.out.2.2.2.2 HX.out.2.2.1] at hpu
        go_wp2_with fail
        refine hpu.mono ?_
        rintro e w3 ⟨rfl, S3, q1, q2⟩
        obtain ⟨d3, m3⟩ := hG.out.holds.wheel q1 q2
        obtain ⟨b3, n3⟩ := hB.out.moved m3 hBS.out
        have c1 := d3.c1
        have hpo := hPop w3 hb Sf' (x :: t) d3.hp
        have R3 := Lib.hid (And.intro d3 (And.intro m3 (And.intro b3 n3)))
        clear q1 q2 hpu d3 m3 b3 n3 x0 x1
        go_wp2_with fail
        refine hpo.mono ?_
        rintro e w4 ⟨rfl, S4, q1, q2⟩
        rw [List.tail_cons] at q1
        obtain ⟨d3, m3, b3, n3⟩ := R3.out
        obtain ⟨d4, m4⟩ := d3.heap q1 q2
        obtain ⟨b4, n4⟩ := b3.moved m4 n3
        have x0 := b4.c0
        have x1 := b4.c1
        have hlt4 : B < w4.heap.size := b4.lt
        have oN : Only [] w4 (w4.alloc (.cells #[.int .u64 x.k, .int .i64 x.i] 35)) := (Only.refl [] w4).alloc _
        have c1' := (d4.only0 oN).c1
        have hmi := hMin _ hb S4 t (d4.only0 oN).hp
        have bN : Hid (Box (w4.alloc (.cells #[.int .u64 x.k, .int .i64 x.i] 35)) w4.heap.size x) := Box.new w4 x
        have nN : Hid (w4.heap.size ∉ sown sb S3 S4) := fun hc => by have := d4.lt _ hc; omega
        have R4 : Hid (Giving w (w4.alloc (.cells #[.int .u64 x.k, .int .i64 x.i] 35)) sb wb hb Sn Sf wd base l S3 S4 (n' ++ [x]) t) := Giving.only0 ⟨d4, (hG.out.moved.trans m3).trans m4, by rw [List.append_assoc]; exact HX.out.1, fun y hy => by
          rcases List.mem_append.1 hy with h9 | h9
          · exact hG.out.near y h9
          · simp at h9; rw [h9]; exact hr⟩ oN
        have hw4 : w.heap.size ≤ w4.heap.size := by have := hB.out.lt; omega
        unfold It.val at hmi
        clear q1 q2 d3 m3 b3 n3 d4 m4 b4 n4 hpo R3 c1 oN hB hBS hG HX hBn
        go_wp2_with fail
        refine hmi.mono ?_
        rintro e w5 ⟨rfl, o5⟩
        have b5 := bN.out.only o5 (by simp)
        have y0 := b5.c0
        have y1 := b5.c1
        have f0 := b5.fr 0
        have f1 := b5.fr 1
        have G5 := Lib.hid (R4.out.only0 o5)
        have B5 := Lib.hid b5
        obtain ⟨M, eM⟩ : ∃ M, w4.heap.size = M := ⟨_, rfl⟩
        rw [eM] at y0 y1 f0 f1 B5 nN hw4
        (try rw [eM])
        have hlt5 : M < w5.heap.size := B5.out.lt
        clear b5 bN R4 o5 hmi c1' x0 x1
        go_wp2_with (simp only [eM])
        (try simp only [eM])
        go_roundg (t.length + 1)
        case measure => omega
        case rel =>
          have o6 : Only [M] w5 ((w5.setCell ⟨M, 0, none⟩ (.int .u64 (first t).k)).setCell ⟨M, 1, none⟩ (.int .i64 (first t).i)) := ((Only.refl _ _).setCell (by simp) _).setCell (by simp) _
          refine ⟨M, S3, S4, n' ++ [x], t, rfl, rfl, by omega, B5.out.put _ _, nN, hw4, ?_⟩
          exact ⟨G5.out.holds.only o6 (fun b hb e => by simp at e; subst e; exact nN.out hb), ⟨G5.out.moved.1.trans o6 (by simp; exact .inr hw4), G5.out.moved.2⟩, G5.out.all, G5.out.near⟩
end Go.Proofs.YtfgffgicfieieaaDoor
