/-
  The shard as a whole, told by the list of its items; contracts of New, Base, Has, Len, Over.
  Contracts of the shard's Push, Min, Drop.
  Contracts of the shard's give, advance, Move, Pop.
-/
import Derived.Test.YtajhkdbldbifeaaGreatDoorGmC
import Derived.Test.YtajhkdbldbifeaaGreatDoorGmX
import Derived.Test.YtajhkdbldbifeaaGreatDoorGmH
namespace Go.Proofs.YtajhkdbldbifeaaGreatDoor
set_option maxRecDepth 100000
open Go.RowKit Go.ChangeMaps Go.MapKept
set_option linter.unusedVariables false
set_option linter.unusedSimpArgs false

/-- A shard's parts: the wheel of n, the heap of f. -/
structure Holds (w : World) (sb wb hb : Nat) (Sn Sf : List Nat) (wd : Nat) (base : Int) (n f : List It) : Prop where
  blk : w.heap[sb]? = some (.cells #[.pointer (some ⟨wb, 0, none⟩), .pointer (some ⟨hb, 0, none⟩)] 92 (0, 0))
  wh : WheelOf w wb Sn wd base n
  hp : HeapOf w hb Sf f
  sn : sb ∉ Sn
  sf : sb ∉ Sf
  nf : ∀ b ∈ Sn, b ∉ Sf
/-- The blocks of a shard. -/
def sown (sb : Nat) (Sn Sf : List Nat) : List Nat := sb :: (Sn ++ Sf)
theorem mem_sown {sb b : Nat} {Sn Sf : List Nat} : b ∈ sown sb Sn Sf ↔ b = sb ∨ b ∈ Sn ∨ b ∈ Sf := by simp [sown]
section
variable {w w' : World} {sb wb hb wd : Nat} {Sn Sf Sn' Sf' T : List Nat} {base base' : Int} {n f n' f' : List It}
theorem Holds.c0 (h : Holds w sb wb hb Sn Sf wd base n f) : w.cell? ⟨sb, 0, none⟩ = some (.pointer (some ⟨wb, 0, none⟩)) := by rw [cell_of_row w sb 0 _ _ _ h.blk]; rfl
theorem Holds.c1 (h : Holds w sb wb hb Sn Sf wd base n f) : w.cell? ⟨sb, 1, none⟩ = some (.pointer (some ⟨hb, 0, none⟩)) := by rw [cell_of_row w sb 1 _ _ _ h.blk]; rfl
theorem Holds.lt (h : Holds w sb wb hb Sn Sf wd base n f) : ∀ b ∈ sown sb Sn Sf, b < w.heap.size := fun b hb' => by
  rcases mem_sown.1 hb' with rfl | h1 | h1
  · exact (Array.getElem?_eq_some_iff.1 h.blk).1
  · exact h.wh.lt b h1
  · exact h.hp.lt b h1
theorem Holds.only (h : Holds w sb wb hb Sn Sf wd base n f) (ho : Only T w w') (hT : ∀ b ∈ sown sb Sn Sf, b ∉ T) : Holds w' sb wb hb Sn Sf wd base n f :=
  ⟨ho.get h.blk (hT sb (by simp [sown])), h.wh.only ho fun b hb' => hT b (mem_sown.2 (.inr (.inl hb'))), h.hp.only ho fun b hb' => hT b (mem_sown.2 (.inr (.inr hb'))), h.sn, h.sf, h.nf⟩
theorem Holds.only0 (h : Holds w sb wb hb Sn Sf wd base n f) (ho : Only [] w w') : Holds w' sb wb hb Sn Sf wd base n f := h.only ho (by simp)
/-- The wheel moved. -/
theorem Holds.wheel (h : Holds w sb wb hb Sn Sf wd base n f) (hw : WheelOf w' wb Sn' wd base' n') (hm : Moved w Sn w' Sn') : Holds w' sb wb hb Sn' Sf wd base' n' f ∧ Moved w (sown sb Sn Sf) w' (sown sb Sn' Sf) := by
  have hlt := h.lt
  refine ⟨⟨hm.1.get h.blk h.sn, hw, h.hp.only hm.1 (fun b hb hc => h.nf b hc hb), fun hc => ?_, h.sf, fun b hb hc => ?_⟩, hm.1.mono fun k hk => .inl (mem_sown.2 (.inr (.inl hk))), fun b hb => ?_⟩
  · rcases hm.2 sb hc with h1 | h1
    · exact h.sn h1
    · have := hlt sb (by simp [sown]); omega
  · rcases hm.2 b hb with h1 | h1
    · exact h.nf b h1 hc
    · have := h.hp.lt b hc; omega
  · rcases mem_sown.1 hb with rfl | h1 | h1
    · exact .inl (by simp [sown])
    · rcases hm.2 b h1 with h2 | h2
      · exact .inl (mem_sown.2 (.inr (.inl h2)))
      · exact .inr h2
    · exact .inl (mem_sown.2 (.inr (.inr h1)))
/-- The heap moved. -/
theorem Holds.heap (h : Holds w sb wb hb Sn Sf wd base n f) (hw : HeapOf w' hb Sf' f') (hm : Moved w Sf w' Sf') : Holds w' sb wb hb Sn Sf' wd base n f' ∧ Moved w (sown sb Sn Sf) w' (sown sb Sn Sf') := by
  have hlt := h.lt
  refine ⟨⟨hm.1.get h.blk h.sf, h.wh.only hm.1 h.nf, hw, h.sn, fun hc => ?_, fun b hb hc => ?_⟩, hm.1.mono fun k hk => .inl (mem_sown.2 (.inr (.inr hk))), fun b hb => ?_⟩
  · rcases hm.2 sb hc with h1 | h1
    · exact h.sf h1
    · have := hlt sb (by simp [sown]); omega
  · rcases hm.2 b hc with h1 | h1
    · exact h.nf b hb h1
    · have := h.wh.lt b hb; omega
  · rcases mem_sown.1 hb with rfl | h1 | h1
    · exact .inl (by simp [sown])
    · exact .inl (mem_sown.2 (.inr (.inl h1)))
    · rcases hm.2 b h1 with h2 | h2
      · exact .inl (mem_sown.2 (.inr (.inr h2)))
      · exact .inr h2
end
/-- The shard at sb, of the blocks S, of that width and base, holds the items of l. -/
def ShardOf (w : World) (sb : Nat) (S : List Nat) (wd : Nat) (base : Int) (l : List It) : Prop :=
  ∃ wb hb Sn Sf, S = sown sb Sn Sf ∧ Holds w sb wb hb Sn Sf wd base (nears wd base l) (fars wd base l) ∧ Sits base l
section
variable {w w' : World} {sb wd : Nat} {S T : List Nat} {base : Int} {l : List It}
theorem ShardOf.only (h : ShardOf w sb S wd base l) (ho : Only T w w') (hT : ∀ b ∈ S, b ∉ T) : ShardOf w' sb S wd base l := by
  obtain ⟨wb, hb, Sn, Sf, rfl, h1, h2⟩ := h
  exact ⟨wb, hb, Sn, Sf, rfl, h1.only ho hT, h2⟩
theorem ShardOf.only0 (h : ShardOf w sb S wd base l) (ho : Only [] w w') : ShardOf w' sb S wd base l := h.only ho (by simp)
theorem ShardOf.lt (h : ShardOf w sb S wd base l) : ∀ b ∈ S, b < w.heap.size := by
  obtain ⟨wb, hb, Sn, Sf, rfl, h1, h2⟩ := h
  exact h1.lt
theorem ShardOf.sits (h : ShardOf w sb S wd base l) : Sits base l := by
  obtain ⟨wb, hb, Sn, Sf, rfl, h1, h2⟩ := h
  exact h2
theorem ShardOf.wd40 (h : ShardOf w sb S wd base l) : wd ≤ 40 := by
  obtain ⟨wb, hb, Sn, Sf, rfl, h1, h2⟩ := h
  exact h1.wh.wd40
theorem ShardOf.bases (h : ShardOf w sb S wd base l) : 0 ≤ base ∧ base ≤ 18446744073709551615 := ⟨h.sits.b0, h.sits.b1⟩
theorem ShardOf.fit (h : ShardOf w sb S wd base l) : ∀ x ∈ l, x.ok := h.sits.fit
end

theorem sNewOf (w : World) (width : Int) : Calls Tryz.prog 59 #[.int .i64 width] w fun e w' => ∃ sb S, e = .returned (.pointer (some ⟨sb, 0, none⟩)) ∧ ShardOf w' sb S (wid width) 0 [] ∧ (∀ b ∈ S, w.heap.size ≤ b) ∧ Only [] w w' := by
  go_enter Tryz.func59, Tryz.ntmps59
  go_wp2_with fail
  refine (wNewOf w width).mono ?_
  rintro e w1 ⟨wb, S1, rfl, h1, f1, o1⟩
  have H1 := Lib.hid (And.intro h1 (And.intro f1 o1))
  clear h1 f1 o1
  go_wp2_with fail
  refine (hNew w1).mono ?_
  rintro e w2 ⟨hb, S2, rfl, h2, f2, o2⟩
  have H2 := Lib.hid (And.intro h2 (And.intro f2 o2))
  clear h2 f2 o2
  go_wp2_with fail
  go_ret
  obtain ⟨h1, f1, o1⟩ := H1.out
  obtain ⟨h2, f2, o2⟩ := H2.out
  have o3 : Only [] w2 (w2.alloc (.cells #[.pointer (some ⟨wb, 0, none⟩), .pointer (some ⟨hb, 0, none⟩)] 92)) := (Only.refl [] w2).alloc _
  have e1 : nears (wid width) 0 [] = [] := rfl
  have e2 : fars (wid width) 0 [] = [] := rfl
  refine ⟨w2.heap.size, sown w2.heap.size S1 S2, rfl, ⟨wb, hb, S1, S2, rfl, ?_, Sits.nil (by omega) (by omega)⟩, fun b hb' => ?_, (o1.trans' o2).trans' o3⟩
  · rw [e1, e2]
    refine ⟨heap_alloc_new w2 _, (h1.only0 o2).only0 o3, h2.only0 o3, fun hc => ?_, fun hc => ?_, fun b hb' hc => ?_⟩
    · have := (h1.only0 o2).lt _ hc; omega
    · have := h2.lt _ hc; omega
    · have h8 := h1.lt b hb'
      have h9 := f2 b hc
      omega
  · rcases mem_sown.1 hb' with rfl | h9 | h9
    · exact Nat.le_trans o1.size o2.size
    · exact f1 b h9
    · exact Nat.le_trans o1.size (f2 b h9)

theorem sBaseOf (w : World) (sb : Nat) (S : List Nat) (wd : Nat) (base : Int) (l : List It) (h : ShardOf w sb S wd base l) : Calls Tryz.prog 44 #[.pointer (some ⟨sb, 0, none⟩)] w fun e w' => e = .returned (.int .u64 base) ∧ w' = w := by
  obtain ⟨wb, hb, Sn, Sf, rfl, h1, h2⟩ := h
  have c0 := h1.c0
  have hb := wBaseOf w wb Sn wd base _ h1.wh
  clear h1 h2
  go_enter Tryz.func44, Tryz.ntmps44
  go_wp2_with fail
  refine hb.mono ?_
  rintro e w' ⟨rfl, rfl⟩
  go_wp2_with fail
  go_ret
  exact ⟨rfl, rfl⟩
theorem sHasOf (w : World) (sb : Nat) (S : List Nat) (wd : Nat) (base : Int) (l : List It) (h : ShardOf w sb S wd base l) (id : Int) (hid : i64ok id) : Calls Tryz.prog 65 #[.pointer (some ⟨sb, 0, none⟩), .int .i64 id] w fun e w' => e = .returned (.bool (hasId id l)) ∧ w' = w := by
  obtain ⟨wb, hb, Sn, Sf, rfl, h1, h2⟩ := h
  have c0 := h1.c0
  have c1 := h1.c1
  have p1 := wHasOf w wb Sn wd base _ h1.wh id hid
  have p2 := hHas w hb Sf _ h1.hp id hid
  rw [← parts_has wd base l id]
  clear h1 h2
  generalize hasId id (fars wd base l) = q2 at *
  generalize hasId id (nears wd base l) = q1 at *
  rcases q1 with _ | _
  all_goals
    go_enter Tryz.func65, Tryz.ntmps65
    go_wp2_with (first | (go_at_call 85; refine p1.mono ?_; rintro e w' ⟨rfl, rfl⟩) | (go_at_call 86; refine p2.mono ?_; rintro e w' ⟨rfl, rfl⟩))
    go_ret
    exact ⟨by simp, rfl⟩
theorem sLenOf (w : World) (sb : Nat) (S : List Nat) (wd : Nat) (base : Int) (l : List It) (h : ShardOf w sb S wd base l) : Calls Tryz.prog 41 #[.pointer (some ⟨sb, 0, none⟩)] w fun e w' => e = .returned (.int .i64 (l.length : Int)) ∧ Only [] w w' := by
  obtain ⟨wb, hb, Sn, Sf, rfl, h1, h2⟩ := h
  have c0 := h1.c0
  have c1 := h1.c1
  have p1 : Hid (∀ k, Calls Tryz.prog 66 #[.pointer (some ⟨wb, 0, none⟩)] (w.drewN k) fun e w' => e = .returned (.int .i64 ((nears wd base l).length : Int)) ∧ w' = w.drewN k) := fun k => wLenOf _ wb Sn wd base _ (h1.wh.only0 ((Only.refl [] w).drewN k))
  have p2 : Hid (∀ k, Calls Tryz.prog 67 #[.pointer (some ⟨hb, 0, none⟩)] (w.drewN k) fun e w' => e = .returned (.int .i64 ((fars wd base l).length : Int)) ∧ w' = w.drewN k) := fun k => hLen _ hb Sf _ (h1.hp.only0 ((Only.refl [] w).drewN k))
  have hl := parts_len wd base l
  have hs := h2.small
  generalize (fars wd base l).length = a at *
  generalize (nears wd base l).length = b at *
  have e9 : (l.length : Int) = (b : Int) + (a : Int) := by omega
  rw [e9]
  clear h1 h2
  go_enter Tryz.func41, Tryz.ntmps41
  go_wp2_with fail
  go_quiet (first | (go_at_call 66; exact Calls.quiet_of_same (p1.out _)) | (go_at_call 67; exact Calls.quiet_of_same (p2.out _)))
  have O5 : Hid (Only [] w (w.drewN nq)) := (Only.refl [] w).drewN nq
  generalize w.drewN nq = w5 at *
  go_wp2_with fail
  go_ret
  exact ⟨rfl, O5.out⟩
end Go.Proofs.YtajhkdbldbifeaaGreatDoor

namespace Go.Proofs.YtajhkdbldbifeaaGreatDoor
set_option maxRecDepth 100000
open Go.RowKit Go.ChangeMaps Go.MapKept
set_option linter.unusedVariables false
set_option linter.unusedSimpArgs false

theorem parts_push {wd : Nat} {base : Int} {l : List It} {x : It} (hr : Rises l) (hno : ∀ y ∈ l, y.i ≠ x.i) :
    (inR wd base x.k = true → nears wd base (ins x l) = ins x (nears wd base l) ∧ fars wd base (ins x l) = fars wd base l) ∧ (inR wd base x.k = false → nears wd base (ins x l) = nears wd base l ∧ fars wd base (ins x l) = ins x (fars wd base l)) := by
  unfold nears fars
  rw [filter_ins hr hno, filter_ins hr hno]
  constructor
  · intro h; rw [h]; simp
  · intro h; rw [h]; simp
set_option maxRecDepth 100000 in
set_option maxHeartbeats 2000000 in
theorem sPush (w : World) (sb : Nat) (S : List Nat) (wd : Nat) (base : Int) (l : List It) (h : ShardOf w sb S wd base l) (x : It) (hx : x.ok) (hroom : l.length < 200000) :
    Calls Tryz.prog 53 #[.pointer (some ⟨sb, 0, none⟩), .agg #[.int .u64 x.k, .int .i64 x.i]] w fun e w' => e = .returned (.bool (!hasId x.i l && decide (base ≤ x.k))) ∧ ∃ S', ShardOf w' sb S' wd base (if (!hasId x.i l && decide (base ≤ x.k)) then ins x l else l) ∧ Moved w S w' S' := by
  have oA : Only [] w (w.alloc (.cells #[.int .u64 x.k, .int .i64 x.i] 40)) := (Only.refl [] w).alloc _
  have bX : Box _ w.heap.size x := Box.new w x
  have hhas : Hid (∀ W, Only [] w W → Calls Tryz.prog 65 #[.pointer (some ⟨sb, 0, none⟩), .int .i64 x.i] W fun e w' => e = .returned (.bool (hasId x.i l)) ∧ w' = W) := fun W o => sHasOf W sb S wd base l (h.only0 o) x.i hx.2
  have hbas : Hid (∀ W, Only [] w W → Calls Tryz.prog 44 #[.pointer (some ⟨sb, 0, none⟩)] W fun e w' => e = .returned (.int .u64 base) ∧ w' = W) := fun W o => sBaseOf W sb S wd base l (h.only0 o)
  have hNS : w.heap.size ∉ S := fun hc => by have := h.lt _ hc; omega
  have H := Lib.hid h
  obtain ⟨wb, hb, Sn, Sf, eS, h1, h2⟩ := h
  have x0 := bX.c0
  have x1 := bX.c1
  have HB := Lib.hid bX
  have OA := Lib.hid oA
  have H1 := Lib.hid (And.intro eS (And.intro h1 h2))
  obtain ⟨V, eV⟩ : ∃ V, w.alloc (.cells #[.int .u64 x.k, .int .i64 x.i] 40) = V := ⟨_, rfl⟩
  rw [eV] at x0 x1 HB OA
  clear bX h1 h2 oA
  obtain ⟨N, eN⟩ : ∃ N, w.heap.size = N := ⟨_, rfl⟩
  rw [eN] at x0 x1 HB hNS
  rcases hi : hasId x.i l with _ | _
  · rw [hi] at hhas
    by_cases hk : base ≤ x.k
    · have hk' : ¬ x.k < base := by omega
      rw [decide_eq_true hk]
      simp only [Bool.not_false, Bool.true_and, if_true]
      go_enter Tryz.func53, Tryz.ntmps53
      go_wp2_with (simp only [eV, eN])
      go_quiet (first | (go_at_call 65; exact Calls.quiet_of_same (hhas.out _ (OA.out.drewN _))) | (go_at_call 44; exact Calls.quiet_of_same (hbas.out _ (OA.out.drewN _))))
      have O5 : Hid (Only [] V (V.drewN nq)) := (Only.refl [] V).drewN nq
      have y0 : (V.drewN nq).cell? ⟨N, 0, none⟩ = some (.int .u64 x.k) := x0
      have y1 : (V.drewN nq).cell? ⟨N, 1, none⟩ = some (.int .i64 x.i) := x1
      generalize V.drewN nq = W at *
      clear x0 x1 eV hhas hbas
      obtain ⟨eS, h1, h2⟩ := H1.out
      have oW := OA.out.trans' O5.out
      have bW : Hid (Box W N x) := HB.out.only O5.out (by simp)
      have c0 := (h1.only0 oW).c0
      have c1 := (h1.only0 oW).c1
      have hno := (hasId_not _ _).1 hi
      have hni : hasId x.i (nears wd base l) = false := (hasId_not _ _).2 fun y hy => hno y (mem_nears.1 hy).1
      have hfi : hasId x.i (fars wd base l) = false := (hasId_not _ _).2 fun y hy => hno y (mem_fars.1 hy).1
      have hpl := parts_len wd base l
      have hD : Hid (Holds W.drew sb wb hb Sn Sf wd base (nears wd base l) (fars wd base l)) := h1.only0 oW.drew
      have OD : Hid (Only [] w W.drew) := oW.drew
      have hSi : Hid (Sits base (ins x l)) := h2.ins hx hk hno (by omega)
      have hpp : Hid _ := parts_push (wd := wd) (base := base) h2.rises hno
      have hNn : N ∉ Sn := fun hc => hNS (by rw [eS]; exact mem_sown.2 (.inr (.inl hc)))
      have hNf : N ∉ Sf := fun hc => hNS (by rw [eS]; exact mem_sown.2 (.inr (.inr hc)))
      have hp1 := wPush W.drew wb Sn wd base _ hD.out.wh x hx (by omega)
      have hp2 : Hid (∀ W', HeapOf W' hb Sf (fars wd base l) → Calls Tryz.prog 75 #[.pointer (some ⟨hb, 0, none⟩), .agg #[.int .u64 x.k, .int .i64 x.i]] W' fun e w' => e = .returned (.bool true) ∧ ∃ S', HeapOf w' hb S' (ins x (fars wd base l)) ∧ Moved W' Sf w' S') := fun W' hW' => by
        have := hPush W' hb Sf _ hW' x hx (by omega)
        rw [hfi] at this
        exact this
      rw [hni] at hp1
      simp only [Bool.not_false, Bool.true_and] at hp1
      have HN := Lib.hid eN
      clear h1 h2 oW hni hfi hpl hno hi OA O5 HB eN H1 H
      rcases hr : inR wd base x.k with _ | _
      · rw [hr] at hp1
        simp only [Bool.false_eq_true, if_false] at hp1
        have HP1 := Lib.hid hp1
        clear hp1
        go_wp2_with fail
        go_region_held3 (fun w' => w'.cell? ⟨sb, 0, none⟩ = some (.pointer (some ⟨wb, 0, none⟩)) ∧ w'.cell? ⟨sb, 1, none⟩ = some (.pointer (some ⟨hb, 0, none⟩)) ∧ w'.cell? ⟨N, 0, none⟩ = some (.int .u64 x.k) ∧ w'.cell? ⟨N, 1, none⟩ = some (.int .i64 x.i))
          (first | go_keep | (exact ⟨k0, k1, k2, k3⟩) | (exact ⟨m0, m1, m2, m3⟩))
          (first
            | (go_at_call 74; refine HP1.out.mono ?_; rintro e u1 ⟨rfl, S1, q1, q2⟩; have d1 := hD.out.wheel q1 q2; have b3 := (bW.out.only (Only.refl [] W).drew (by simp)).moved q2 hNn; have k0 := d1.1.c0; have k1 := d1.1.c1; have k2 := b3.1.c0; have k3 := b3.1.c1; have Q1 := Lib.hid (And.intro d1 b3.1); clear q1 q2 d1 b3)
            | (go_at_call 75; refine (hp2.out _ Q1.out.1.1.hp).mono ?_; rintro e u2 ⟨rfl, S2, q1, q2⟩; have d2 := Q1.out.1.1.heap q1 q2; have b4 := Q1.out.2.moved q2 hNf; have m0 := d2.1.c0; have m1 := d2.1.c1; have m2 := b4.1.c0; have m3 := b4.1.c1; have Q2 := Lib.hid d2; clear q1 q2 d2 b4))
        all_goals
          go_wp2_with fail
          go_ret
          obtain ⟨a1, a2⟩ := Q2.out
          refine ⟨rfl, sown sb S1 S2, ⟨wb, hb, S1, S2, rfl, ?_, hSi.out⟩, ?_⟩
          · rw [(hpp.out.2 hr).1, (hpp.out.2 hr).2]; exact a1
          · first | exact ((Moved.of_only (S := sown sb Sn Sf) OD.out).trans Q1.out.1.2).trans a2 | (rw [eS]; exact ((Moved.of_only (S := sown sb Sn Sf) OD.out).trans Q1.out.1.2).trans a2)
      · rw [hr] at hp1
        simp only [if_true] at hp1
        have HP1 := Lib.hid hp1
        clear hp1
        go_wp2_with fail
        first
          | go_region_with (first
                | (go_at_call 74; refine HP1.out.mono ?_; rintro e u1 ⟨rfl, S1, q1, q2⟩; have d1 := hD.out.wheel q1 q2; have b3 := (bW.out.only (Only.refl [] W).drew (by simp)).moved q2 hNn; have k0 := d1.1.c0; have k1 := d1.1.c1; have k2 := b3.1.c0; have k3 := b3.1.c1; have Q1 := Lib.hid d1; clear q1 q2 d1 b3))
          | fail
        all_goals
          go_wp2_with fail
          go_ret
          obtain ⟨a1, a2⟩ := Q1.out
          refine ⟨rfl, sown sb S1 Sf, ⟨wb, hb, S1, Sf, rfl, ?_, hSi.out⟩, ?_⟩
          · rw [(hpp.out.1 hr).1, (hpp.out.1 hr).2]; exact a1
          · first | exact (Moved.of_only (S := sown sb Sn Sf) OD.out).trans a2 | (rw [eS]; exact (Moved.of_only (S := sown sb Sn Sf) OD.out).trans a2)
    · have hk' : x.k < base := by omega
      rw [decide_eq_false hk]
      simp only [Bool.and_false, Bool.false_eq_true, if_false]
      clear hk
      go_enter Tryz.func53, Tryz.ntmps53
      go_wp2_with (simp only [eV, eN])
      go_quiet (first | (go_at_call 65; exact Calls.quiet_of_same (hhas.out _ (OA.out.drewN _))) | (go_at_call 44; exact Calls.quiet_of_same (hbas.out _ (OA.out.drewN _))))
      have O5 : Hid (Only [] w (V.drewN nq)) := OA.out.drewN nq
      generalize V.drewN nq = W at *
      go_wp2_with fail
      go_ret
      exact ⟨rfl, S, H.out.only0 O5.out, Moved.of_only O5.out⟩
  · rw [hi] at hhas
    simp only [Bool.not_true, Bool.false_and, Bool.false_eq_true, if_false]
    go_enter Tryz.func53, Tryz.ntmps53
    go_wp2_with (simp only [eV, eN])
    go_quiet (first | (go_at_call 65; exact Calls.quiet_of_same (hhas.out _ (OA.out.drewN _))) | (go_at_call 44; exact Calls.quiet_of_same (hbas.out _ (OA.out.drewN _))))
    have O5 : Hid (Only [] w (V.drewN nq)) := OA.out.drewN nq
    generalize V.drewN nq = W at *
    go_wp2_with fail
    go_ret
    exact ⟨rfl, S, H.out.only0 O5.out, Moved.of_only O5.out⟩

set_option maxRecDepth 100000 in
set_option maxHeartbeats 2000000 in
theorem sMin (w : World) (sb : Nat) (S : List Nat) (wd : Nat) (base : Int) (l : List It) (h : ShardOf w sb S wd base l) (hT : Tab w) :
    Calls Tryz.prog 76 #[.pointer (some ⟨sb, 0, none⟩)] w fun e w' => e = .returned (.tuple #[.agg #[.int .u64 (first l).k, .int .i64 (first l).i], .bool (!l.isEmpty)]) ∧ Only [] w w' := by
  obtain ⟨wb, hb, Sn, Sf, eS, h1, h2⟩ := h
  have oA : Only [] w (w.alloc (.cells #[.int .u64 0, .int .i64 0] 40)) := (Only.refl [] w).alloc _
  have bR : Box _ w.heap.size ⟨0, 0⟩ := Box.new w ⟨0, 0⟩
  have hall := h2.all (wd := wd)
  clear eS h2
  generalize nears wd base l = n at *
  generalize fars wd base l = f at *
  obtain ⟨V, eV⟩ : ∃ V, w.alloc (.cells #[.int .u64 0, .int .i64 0] 40) = V := ⟨_, rfl⟩
  rw [eV] at oA bR
  have hV := h1.only0 oA
  have c0 := hV.c0
  have hm1 := wMin V wb Sn wd base n hV.wh (hT.only0 oA)
  have H1 := Lib.hid hV
  have HO := Lib.hid (And.intro oA bR)
  clear h1 hV oA bR hT
  cases n with
  | nil =>
    rw [List.nil_append] at hall
    subst hall
    have e3 : first [] = ⟨0, 0⟩ := rfl
    rw [e3] at hm1
    simp only [List.isEmpty_nil, Bool.not_true] at hm1
    obtain ⟨y, ey⟩ : ∃ y, first f = y := ⟨_, rfl⟩
    obtain ⟨b, eb⟩ : ∃ b, (!f.isEmpty) = b := ⟨_, rfl⟩
    have hm2 : Hid (∀ W, HeapOf W hb Sf f → Calls Tryz.prog 98 #[.pointer (some ⟨hb, 0, none⟩)] W fun e w' => e = .returned (.tuple #[.agg #[.int .u64 y.k, .int .i64 y.i], .bool b]) ∧ Only [] W w') := fun W hW => by
      have := hMin W hb Sf f hW
      rw [ey, eb] at this
      exact this
    rw [ey, eb]
    clear e3 ey eb
    go_enter Tryz.func76, Tryz.ntmps76
    go_wp2_with (simp only [eV])
    refine hm1.mono ?_
    rintro e w2 ⟨rfl, o2⟩
    have h2 := H1.out.only0 (o2.alloc (.cells #[.int .u64 0, .int .i64 0] 40))
    have c1 := h2.c1
    have hm3 := hm2.out _ h2.hp
    have O2 := Lib.hid (HO.out.1.trans' (o2.alloc (.cells #[.int .u64 0, .int .i64 0] 40)))
    have b2 := Lib.hid (HO.out.2.only (o2.alloc (.cells #[.int .u64 0, .int .i64 0] 40)) (by simp))
    clear h2 hm2 hm1 o2 eV c0
    go_wp2_with fail
    refine hm3.mono ?_
    rintro e w4 ⟨rfl, o4⟩
    have b4 := b2.out.only o4 (by simp)
    have y0 := b4.c0
    have y1 := b4.c1
    have f0 := b4.fr 0
    have f1 := b4.fr 1
    have hlt : w.heap.size < w4.heap.size := b4.lt
    have O4 := Lib.hid (O2.out.trans' o4)
    clear b4 b2 hm3 o4 c1 O2
    obtain ⟨N, eN⟩ : ∃ N, w.heap.size = N := ⟨_, rfl⟩
    rw [eN] at y0 y1 f0 f1 hlt ⊢
    go_wp2_with fail
    (try simp only [Exit.inBlock, Exit.then])
    refine bodyPost_ret (v := .tuple #[.agg #[.int .u64 y.k, .int .i64 y.i], .bool b]) ?_ rfl ?_
    · rw [results_cell_tmp rfl]; go_simp
    · exact ⟨rfl, (O4.out.setCell (.inr (by rw [eN]; exact Nat.le_refl _)) _).setCell (.inr (by rw [eN]; exact Nat.le_refl _)) _⟩
  | cons x t =>
    have e1 : first l = x := by rw [← hall]; rfl
    have e2 : l.isEmpty = false := by rw [← hall]; rfl
    rw [e1, e2]
    have e3 : first (x :: t) = x := rfl
    rw [e3] at hm1
    simp only [List.isEmpty_cons, Bool.not_false] at hm1 ⊢
    clear e1 e2 e3 hall
    go_enter Tryz.func76, Tryz.ntmps76
    go_wp2_with (simp only [eV])
    refine hm1.mono ?_
    rintro e w2 ⟨rfl, o2⟩
    have O2 := Lib.hid (HO.out.1.trans' o2)
    have b2 := HO.out.2.only o2 (by simp)
    have y0 := b2.c0
    have y1 := b2.c1
    have f0 := b2.fr 0
    have f1 := b2.fr 1
    have hlt : w.heap.size < w2.heap.size := b2.lt
    clear b2 hm1 o2 eV c0
    obtain ⟨N, eN⟩ : ∃ N, w.heap.size = N := ⟨_, rfl⟩
    rw [eN] at y0 y1 f0 f1 hlt ⊢
    go_wp2_with fail
    (try simp only [Exit.inBlock, Exit.then])
    refine bodyPost_ret (v := .tuple #[.agg #[.int .u64 x.k, .int .i64 x.i], .bool true]) ?_ rfl ?_
    · rw [results_cell_tmp rfl]; go_simp
    · exact ⟨rfl, ((O2.out.setCell (.inr (by rw [eN]; exact Nat.le_refl _)) _).setCell (.inr (by rw [eN]; exact Nat.le_refl _)) _).alloc _⟩

set_option maxRecDepth 100000 in
set_option maxHeartbeats 2000000 in
theorem sDrop (w : World) (sb : Nat) (S : List Nat) (wd : Nat) (base : Int) (l : List It) (h : ShardOf w sb S wd base l) (id : Int) (hid : i64ok id) :
    Calls Tryz.prog 58 #[.pointer (some ⟨sb, 0, none⟩), .int .i64 id] w fun e w' => e = .returned (.tuple #[((findId id l).getD ⟨0, 0⟩).val, .bool (findId id l).isSome]) ∧ ∃ S', ShardOf w' sb S' wd base (dropId id l) ∧ Moved w S w' S' := by
  obtain ⟨wb, hb, Sn, Sf, rfl, h1, h2⟩ := h
  have oA : Only [] w (w.alloc (.cells #[.int .u64 0, .int .i64 0] 40)) := (Only.refl [] w).alloc _
  have bR : Box _ w.heap.size ⟨0, 0⟩ := Box.new w ⟨0, 0⟩
  have en : nears wd base (dropId id l) = dropId id (nears wd base l) := filter_drop h2.ids id
  have ef : fars wd base (dropId id l) = dropId id (fars wd base l) := filter_drop h2.ids id
  have hfind := parts_find (wd := wd) (base := base) h2.ids id
  have hN : w.heap.size ∉ sown sb Sn Sf := fun hc => by have := h1.lt _ hc; omega
  have hsd : Hid (Sits base (dropId id l)) := h2.drop id
  have hfn : findId id (nears wd base l) = none → dropId id (nears wd base l) = nears wd base l := fun e => (dropId_none ((hasId_not _ _).2 fun x hx => by simpa using List.find?_eq_none.1 e x hx)).1
  have hff : Hid (findId id (nears wd base l) ≠ none → dropId id (fars wd base l) = fars wd base l) := fun e => by
    refine (dropId_none ((hasId_not _ _).2 fun x hx hc => ?_)).1
    rcases hy : findId id (nears wd base l) with _ | y
    · exact e hy
    · have hy1 : y ∈ nears wd base l := List.mem_of_find?_eq_some hy
      have hy2 : y.i = id := by simpa using List.find?_some hy
      have hxy := h2.ids.eq (mem_fars.1 hx).1 (mem_nears.1 hy1).1 (by rw [hc, hy2])
      have h9 := (mem_fars.1 hx).2
      rw [hxy, (mem_nears.1 hy1).2] at h9
      cases h9
  have fin : Hid (∀ w' Sn' Sf', Holds w' sb wb hb Sn' Sf' wd base (dropId id (nears wd base l)) (dropId id (fars wd base l)) → ShardOf w' sb (sown sb Sn' Sf') wd base (dropId id l)) := fun w' Sn' Sf' hh => ⟨wb, hb, Sn', Sf', rfl, by rw [en, ef]; exact hh, hsd.out⟩
  rw [hfind]
  clear h2 en ef hfind hsd
  generalize dropId id l = ld at *
  generalize hn0 : nears wd base l = n at *
  generalize hf0 : fars wd base l = f at *
  clear hn0 hf0
  obtain ⟨V, eV⟩ : ∃ V, w.alloc (.cells #[.int .u64 0, .int .i64 0] 40) = V := ⟨_, rfl⟩
  rw [eV] at oA bR
  have hV := h1.only0 oA
  have c0 := hV.c0
  have hd1 := wDrop V wb Sn wd base n hV.wh id hid
  have hd2 : Hid (∀ W, HeapOf W hb Sf f → Calls Tryz.prog 81 #[.pointer (some ⟨hb, 0, none⟩), .int .i64 id] W fun e w' => e = .returned (.tuple #[((findId id f).getD ⟨0, 0⟩).val, .bool (findId id f).isSome]) ∧ ∃ S', HeapOf w' hb S' (dropId id f) ∧ Moved W Sf w' S') := fun W hW => hDrop W hb Sf f hW id hid
  have H1 := Lib.hid hV
  have HO := Lib.hid (And.intro oA bR)
  clear h1 hV oA bR
  unfold It.val at *
  rcases hx : findId id n with _ | x
  · rw [hx, hfn hx] at hd1
    rw [hfn hx] at fin
    simp only [Option.getD_none, Option.isSome_none] at hd1
    simp only [Option.none_or]
    clear hx hfn hff
    obtain ⟨y, ey⟩ : ∃ y, (findId id f).getD ⟨0, 0⟩ = y := ⟨_, rfl⟩
    obtain ⟨b, eb⟩ : ∃ b, (findId id f).isSome = b := ⟨_, rfl⟩
    rw [ey, eb] at hd2 ⊢
    clear ey eb
    go_enter Tryz.func58, Tryz.ntmps58
    go_wp2_with (simp only [eV])
    refine hd1.mono ?_
    rintro e w2 ⟨rfl, S2, q1, q2⟩
    obtain ⟨d1, m1⟩ := H1.out.wheel q1 q2
    have hN1 : w.heap.size ∉ Sn := fun hc => hN (mem_sown.2 (.inr (.inl hc)))
    obtain ⟨b2, n2⟩ := HO.out.2.moved m1 hN
    have D2 := Lib.hid (d1.only0 ((Only.refl [] w2).alloc (.cells #[.int .u64 0, .int .i64 0] 40)))
    have M2 := Lib.hid (((Moved.of_only (S := sown sb Sn Sf) HO.out.1).trans m1).still ((Only.refl [] w2).alloc (.cells #[.int .u64 0, .int .i64 0] 40)))
    have B2 := Lib.hid (b2.only ((Only.refl [] w2).alloc (.cells #[.int .u64 0, .int .i64 0] 40)) (by simp))
    have c1 := D2.out.c1
    have hd3 := hd2.out _ D2.out.hp
    have N2 := Lib.hid n2
    clear q1 q2 d1 m1 b2 n2 hd2 hd1 eV c0 hN hN1
    go_wp2_with fail
    refine hd3.mono ?_
    rintro e w4 ⟨rfl, S4, q1, q2⟩
    obtain ⟨d3, m3⟩ := D2.out.heap q1 q2
    obtain ⟨b4, n4⟩ := B2.out.moved m3 N2.out
    have y0 := b4.c0
    have y1 := b4.c1
    have f0 := b4.fr 0
    have f1 := b4.fr 1
    have hlt : w.heap.size < w4.heap.size := b4.lt
    have R4 := Lib.hid (And.intro d3 (And.intro (M2.out.trans m3) n4))
    clear q1 q2 d3 m3 b4 n4 hd3 c1 D2 M2 B2 N2
    obtain ⟨N, eN⟩ : ∃ N, w.heap.size = N := ⟨_, rfl⟩
    rw [eN] at y0 y1 f0 f1 hlt R4 ⊢
    go_wp2_with fail
    (try simp only [Exit.inBlock, Exit.then])
    refine bodyPost_ret (v := .tuple #[.agg #[.int .u64 y.k, .int .i64 y.i], .bool b]) ?_ rfl ?_
    · rw [results_cell_tmp rfl]; go_simp
    · obtain ⟨r1, r2, r3⟩ := R4.out
      have o6 : Only [N] w4 ((w4.setCell ⟨N, 0, none⟩ (.int .u64 y.k)).setCell ⟨N, 1, none⟩ (.int .i64 y.i)) := ((Only.refl _ _).setCell (by simp) _).setCell (by simp) _
      exact ⟨rfl, _, (fin.out _ _ _ r1).only o6 (fun b hb e => by simp at e; subst e; exact r3 hb), r2.1.trans o6 (by simp; exact .inr (by omega)), r2.2⟩
  · rw [hx] at hd1
    rw [hff.out (by rw [hx]; simp)] at fin
    simp only [Option.getD_some, Option.isSome_some] at hd1
    simp only [Option.some_or, Option.getD_some, Option.isSome_some]
    clear hx hfn hff hd2
    go_enter Tryz.func58, Tryz.ntmps58
    go_wp2_with (simp only [eV])
    refine hd1.mono ?_
    rintro e w2 ⟨rfl, S2, q1, q2⟩
    obtain ⟨d1, m1⟩ := H1.out.wheel q1 q2
    obtain ⟨b2, n2⟩ := HO.out.2.moved m1 hN
    have y0 := b2.c0
    have y1 := b2.c1
    have f0 := b2.fr 0
    have f1 := b2.fr 1
    have hlt : w.heap.size < w2.heap.size := b2.lt
    have R2 := Lib.hid (And.intro d1 (And.intro ((Moved.of_only (S := sown sb Sn Sf) HO.out.1).trans m1) n2))
    clear q1 q2 d1 m1 b2 n2 hd1 eV c0 hN
    obtain ⟨N, eN⟩ : ∃ N, w.heap.size = N := ⟨_, rfl⟩
    rw [eN] at y0 y1 f0 f1 hlt R2 ⊢
    go_wp2_with fail
    (try simp only [Exit.inBlock, Exit.then])
    refine bodyPost_ret (v := .tuple #[.agg #[.int .u64 x.k, .int .i64 x.i], .bool true]) ?_ rfl ?_
    · rw [results_cell_tmp rfl]; go_simp
    · obtain ⟨r1, r2, r3⟩ := R2.out
      have o6 : Only [N] w2 (((w2.setCell ⟨N, 0, none⟩ (.int .u64 x.k)).setCell ⟨N, 1, none⟩ (.int .i64 x.i)).alloc (.cells #[.int .u64 x.k, .int .i64 x.i] 40)) := (((Only.refl _ _).setCell (by simp) _).setCell (by simp) _).alloc _
      exact ⟨rfl, _, (fin.out _ _ _ r1).only o6 (fun b hb e => by simp at e; subst e; exact r3 hb), r2.1.trans o6 (by simp; exact .inr (by omega)), r2.2⟩
end Go.Proofs.YtajhkdbldbifeaaGreatDoor

namespace Go.Proofs.YtajhkdbldbifeaaGreatDoor
set_option maxRecDepth 100000
open Go.RowKit Go.ChangeMaps Go.MapKept
set_option linter.unusedVariables false
set_option linter.unusedSimpArgs false

theorem Box.put {w : World} {b : Nat} {x : It} (h : Box w b x) (k j : Int) : Box ((w.setCell ⟨b, 0, none⟩ (.int .u64 k)).setCell ⟨b, 1, none⟩ (.int .i64 j)) b ⟨k, j⟩ := by
  unfold Box at h ⊢
  simp [World.setCell, Array.getElem?_modify, h]
theorem far_up {wd : Nat} {base j k : Int} (hj : inR wd base j = false) (hb : base ≤ j) (hk : j ≤ k) : inR wd base k = false := by
  rcases h : inR wd base k with _ | _
  · rfl
  · have h1 := inR_iff.1 h
    have h2 : reach wd base j := ⟨hb, by
      have u1 := uu_le wd hb
      have u2 := uu_le wd hk
      have h3 := h1.2
      generalize uu wd base = B at *
      generalize uu wd j = X at *
      generalize uu wd k = Y at *
      omega⟩
    rw [inR_iff.2 h2] at hj
    cases hj
theorem ins_last {x : It} {n : List It} (hr : Rises (n ++ [x])) (hi : ∀ y ∈ n, y.i ≠ x.i) : ins x n = n ++ [x] :=
  Rises.eq_of_perm (ins_rises (List.pairwise_append.1 hr).1 hi) hr (ins_perm x n)
theorem ids_parts {x : It} {n t : List It} (h : Ids (n ++ x :: t)) : (∀ y ∈ n, y.i ≠ x.i) := by
  unfold Ids at h
  rw [List.map_append, List.map_cons] at h
  intro y hy e
  exact (List.nodup_append.1 h).2.2 y.i (List.mem_map.2 ⟨y, hy, rfl⟩) x.i (by simp) e
/-- What give has got to: n in the wheel, f still in the heap. -/
structure Giving (w0 w : World) (sb wb hb : Nat) (Sn Sf : List Nat) (wd : Nat) (base : Int) (l : List It) (Sn' Sf' : List Nat) (n f : List It) : Prop where
  holds : Holds w sb wb hb Sn' Sf' wd base n f
  moved : Moved w0 (sown sb Sn Sf) w (sown sb Sn' Sf')
  all : n ++ f = l
  near : ∀ x ∈ n, inR wd base x.k = true
theorem Giving.only0 {w0 w w' : World} {sb wb hb wd : Nat} {Sn Sf Sn' Sf' : List Nat} {base : Int} {l n f : List It} (h : Giving w0 w sb wb hb Sn Sf wd base l Sn' Sf' n f) (ho : Only [] w w') : Giving w0 w' sb wb hb Sn Sf wd base l Sn' Sf' n f :=
  ⟨h.holds.only0 ho, h.moved.still ho, h.all, h.near⟩

set_option maxRecDepth 100000 in
set_option maxHeartbeats 4000000 in
theorem sGive (w : World) (sb wb hb : Nat) (Sn Sf : List Nat) (wd : Nat) (base : Int) (n f : List It) (h : Holds w sb wb hb Sn Sf wd base n f) (hs : Sits base (n ++ f)) (hn : ∀ x ∈ n, inR wd base x.k = true) :
    Calls Tryz.prog 103 #[.pointer (some ⟨sb, 0, none⟩), wayOf 74 wb] w fun e w' => e = .returned (.tuple #[]) ∧
      ∃ Sn' Sf', Holds w' sb wb hb Sn' Sf' wd base (nears wd base (n ++ f)) (fars wd base (n ++ f)) ∧ Moved w (sown sb Sn Sf) w' (sown sb Sn' Sf') := by
  obtain ⟨l, el⟩ : ∃ l, n ++ f = l := ⟨_, rfl⟩
  rw [el] at hs ⊢
  have G0 : Hid (Giving w w sb wb hb Sn Sf wd base l Sn Sf n f) := ⟨h, Moved.refl _ _, el, hn⟩
  have HS := Lib.hid hs
  have c1 := h.c1
  have hm := hMin w hb Sf f h.hp
  clear h hs hn el
  go_enter Tryz.func103, Tryz.ntmps103
  go_wp2_with fail
  refine hm.mono ?_
  rintro e w2 ⟨rfl, o2⟩
  have bX : Hid (Box (w2.alloc (.cells #[.int .u64 (first f).k, .int .i64 (first f).i] 40)) w2.heap.size (first f)) := Box.new w2 (first f)
  have G2 := Lib.hid (G0.out.only0 (o2.alloc (.cells #[.int .u64 (first f).k, .int .i64 (first f).i] 40)))
  have hN2 : w2.heap.size ∉ sown sb Sn Sf := fun hc => by have := G0.out.holds.lt _ hc; have := o2.size; omega
  have hS2 : w.heap.size ≤ w2.heap.size := o2.size
  unfold It.val
  clear G0 o2 hm c1
  go_wp2_with fail
  go_loopg [4, 5] (f.length + 1) (fun gk sx so wr => ∃ (B : Nat) (Sn' Sf' : List Nat) (n' f' : List It), sx = .pointer (some ⟨B, 0, none⟩) ∧ so = .bool (!f'.isEmpty) ∧ f'.length + 1 ≤ gk ∧ Hid (Box wr B (first f')) ∧ Hid (B ∉ sown sb Sn' Sf') ∧ w.heap.size ≤ B ∧ Hid (Giving w wr sb wb hb Sn Sf wd base l Sn' Sf' n' f'))
  case atStart => exact ⟨w2.heap.size, Sn, Sf, n, f, rfl, rfl, Nat.le_refl _, bX, hN2, hS2, G2⟩
  case round =>
    obtain ⟨B, Sn', Sf', n', f', rfl, rfl, hg, hB, hBS, hBw, hG⟩ := hrel
    clear bX G2 hN2 hS2
    cases f' with
    | nil =>
      have e1 := hG.out.all
      rw [List.append_nil] at e1
      simp only [List.isEmpty_nil, Bool.not_true]
      go_wp2_with fail
      go_end0
      refine ⟨rfl, Sn', Sf', ?_, hG.out.moved⟩
      have := parts_of (f := []) hG.out.near (by simp)
      rw [List.append_nil, e1] at this
      rw [this.1, this.2, ← e1]
      exact hG.out.holds
    | cons x t =>
      have hall := hG.out.all
      have hsit := HS.out
      rw [← hall] at hsit
      have hidn := ids_parts hsit.ids
      have hxok := hsit.fit x (by simp)
      have hbx := hsit.up x (by simp)
      have hlen := hsit.small
      simp only [List.length_append, List.length_cons] at hlen hg
      have hri : Rises (n' ++ [x]) := List.Pairwise.sublist ((List.Sublist.refl n').append (by simp)) hsit.rises
      have hnh : hasId x.i n' = false := (hasId_not _ _).2 hidn
      have hpu := wPush wr wb Sn' wd base n' hG.out.holds.wh x hxok (by omega)
      rw [hnh] at hpu
      simp only [Bool.not_false, Bool.true_and] at hpu
      have x0 := hB.out.c0
      have x1 := hB.out.c1
      have ef : first (x :: t) = x := rfl
      rw [ef] at x0 x1 hB
      have hBn : B ∉ Sn' := fun hc => hBS.out (mem_sown.2 (.inr (.inl hc)))
      simp only [List.isEmpty_cons, Bool.not_false]
      have HX := Lib.hid (And.intro hall (And.intro hsit (And.intro hidn (And.intro hbx hri))))
      clear hall hsit hidn hbx hri hxok hnh
      rcases hr : inR wd base x.k with _ | _
      · rw [hr] at hpu
        simp only [Bool.false_eq_true, if_false] at hpu
        go_wp2_with fail
        refine hpu.mono ?_
        rintro e w3 ⟨rfl, S3, q1, q2⟩
        have R3 := Lib.hid (hG.out.holds.wheel q1 q2)
        clear q1 q2 hpu
        go_wp2_with fail
        go_end0
        obtain ⟨hall, hsit, hidn, hbx, hri⟩ := HX.out
        have hf : ∀ y ∈ x :: t, inR wd base y.k = false := fun y hy => by
          rcases List.mem_cons.1 hy with rfl | hy
          · exact hr
          · exact far_up hr hbx (rises_up (List.pairwise_append.1 hsit.rises).2.1 y hy)
        have hpo := parts_of hG.out.near hf
        rw [hall] at hpo
        refine ⟨rfl, S3, Sf', ?_, hG.out.moved.trans R3.out.2⟩
        rw [hpo.1, hpo.2]
        exact R3.out.1
      · rw [hr] at hpu
        simp only [if_true] at hpu
        rw [ins_last HX.out.2.2.2.2 HX.out.2.2.1] at hpu
        go_wp2_with fail
        refine hpu.mono ?_
        rintro e w3 ⟨rfl, S3, q1, q2⟩
        obtain ⟨d3, m3⟩ := hG.out.holds.wheel q1 q2
        obtain ⟨b3, n3⟩ := hB.out.moved m3 hBS.out
        have c1 := d3.c1
        have hpo := hPop w3 hb Sf' (x :: t) d3.hp
        have R3 := Lib.hid (And.intro d3 (And.intro m3 (And.intro b3 n3)))
        clear q1 q2 hpu d3 m3 b3 n3 x0 x1
        go_wp2_with fail
        refine hpo.mono ?_
        rintro e w4 ⟨rfl, S4, q1, q2⟩
        rw [List.tail_cons] at q1
        obtain ⟨d3, m3, b3, n3⟩ := R3.out
        obtain ⟨d4, m4⟩ := d3.heap q1 q2
        obtain ⟨b4, n4⟩ := b3.moved m4 n3
        have x0 := b4.c0
        have x1 := b4.c1
        have hlt4 : B < w4.heap.size := b4.lt
        have oN : Only [] w4 (w4.alloc (.cells #[.int .u64 x.k, .int .i64 x.i] 40)) := (Only.refl [] w4).alloc _
        have c1' := (d4.only0 oN).c1
        have hmi := hMin _ hb S4 t (d4.only0 oN).hp
        have bN : Hid (Box (w4.alloc (.cells #[.int .u64 x.k, .int .i64 x.i] 40)) w4.heap.size x) := Box.new w4 x
        have nN : Hid (w4.heap.size ∉ sown sb S3 S4) := fun hc => by have := d4.lt _ hc; omega
        have R4 : Hid (Giving w (w4.alloc (.cells #[.int .u64 x.k, .int .i64 x.i] 40)) sb wb hb Sn Sf wd base l S3 S4 (n' ++ [x]) t) := Giving.only0 ⟨d4, (hG.out.moved.trans m3).trans m4, by rw [List.append_assoc]; exact HX.out.1, fun y hy => by
          rcases List.mem_append.1 hy with h9 | h9
          · exact hG.out.near y h9
          · simp at h9; rw [h9]; exact hr⟩ oN
        have hw4 : w.heap.size ≤ w4.heap.size := by have := hB.out.lt; omega
        unfold It.val at hmi
        clear q1 q2 d3 m3 b3 n3 d4 m4 b4 n4 hpo R3 c1 oN hB hBS hG HX hBn
        go_wp2_with fail
        refine hmi.mono ?_
        rintro e w5 ⟨rfl, o5⟩
        have b5 := bN.out.only o5 (by simp)
        have y0 := b5.c0
        have y1 := b5.c1
        have f0 := b5.fr 0
        have f1 := b5.fr 1
        have G5 := Lib.hid (R4.out.only0 o5)
        have B5 := Lib.hid b5
        obtain ⟨M, eM⟩ : ∃ M, w4.heap.size = M := ⟨_, rfl⟩
        rw [eM] at y0 y1 f0 f1 B5 nN hw4
        (try rw [eM])
        have hlt5 : M < w5.heap.size := B5.out.lt
        clear b5 bN R4 o5 hmi c1' x0 x1
        go_wp2_with (simp only [eM])
        (try simp only [eM])
        go_roundg (t.length + 1)
        case measure => omega
        case rel =>
          have o6 : Only [M] w5 ((w5.setCell ⟨M, 0, none⟩ (.int .u64 (first t).k)).setCell ⟨M, 1, none⟩ (.int .i64 (first t).i)) := ((Only.refl _ _).setCell (by simp) _).setCell (by simp) _
          refine ⟨M, S3, S4, n' ++ [x], t, rfl, rfl, by omega, B5.out.put _ _, nN, hw4, ?_⟩
          exact ⟨G5.out.holds.only o6 (fun b hb e => by simp at e; subst e; exact nN.out hb), ⟨G5.out.moved.1.trans o6 (by simp; exact .inr hw4), G5.out.moved.2⟩, G5.out.all, G5.out.near⟩
end Go.Proofs.YtajhkdbldbifeaaGreatDoor
