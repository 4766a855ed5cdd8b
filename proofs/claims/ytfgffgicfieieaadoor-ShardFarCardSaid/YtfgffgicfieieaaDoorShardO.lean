/-
  The shard as a whole, told by the list of its items; contracts of New, Base, Has, Len, Over.
-/
import Derived.Test.YtfgffgicfieieaaDoorShardM
import Derived.Test.YtfgffgicfieieaaDoorWheelG
import Derived.Test.YtfgffgicfieieaaDoorHpQ
namespace Go.Proofs.YtfgffgicfieieaaDoor
set_option maxRecDepth 100000
open Go.RowKit Go.ChangeMaps Go.MapKept
set_option linter.unusedVariables false
set_option linter.unusedSimpArgs false

/-- A shard's parts: the wheel of n, the heap of f. -/
structure Holds (w : World) (sb wb hb : Nat) (Sn Sf : List Nat) (wd : Nat) (base : Int) (n f : List It) : Prop where
  blk : w.heap[sb]? = some (.cells #[.pointer (some ⟨wb, 0, none⟩), .pointer (some ⟨hb, 0, none⟩)] 59 (0, 0))
  wh : WheelOf w wb Sn wd base n
  hp : HeapOf w hb Sf f
  sn : sb ∉ Sn
  sf : sb ∉ Sf
  nf : ∀ b ∈ Sn, b ∉ Sf
/-- The blocks of a shard. -/
def sown (sb : Nat) (Sn Sf : List Nat) : List Nat := sb :: (Sn ++ Sf)
theorem mem_sown {sb b : Nat} {Sn Sf : List Nat} : b ∈ sown sb Sn Sf ↔ b = sb ∨ b ∈ Sn ∨ b ∈ Sf := by simp [sown]
section
variable {w w' : World} {sb wb hb wd : Nat} {Sn Sf Sn' Sf' T : List Nat} {base base' : Int} {n f n' f' : List It}
theorem Holds.c0 (h : Holds w sb wb hb Sn Sf wd base n f) : w.cell? ⟨sb, 0, none⟩ = some (.pointer (some ⟨wb, 0, none⟩)) := by rw [cell_of_row w sb 0 _ _ _ h.blk]; rfl
theorem Holds.c1 (h : Holds w sb wb hb Sn Sf wd base n f) : w.cell? ⟨sb, 1, none⟩ = some (.pointer (some ⟨hb, 0, none⟩)) := by rw [cell_of_row w sb 1 _ _ _ h.blk]; rfl
theorem Holds.lt (h : Holds w sb wb hb Sn Sf wd base n f) : ∀ b ∈ sown sb Sn Sf, b < w.heap.size := fun b hb' => by
  rcases mem_sown.1 hb' with rfl | h1 | h1
  · exact (Array.getElem?_eq_some_iff.1 h.blk).1
  · exact h.wh.lt b h1
  · exact h.hp.lt b h1
theorem Holds.only (h : Holds w sb wb hb Sn Sf wd base n f) (ho : Only T w w') (hT : ∀ b ∈ sown sb Sn Sf, b ∉ T) : Holds w' sb wb hb Sn Sf wd base n f :=
  ⟨ho.get h.blk (hT sb (by simp [sown])), h.wh.only ho fun b hb' => hT b (mem_sown.2 (.inr (.inl hb'))), h.hp.only ho fun b hb' => hT b (mem_sown.2 (.inr (.inr hb'))), h.sn, h.sf, h.nf⟩
theorem Holds.only0 (h : Holds w sb wb hb Sn Sf wd base n f) (ho : Only [] w w') : Holds w' sb wb hb Sn Sf wd base n f := h.only ho (by simp)
/-- The wheel moved. -/
theorem Holds.wheel (h : Holds w sb wb hb Sn Sf wd base n f) (hw : WheelOf w' wb Sn' wd base' n') (hm : Moved w Sn w' Sn') : Holds w' sb wb hb Sn' Sf wd base' n' f ∧ Moved w (sown sb Sn Sf) w' (sown sb Sn' Sf) := by
  have hlt := h.lt
  refine ⟨⟨hm.1.get h.blk h.sn, hw, h.hp.only hm.1 (fun b hb hc => h.nf b hc hb), fun hc => ?_, h.sf, fun b hb hc => ?_⟩, hm.1.mono fun k hk => .inl (mem_sown.2 (.inr (.inl hk))), fun b hb => ?_⟩
  · rcases hm.2 sb hc with h1 | h1
    · exact h.sn h1
    · have := hlt sb (by simp [sown]); omega
  · rcases hm.2 b hb with h1 | h1
    · exact h.nf b h1 hc
    · have := h.hp.lt b hc; omega
  · rcases mem_sown.1 hb with rfl | h1 | h1
    · exact .inl (by simp [sown])
    · rcases hm.2 b h1 with h2 | h2
      · exact .inl (mem_sown.2 (.inr (.inl h2)))
      · exact .inr h2
    · exact .inl (mem_sown.2 (.inr (.inr h1)))
/-- The heap moved. -/
theorem Holds.heap (h : Holds w sb wb hb Sn Sf wd base n f) (hw : HeapOf w' hb Sf' f') (hm : Moved w Sf w' Sf') : Holds w' sb wb hb Sn Sf' wd base n f' ∧ Moved w (sown sb Sn Sf) w' (sown sb Sn Sf') := by
  have hlt := h.lt
  refine ⟨⟨hm.1.get h.blk h.sf, h.wh.only hm.1 h.nf, hw, h.sn, fun hc => ?_, fun b hb hc => ?_⟩, hm.1.mono fun k hk => .inl (mem_sown.2 (.inr (.inr hk))), fun b hb => ?_⟩
  · rcases hm.2 sb hc with h1 | h1
    · exact h.sf h1
    · have := hlt sb (by simp [sown]); omega
  · rcases hm.2 b hc with h1 | h1
    · exact h.nf b hb h1
    · have := h.wh.lt b hb; omega
  · rcases mem_sown.1 hb with rfl | h1 | h1
    · exact .inl (by simp [sown])
    · exact .inl (mem_sown.2 (.inr (.inl h1)))
    · rcases hm.2 b h1 with h2 | h2
      · exact .inl (mem_sown.2 (.inr (.inr h2)))
      · exact .inr h2
end
/-- The shard at sb, of the blocks S, of that width and base, holds the items of l. -/
def ShardOf (w : World) (sb : Nat) (S : List Nat) (wd : Nat) (base : Int) (l : List It) : Prop :=
  ∃ wb hb Sn Sf, S = sown sb Sn Sf ∧ Holds w sb wb hb Sn Sf wd base (nears wd base l) (fars wd base l) ∧ Sits base l
section
variable {w w' : World} {sb wd : Nat} {S T : List Nat} {base : Int} {l : List It}
theorem ShardOf.only (h : ShardOf w sb S wd base l) (ho : Only T w w') (hT : ∀ b ∈ S, b ∉ T) : ShardOf w' sb S wd base l := by
  obtain ⟨wb, hb, Sn, Sf, rfl, h1, h2⟩ := h
  exact ⟨wb, hb, Sn, Sf, rfl, h1.only ho hT, h2⟩
theorem ShardOf.only0 (h : ShardOf w sb S wd base l) (ho : Only [] w w') : ShardOf w' sb S wd base l := h.only ho (by simp)
theorem ShardOf.lt (h : ShardOf w sb S wd base l) : ∀ b ∈ S, b < w.heap.size := by
  obtain ⟨wb, hb, Sn, Sf, rfl, h1, h2⟩ := h
  exact h1.lt
theorem ShardOf.sits (h : ShardOf w sb S wd base l) : Sits base l := by
  obtain ⟨wb, hb, Sn, Sf, rfl, h1, h2⟩ := h
  exact h2
theorem ShardOf.wd40 (h : ShardOf w sb S wd base l) : wd ≤ 40 := by
  obtain ⟨wb, hb, Sn, Sf, rfl, h1, h2⟩ := h
  exact h1.wh.wd40
theorem ShardOf.bases (h : ShardOf w sb S wd base l) : 0 ≤ base ∧ base ≤ 18446744073709551615 := ⟨h.sits.b0, h.sits.b1⟩
theorem ShardOf.fit (h : ShardOf w sb S wd base l) : ∀ x ∈ l, x.ok := h.sits.fit
end

theorem sNewOf (w : World) (width : Int) : Calls Tryd.prog 24 #[.int .i64 width] w fun e w' => ∃ sb S, e = .returned (.pointer (some ⟨sb, 0, none⟩)) ∧ ShardOf w' sb S (wid width) 0 [] ∧ (∀ b ∈ S, w.heap.size ≤ b) ∧ Only [] w w' := by
  go_enter Tryd.func24, Tryd.ntmps24
  go_wp2_with fail
  refine (wNewOf w width).mono ?_
  rintro e w1 ⟨wb, S1, rfl, h1, f1, o1⟩
  have H1 := Lib.hid (And.intro h1 (And.intro f1 o1))
  clear h1 f1 o1
  go_wp2_with fail
  refine (hNew w1).mono ?_
  rintro e w2 ⟨hb, S2, rfl, h2, f2, o2⟩
  have H2 := Lib.hid (And.intro h2 (And.intro f2 o2))
  clear h2 f2 o2
  go_wp2_with fail
  go_ret
  obtain ⟨h1, f1, o1⟩ := H1.out
  obtain ⟨h2, f2, o2⟩ := H2.out
  have o3 : Only [] w2 (w2.alloc (.cells #[.pointer (some ⟨wb, 0, none⟩), .pointer (some ⟨hb, 0, none⟩)] 59)) := (Only.refl [] w2).alloc _
  have e1 : nears (wid width) 0 [] = [] := rfl
  have e2 : fars (wid width) 0 [] = [] := rfl
  refine ⟨w2.heap.size, sown w2.heap.size S1 S2, rfl, ⟨wb, hb, S1, S2, rfl, ?_, Sits.nil (by omega) (by omega)⟩, fun b hb' => ?_, (o1.trans' o2).trans' o3⟩
  · rw [e1, e2]
    refine ⟨heap_alloc_new w2 _, (h1.only0 o2).only0 o3, h2.only0 o3, fun hc => ?_, fun hc => ?_, fun b hb' hc => ?_⟩
    · have := (h1.only0 o2).lt _ hc; omega
    · have := h2.lt _ hc; omega
    · have h8 := h1.lt b hb'
      have h9 := f2 b hc
      omega
  · rcases mem_sown.1 hb' with rfl | h9 | h9
    · exact Nat.le_trans o1.size o2.size
    · exact f1 b h9
    · exact Nat.le_trans o1.size (f2 b h9)

theorem sBaseOf (w : World) (sb : Nat) (S : List Nat) (wd : Nat) (base : Int) (l : List It) (h : ShardOf w sb S wd base l) : Calls Tryd.prog 31 #[.pointer (some ⟨sb, 0, none⟩)] w fun e w' => e = .returned (.int .u64 base) ∧ w' = w := by
  obtain ⟨wb, hb, Sn, Sf, rfl, h1, h2⟩ := h
  have c0 := h1.c0
  have hb := wBaseOf w wb Sn wd base _ h1.wh
  clear h1 h2
  go_enter Tryd.func31, Tryd.ntmps31
  go_wp2_with fail
  refine hb.mono ?_
  rintro e w' ⟨rfl, rfl⟩
  go_wp2_with fail
  go_ret
  exact ⟨rfl, rfl⟩
theorem sHasOf (w : World) (sb : Nat) (S : List Nat) (wd : Nat) (base : Int) (l : List It) (h : ShardOf w sb S wd base l) (id : Int) (hid : i64ok id) : Calls Tryd.prog 30 #[.pointer (some ⟨sb, 0, none⟩), .int .i64 id] w fun e w' => e = .returned (.bool (hasId id l)) ∧ w' = w := by
  obtain ⟨wb, hb, Sn, Sf, rfl, h1, h2⟩ := h
  have c0 := h1.c0
  have c1 := h1.c1
  have p1 := wHasOf w wb Sn wd base _ h1.wh id hid
  have p2 := hHas w hb Sf _ h1.hp id hid
  rw [← parts_has wd base l id]
  clear h1 h2
  generalize hasId id (fars wd base l) = q2 at *
  generalize hasId id (nears wd base l) = q1 at *
  rcases q1 with _ | _
  all_goals
    go_enter Tryd.func30, Tryd.ntmps30
    go_wp2_with (first | (go_at_call 54; refine p1.mono ?_; rintro e w' ⟨rfl, rfl⟩) | (go_at_call 55; refine p2.mono ?_; rintro e w' ⟨rfl, rfl⟩))
    go_ret
    exact ⟨by simp, rfl⟩
theorem sOver (w : World) (sb : Nat) (S : List Nat) (wd : Nat) (base : Int) (l : List It) (h : ShardOf w sb S wd base l) : Calls Tryd.prog 12 #[.pointer (some ⟨sb, 0, none⟩)] w fun e w' => e = .returned (.int .i64 ((fars wd base l).length : Int)) ∧ w' = w := by
  obtain ⟨wb, hb, Sn, Sf, rfl, h1, h2⟩ := h
  have c1 := h1.c1
  have p2 := hLen w hb Sf _ h1.hp
  clear h1 h2
  generalize (fars wd base l).length = n at *
  go_enter Tryd.func12, Tryd.ntmps12
  go_wp2_with fail
  refine p2.mono ?_
  rintro e w' ⟨rfl, rfl⟩
  go_wp2_with fail
  go_ret
  exact ⟨rfl, rfl⟩
theorem sLenOf (w : World) (sb : Nat) (S : List Nat) (wd : Nat) (base : Int) (l : List It) (h : ShardOf w sb S wd base l) : Calls Tryd.prog 26 #[.pointer (some ⟨sb, 0, none⟩)] w fun e w' => e = .returned (.int .i64 (l.length : Int)) ∧ Only [] w w' := by
  obtain ⟨wb, hb, Sn, Sf, rfl, h1, h2⟩ := h
  have c0 := h1.c0
  have c1 := h1.c1
  have p1 : Hid (∀ k, Calls Tryd.prog 49 #[.pointer (some ⟨wb, 0, none⟩)] (w.drewN k) fun e w' => e = .returned (.int .i64 ((nears wd base l).length : Int)) ∧ w' = w.drewN k) := fun k => wLenOf _ wb Sn wd base _ (h1.wh.only0 ((Only.refl [] w).drewN k))
  have p2 : Hid (∀ k, Calls Tryd.prog 35 #[.pointer (some ⟨hb, 0, none⟩)] (w.drewN k) fun e w' => e = .returned (.int .i64 ((fars wd base l).length : Int)) ∧ w' = w.drewN k) := fun k => hLen _ hb Sf _ (h1.hp.only0 ((Only.refl [] w).drewN k))
  have hl := parts_len wd base l
  have hs := h2.small
  generalize (fars wd base l).length = a at *
  generalize (nears wd base l).length = b at *
  have e9 : (l.length : Int) = (b : Int) + (a : Int) := by omega
  rw [e9]
  clear h1 h2
  go_enter Tryd.func26, Tryd.ntmps26
  go_wp2_with fail
  go_quiet (first | (go_at_call 49; exact Calls.quiet_of_same (p1.out _)) | (go_at_call 35; exact Calls.quiet_of_same (p2.out _)))
  have O5 : Hid (Only [] w (w.drewN nq)) := (Only.refl [] w).drewN nq
  generalize w.drewN nq = w5 at *
  go_wp2_with fail
  go_ret
  exact ⟨rfl, O5.out⟩
end Go.Proofs.YtfgffgicfieieaaDoor
