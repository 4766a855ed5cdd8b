/-
  Contract of the shard's All; of the document's Over.
-/
import Derived.Test.YtajhkdbldbifeaaGreatDoorShardR
import Derived.Test.YtajhkdbldbifeaaGreatDoorHpK
import Derived.Test.YtajhkdbldbifeaaGreatDoorGmC
namespace Go.Proofs.YtajhkdbldbifeaaGreatDoor
set_option maxRecDepth 100000
open Go.RowKit Go.ChangeMaps Go.MapKept
set_option linter.unusedVariables false
set_option linter.unusedSimpArgs false

set_option maxRecDepth 100000 in
set_option maxHeartbeats 2000000 in
theorem sAll (w : World) (sb : Nat) (S : List Nat) (wd : Nat) (base : Int) (l : List It) (h : ShardOf w sb S wd base l) (hT : Tab w) :
    Calls Tryz.prog 48 #[.pointer (some ⟨sb, 0, none⟩)] w fun e w' => ∃ A cap, e = .returned (.slice A l.length cap) ∧ RowIs w' (.slice A l.length cap) l ∧ (∀ k, (Value.slice A l.length cap).ownBlock = some k → w.heap.size ≤ k) ∧ Only [] w w' := by
  obtain ⟨wb, hb, Sn, Sf, rfl, h1, h2⟩ := h
  have c0 := h1.c0
  have c1 := h1.c1
  have hall := h2.all (wd := wd)
  have hlen := parts_len wd base l
  have hsm := h2.small
  have ha1 : Hid (Calls Tryz.prog 70 #[.pointer (some ⟨wb, 0, none⟩)] w.drew fun e w' => ∃ A cap, e = .returned (.slice A (nears wd base l).length cap) ∧ RowIs w' (.slice A (nears wd base l).length cap) (nears wd base l) ∧ (∀ k, (Value.slice A (nears wd base l).length cap).ownBlock = some k → w.heap.size ≤ k) ∧ Only [] w.drew w') :=
    wAll w.drew wb Sn wd base _ (h1.wh.only0 (Only.refl [] w).drew) (hT.only0 (Only.refl [] w).drew) fun W oW => wLenOf W wb Sn wd base _ ((h1.wh.only0 (Only.refl [] w).drew).only0 oW)
  have ha2 : Hid (∀ W, Only [] w W → Calls Tryz.prog 71 #[.pointer (some ⟨hb, 0, none⟩)] W fun e w' => ∃ A cap, e = .returned (.slice A (fars wd base l).length cap) ∧ RowIs w' (.slice A (fars wd base l).length cap) (fars wd base l) ∧ (∀ k, (Value.slice A (fars wd base l).length cap).ownBlock = some k → W.heap.size ≤ k) ∧ Only [] W w') := fun W o => hAll W hb Sf _ (h1.hp.only0 o)
  have HW : Hid (∀ W, Only [] w W → W.cell? ⟨sb, 0, none⟩ = some (.pointer (some ⟨wb, 0, none⟩)) ∧ W.cell? ⟨sb, 1, none⟩ = some (.pointer (some ⟨hb, 0, none⟩))) := fun W o => ⟨(h1.only0 o).c0, (h1.only0 o).c1⟩
  generalize nears wd base l = n at *
  generalize fars wd base l = f at *
  have HL := Lib.hid (And.intro hall hlen)
  clear h1 h2 hT hall
  go_enter Tryz.func48, Tryz.ntmps48
  go_wp2_with fail
  go_region_held3 (fun w' => w'.cell? ⟨sb, 0, none⟩ = some (.pointer (some ⟨wb, 0, none⟩)) ∧ w'.cell? ⟨sb, 1, none⟩ = some (.pointer (some ⟨hb, 0, none⟩)))
    (first | go_keep | (exact k0) | (exact k1) | (exact k2))
    (first
      | (go_at_call 70; refine ha1.out.mono ?_; rintro e u1 ⟨A1, cap1, rfl, r1, v1, o1⟩; have oo1 := (Only.refl [] w).drew.trans' o1; have k0 := HW.out u1 oo1; have R1 := Lib.hid (And.intro r1 (And.intro v1 oo1)); clear r1 v1 o1 oo1)
      | (go_at_call 71; refine (ha2.out _ R1.out.2.2).mono ?_; rintro e u2 ⟨A2, cap2, rfl, r2, v2, o2⟩; have oo2 := R1.out.2.2.trans' o2; have k1 := HW.out u2 oo2; have R2 := Lib.hid (And.intro (R1.out.1.keep (w' := u2) (fun g hg => o2.block g (R1.out.1.lt hg) (by simp))) (And.intro (Src.of_row r2) (And.intro R1.out.2.1 oo2))); clear r2 v2 o2 oo2)
      | (refine step_append_row rfl _ _ rfl _ n rfl (by exact R2.out.1) _ _ _ f rfl rfl (by exact R2.out.2.1) l.length (by exact HL.out.2) (by omega) ?_; intro A3 cap3 u3 hr3 hg3 hl3; have oo3 := R2.out.2.2.2.grown hg3 (fun k hk => .inr (R2.out.2.2.1 k hk)); have k2 := HW.out u3 oo3; have R3 := Lib.hid (And.intro hr3 (And.intro hl3 oo3)); clear hr3 hg3 hl3 oo3))
  all_goals
    go_wp2_with fail
    go_ret
    obtain ⟨hr3, hl3, oo3⟩ := R3.out
    rw [HL.out.1] at hr3
    refine ⟨A3, cap3, rfl, hr3, fun k hk => ?_, oo3⟩
    rcases hl3 with h9 | h9
    · exact R2.out.2.2.1 k (h9.symm.trans hk)
    · rw [hk] at h9
      injection h9 with h9
      have := R2.out.2.2.2.size
      omega

theorem fars_take {wd : Nat} {base : Int} {l : List It} {p : Nat} (hp : p < l.length) : (fars wd base (l.take (p + 1))).length = (fars wd base (l.take p)).length + (if inR wd base (gOf l p).k then 0 else 1) := by
  have et : l.take (p + 1) = l.take p ++ [gOf l p] := by rw [List.take_add_one, gOf_get hp, List.getElem?_eq_getElem hp]; rfl
  rw [et]
  unfold fars
  rw [List.filter_append, List.length_append]
  rcases hin : inR wd base (gOf l p).k with _ | _ <;> simp [hin]
theorem lev_far {wd : Nat} {base k : Int} (h : base ≤ k) : (levM wd base k == 3) = !inR wd base k := by
  unfold inR
  rcases levM_cases wd base k with ⟨_, _⟩ | ⟨_, h | h | h | h⟩
  · omega
  all_goals (rw [h.1]; decide)
end Go.Proofs.YtajhkdbldbifeaaGreatDoor
