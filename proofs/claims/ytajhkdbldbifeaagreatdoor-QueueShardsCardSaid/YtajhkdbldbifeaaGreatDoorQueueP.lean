/-
  Contracts of the queue: home, enter, renew.
-/
import Derived.Test.YtajhkdbldbifeaaGreatDoorQueueO
namespace Go.Proofs.YtajhkdbldbifeaaGreatDoor
set_option maxRecDepth 100000
open Go.RowKit Go.ChangeMaps Go.MapKept
set_option linter.unusedVariables false
set_option linter.unusedSimpArgs false

/-- The shard of an ID. -/
theorem home_at {id : Int} {n : Nat} (h0 : 0 ≤ id) (hn : 1 ≤ n) : ∃ k : Nat, k < n ∧ id % (n : Int) = (k : Int) ∧ id.tmod (n : Int) = (k : Int) := by
  have h1 := Int.emod_nonneg id (by omega : (n : Int) ≠ 0)
  have h2 := Int.emod_lt_of_pos id (by omega : 0 < (n : Int))
  refine ⟨(id % (n : Int)).toNat, by omega, by omega, ?_⟩
  rw [Int.tmod_eq_emod_of_nonneg h0]; omega

theorem qHomeNeg (w : World) (qb : Nat) (id : Int) (h : id < 0) : Calls Tryz.prog 52 #[.pointer (some ⟨qb, 0, none⟩), .int .i64 id] w fun e w' => e = .returned (.tuple #[.int .i64 0, .bool false]) ∧ w' = w := by
  go_enter Tryz.func52, Tryz.ntmps52
  go_wp2
  go_ret2
  exact ⟨rfl, rfl⟩
theorem qHomeIn (w : World) (qb ab n : Nat) (c0 : w.cell? ⟨qb, 0, none⟩ = some (.slice (some ⟨ab, 0, none⟩) n n)) (hn : 1 ≤ n) (h16 : n ≤ 16) (id : Int) (k : Nat) (h0 : 0 ≤ id) (hk : id.tmod (n : Int) = (k : Int)) : Calls Tryz.prog 52 #[.pointer (some ⟨qb, 0, none⟩), .int .i64 id] w fun e w' => e = .returned (.tuple #[.int .i64 (k : Int), .bool true]) ∧ w' = w := by
  have h1 : ¬ id < 0 := by omega
  have h2 : ¬ (n : Int) = 0 := by omega
  have h3 : ¬ n = 0 := by omega
  go_enter Tryz.func52, Tryz.ntmps52
  go_wp2
  go_ret2
  exact ⟨rfl, rfl⟩

set_option maxHeartbeats 1000000 in
/-- enter, of a shard's Min. -/
theorem qEnterS (w : World) (tb ib nb n : Nat) (hs : Nat → Bool) (g : Nat → It) (ht : TourOf w tb ib nb n hs g) (sb : Nat) (S : List Nat) (wd : Nat) (base : Int) (l : List It) (h : ShardOf w sb S wd base l) (hT : Tab w) (i : Nat) (hi : i < n) :
    Calls Tryz.prog 49 #[.pointer (some ⟨tb, 0, none⟩), .int .i64 (i : Int), .func (.func 76) #[.pointer (some ⟨sb, 0, none⟩)] #[]] w fun e w' => e = .returned (.tuple #[]) ∧ TourOf w' tb ib nb n (fup hs i (!l.isEmpty)) (fup g i (first l)) ∧ Only [ib, nb] w w' := by
  have hm := sMin w sb S wd base l h hT
  have hI : (0 : Int) ≤ (i : Int) ∧ (i : Int) < (n : Int) := by omega
  rcases hem : l.isEmpty with _ | _
  · rw [hem] at hm
    simp only [Bool.not_false] at hm ⊢
    generalize first l = x at *
    clear hem h
    have HT := Lib.hid ht
    clear ht hT
    go_enter Tryz.func49, Tryz.ntmps49
    go_wp2_with fail
    refine hm.mono ?_
    rintro e w1 ⟨rfl, o1⟩
    have o2 : Only [] w (w1.alloc (.cells #[.int .u64 x.k, .int .i64 x.i] 40)) := o1.alloc _
    have hset := tSet _ tb ib nb n hs g (HT.out.only0 o2) (i : Int) x
    have O2 := Lib.hid o2
    have bX := Box.new w1 x
    have x0 := bX.c0
    have x1 := bX.c1
    clear o2 o1 hm bX
    go_wp2_with fail
    refine hset.mono ?_
    rintro e w3 ⟨h3, -⟩
    obtain ⟨rfl, q1, q2⟩ := h3 hI
    rw [Int.toNat_natCast] at q1
    have Q := Lib.hid (And.intro q1 q2)
    clear q1 q2 h3 hset
    go_wp2_with fail
    go_end0
    exact ⟨rfl, Q.out.1, (O2.out.mono (by simp)).trans' Q.out.2⟩
  · rw [hem] at hm
    simp only [Bool.not_true] at hm ⊢
    generalize first l = x at *
    clear hem h
    have HT := Lib.hid ht
    clear ht hT
    go_enter Tryz.func49, Tryz.ntmps49
    go_wp2_with fail
    refine hm.mono ?_
    rintro e w1 ⟨rfl, o1⟩
    have o2 : Only [] w (w1.alloc (.cells #[.int .u64 x.k, .int .i64 x.i] 40)) := o1.alloc _
    have hset := tUnset _ tb ib nb n hs g (HT.out.only0 o2) (i : Int)
    have O2 := Lib.hid o2
    clear o2 o1 hm
    go_wp2_with fail
    refine hset.mono ?_
    rintro e w3 ⟨h3, -⟩
    obtain ⟨rfl, q1, q2⟩ := h3 hI
    rw [Int.toNat_natCast] at q1
    have Q := Lib.hid (And.intro q1 q2)
    clear q1 q2 h3 hset
    go_wp2_with fail
    go_end0
    refine ⟨rfl, Q.out.1.regard rfl (fun k hk hb => ?_), (O2.out.mono (by simp)).trans' Q.out.2⟩
    by_cases e : k = i
    · subst e; rw [fup_same] at hb; cases hb
    · rw [fup_other _ _ e]

theorem renew_hs {L : Nat → List It} {hs : Nat → Bool} {i : Nat} (h : ∀ k, k ≠ i → hs k = hasL L k) : fup hs i (!(L i).isEmpty) = hasL L := by
  funext k
  by_cases e : k = i
  · subst e; rw [fup_same]; rfl
  · rw [fup_other _ _ e]; exact h k e
set_option maxHeartbeats 1000000 in
theorem qRenew (w : World) (qb ab tb ib nb n : Nat) (P : Nat → Nat) (SS : Nat → List Nat) (wd : Nat) (B : Nat → Int) (L : Nat → List It) (hs : Nat → Bool) (g : Nat → It) (h : QueueIs w qb ab tb ib nb n P SS wd B L hs g) (hT : Tab w) (i : Nat) (hi : i < n) (h1 : ∀ k, k ≠ i → hs k = hasL L k) (h2 : ∀ k, k ≠ i → g k = firL L k) :
    Calls Tryz.prog 54 #[.pointer (some ⟨qb, 0, none⟩), .int .i64 (i : Int)] w fun e w' => e = .returned (.tuple #[]) ∧ QueueIs w' qb ab tb ib nb n P SS wd B L (hasL L) (firL L) ∧ Moved w (qown qb ab tb ib nb n SS) w' (qown qb ab tb ib nb n SS) := by
  have hmf : ∀ (fn : Fn) (first cap : Array Value) (w : World), (Instr.makeFunc fn first cap).run Tryz.prog w = .ok (.func fn first cap) w := fun _ _ _ _ => rfl
  have c0 := h.c0
  have c1 := h.c1
  have ci := h.at_ hi
  have h16 := h.n1.2
  have hI : (0 : Int) ≤ (i : Int) ∧ (i : Int) < (n : Int) := by omega
  have o1 : Only [] w w.drew := (Only.refl [] w).drew
  have he := qEnterS w.drew tb ib nb n hs g (h.tr.only0 o1) (P i) (SS i) wd (B i) (L i) ((h.sh i hi).only0 o1) (hT.only0 o1) i hi
  have H := Lib.hid h
  rw [renew_hs h1] at he
  clear h hT
  go_enter Tryz.func54, Tryz.ntmps54
  go_wp2_with fail
  go_region_with (go_at_call 49; refine he.mono ?_; rintro e w3 ⟨rfl, q1, q2⟩; have Q := Lib.hid (And.intro q1 q2); clear q1 q2 he)
  all_goals
    go_wp2_with fail
    go_end0
    have q1 : TourOf _ tb ib nb n (hasL L) (firL L) := Q.out.1.regard rfl (fun k hk hb => by
      by_cases e : k = i
      · subst e; rw [fup_same]; rfl
      · rw [fup_other _ _ e]; exact h2 k e)
    have q3 := (H.out.only0 o1).tour q1 Q.out.2
    exact ⟨rfl, q3.1, (Moved.of_only o1).trans q3.2⟩
end Go.Proofs.YtajhkdbldbifeaaGreatDoor
