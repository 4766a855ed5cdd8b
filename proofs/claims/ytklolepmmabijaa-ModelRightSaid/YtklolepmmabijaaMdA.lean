/-
  Ours: within, Right, New; V, Served, Len, Starts, Flows.
-/
import Derived.Test.YtklolepmmabijaaMdB
import Derived.Test.YtklolepmmabijaaGmL
namespace Go.Proofs.Ytklolepmmabijaa
set_option maxRecDepth 100000
open Go.RowKit
set_option linter.unusedVariables false
set_option linter.unusedSimpArgs false
set_option maxRecDepth 100000

theorem mWithin (n a z : Int) (w : World) : Calls Try.prog 19 #[.int .i64 n, .int .i64 a, .int .i64 z] w fun e w' => e = .returned (.bool (decide (a ≤ n ∧ n ≤ z))) ∧ w' = w := by
  by_cases h1 : a ≤ n
  · have d1 : decide (a ≤ n) = true := decide_eq_true h1
    by_cases h2 : n ≤ z
    · have e : decide (a ≤ n ∧ n ≤ z) = true := decide_eq_true ⟨h1, h2⟩
      have d2 : decide (n ≤ z) = true := decide_eq_true h2
      rw [e]
      go_enter Try.func19, Try.ntmps19
      go_wp2
      go_ret
      exact ⟨by simp [d2], rfl⟩
    · have e : decide (a ≤ n ∧ n ≤ z) = false := decide_eq_false (fun h => h2 h.2)
      have d2 : decide (n ≤ z) = false := decide_eq_false h2
      rw [e]
      go_enter Try.func19, Try.ntmps19
      go_wp2
      go_ret
      exact ⟨by simp [d2], rfl⟩
  · have d1 : decide (a ≤ n) = false := decide_eq_false h1
    have e : decide (a ≤ n ∧ n ≤ z) = false := decide_eq_false (fun h => h1 h.1)
    rw [e]
    go_enter Try.func19, Try.ntmps19
    go_wp2
    go_ret
    exact ⟨by simp [d1], rfl⟩
theorem mWithinU (n a z : Int) (w : World) : Calls Try.prog 20 #[.int .u64 n, .int .u64 a, .int .u64 z] w fun e w' => e = .returned (.bool (decide (a ≤ n ∧ n ≤ z))) ∧ w' = w := by
  by_cases h1 : a ≤ n
  · have d1 : decide (a ≤ n) = true := decide_eq_true h1
    by_cases h2 : n ≤ z
    · have e : decide (a ≤ n ∧ n ≤ z) = true := decide_eq_true ⟨h1, h2⟩
      have d2 : decide (n ≤ z) = true := decide_eq_true h2
      rw [e]
      go_enter Try.func20, Try.ntmps20
      go_wp2
      go_ret
      exact ⟨by simp [d2], rfl⟩
    · have e : decide (a ≤ n ∧ n ≤ z) = false := decide_eq_false (fun h => h2 h.2)
      have d2 : decide (n ≤ z) = false := decide_eq_false h2
      rw [e]
      go_enter Try.func20, Try.ntmps20
      go_wp2
      go_ret
      exact ⟨by simp [d2], rfl⟩
  · have d1 : decide (a ≤ n) = false := decide_eq_false h1
    have e : decide (a ≤ n ∧ n ≤ z) = false := decide_eq_false (fun h => h1 h.1)
    rw [e]
    go_enter Try.func20, Try.ntmps20
    go_wp2
    go_ret
    exact ⟨by simp [d1], rfl⟩

/-- A block that holds a config. -/
def cfCells (c : Cf) : Array Value := #[.int .i64 c.sh, .int .i64 c.sl, .int .i64 c.wk, .int .i64 c.wd, .int .u64 c.un]
set_option maxHeartbeats 2000000 in
theorem mRight (c : Cf) (w : World) : Calls Try.prog 8 #[.agg #[.int .i64 c.sh, .int .i64 c.sl, .int .i64 c.wk, .int .i64 c.wd, .int .u64 c.un]] w fun e w' =>
    e = .returned (.bool (decide (1 ≤ c.sh ∧ c.sh ≤ 4) && (decide (1 ≤ c.sl ∧ c.sl ≤ 4) && (decide (1 ≤ c.wk ∧ c.wk ≤ 6) && (decide (0 ≤ c.wd ∧ c.wd ≤ 40) && decide (1 ≤ c.un ∧ c.un ≤ 4611686018427387904)))))) ∧ Only [] w w' := by
  have k1 := fun W => mWithin c.sh 1 4 W
  have k2 := fun W => mWithin c.sl 1 4 W
  have k3 := fun W => mWithin c.wk 1 6 W
  have k4 := fun W => mWithin c.wd 0 40 W
  have k5 := fun W => mWithinU c.un 1 4611686018427387904 W
  have oA : Only [] w (w.alloc (.cells #[.int .i64 c.sh, .int .i64 c.sl, .int .i64 c.wk, .int .i64 c.wd, .int .u64 c.un] 24)) := (Only.refl [] w).alloc _
  generalize decide (1 ≤ c.sh ∧ c.sh ≤ 4) = b1 at *
  generalize decide (1 ≤ c.sl ∧ c.sl ≤ 4) = b2 at *
  generalize decide (1 ≤ c.wk ∧ c.wk ≤ 6) = b3 at *
  generalize decide (0 ≤ c.wd ∧ c.wd ≤ 40) = b4 at *
  generalize decide (1 ≤ c.un ∧ c.un ≤ 4611686018427387904) = b5 at *
  have K1 := Lib.hid k1
  have K2 := Lib.hid k2
  have K3 := Lib.hid k3
  have K4 := Lib.hid k4
  have K5 := Lib.hid k5
  clear k1 k2 k3 k4 k5
  rcases b1 with _ | _
  · go_enter Try.func8, Try.ntmps8
    go_wp2_with fail
    refine (K1.out _).mono ?_
    rintro e w1 ⟨rfl, rfl⟩
    go_wp2_with fail
    go_ret
    exact ⟨rfl, oA⟩
  · rcases b2 with _ | _
    · go_enter Try.func8, Try.ntmps8
      go_wp2_with fail
      refine (K1.out _).mono ?_
      rintro e w1 ⟨rfl, rfl⟩
      go_wp2_with fail
      refine (K2.out _).mono ?_
      rintro e w1 ⟨rfl, rfl⟩
      go_wp2_with fail
      go_ret
      exact ⟨rfl, oA⟩
    · rcases b3 with _ | _
      · go_enter Try.func8, Try.ntmps8
        go_wp2_with fail
        refine (K1.out _).mono ?_
        rintro e w1 ⟨rfl, rfl⟩
        go_wp2_with fail
        refine (K2.out _).mono ?_
        rintro e w1 ⟨rfl, rfl⟩
        go_wp2_with fail
        refine (K3.out _).mono ?_
        rintro e w1 ⟨rfl, rfl⟩
        go_wp2_with fail
        go_ret
        exact ⟨rfl, oA⟩
      · rcases b4 with _ | _
        · go_enter Try.func8, Try.ntmps8
          go_wp2_with fail
          refine (K1.out _).mono ?_
          rintro e w1 ⟨rfl, rfl⟩
          go_wp2_with fail
          refine (K2.out _).mono ?_
          rintro e w1 ⟨rfl, rfl⟩
          go_wp2_with fail
          refine (K3.out _).mono ?_
          rintro e w1 ⟨rfl, rfl⟩
          go_wp2_with fail
          refine (K4.out _).mono ?_
          rintro e w1 ⟨rfl, rfl⟩
          go_wp2_with fail
          go_ret
          exact ⟨rfl, oA⟩
        · go_enter Try.func8, Try.ntmps8
          go_wp2_with fail
          refine (K1.out _).mono ?_
          rintro e w1 ⟨rfl, rfl⟩
          go_wp2_with fail
          refine (K2.out _).mono ?_
          rintro e w1 ⟨rfl, rfl⟩
          go_wp2_with fail
          refine (K3.out _).mono ?_
          rintro e w1 ⟨rfl, rfl⟩
          go_wp2_with fail
          refine (K4.out _).mono ?_
          rintro e w1 ⟨rfl, rfl⟩
          go_wp2_with fail
          refine (K5.out _).mono ?_
          rintro e w1 ⟨rfl, rfl⟩
          go_wp2_with fail
          go_ret
          exact ⟨rfl, oA⟩
def rightB (c : Cf) : Bool := decide (1 ≤ c.sh ∧ c.sh ≤ 4) && (decide (1 ≤ c.sl ∧ c.sl ≤ 4) && (decide (1 ≤ c.wk ∧ c.wk ≤ 6) && (decide (0 ≤ c.wd ∧ c.wd ≤ 40) && decide (1 ≤ c.un ∧ c.un ≤ 4611686018427387904))))
theorem rightB_iff (c : Cf) : rightB c = true ↔ c.right := by
  unfold rightB
  simp only [Bool.and_eq_true, decide_eq_true_eq]
  constructor
  · rintro ⟨⟨h1, h2⟩, ⟨h3, h4⟩, ⟨h5, h6⟩, ⟨h7, h8⟩, h9, h10⟩
    exact ⟨h1, h2, h3, h4, h5, h6, h7, h8, h9, h10⟩
  · rintro ⟨h1, h2, h3, h4, h5, h6, h7, h8, h9, h10⟩
    exact ⟨⟨h1, h2⟩, ⟨h3, h4⟩, ⟨h5, h6⟩, ⟨h7, h8⟩, h9, h10⟩

/-! ### what is asked -/
theorem MapAt.look1 {w : World} {b : Nat} {f : Int → Option Int} (h : MapAt w b f) {k : Int} (hk : i64ok k) (T : TypeId) (hT : Try.prog.underlying T = some (.map 3 3)) :
    (Instr.lookup T (.map (some b)) (.int .i64 k) false).run Try.prog w = .ok (.int .i64 ((f k).getD 0)) w := by
  obtain ⟨es, clock, hb, hs, h1, h2⟩ := h
  rcases key_law.find w (key_int hk) es.toList (keys_of h1) with ⟨e1, e2⟩ | ⟨j, e0, e1, e2, e3⟩
  · have hf : f k = none := by
      rcases hf : f k with _ | v
      · rfl
      · obtain ⟨e, he, hek, _⟩ := h2 k v hf
        exact absurd hek (e2 e he)
    simp [Instr.lookup, run_underlying hT, MapKept.run_getObj_map hb, check_int w hk, e1, zero_int, Result.andThen, hf]
  · obtain ⟨k', v, h3, h4, h5, h6⟩ := h1 e0 (List.mem_of_getElem? e2)
    have : k' = k := by rw [e3] at h3; injection h3 with _ h3; exact h3.symm
    subst this
    simp [Instr.lookup, run_underlying hT, MapKept.run_getObj_map hb, check_int w hk, e1, h5, Result.andThen, h6]
def lenI (K : List (Int × Fl)) (id : Int) : Int := if hasK K id then ((getK K id).l.length : Int) else -1
section
variable (w : World) (b : Nat) (M : Md) (O : List Nat) (h : MdOf b M w O)
include h
theorem mV : Calls Try.prog 10 #[.pointer (some ⟨b, 0, none⟩)] w fun e w' => e = .returned (.int .u64 M.S.v) ∧ w' = w := by
  obtain ⟨s, m, Q, h, rfl⟩ := h
  obtain ⟨c0, c1, c2, c3, c4, c5⟩ := h.blk.c
  have k := sV w s M.S Q h.sq
  clear h
  go_enter Try.func10, Try.ntmps10
  go_wp2_with fail
  refine k.mono ?_
  rintro e w1 ⟨rfl, rfl⟩
  go_wp2_with fail
  go_ret
  exact ⟨rfl, rfl⟩
theorem mServed : Calls Try.prog 11 #[.pointer (some ⟨b, 0, none⟩)] w fun e w' => e = .returned (.int .i64 M.n) ∧ w' = w := by
  obtain ⟨s, m, Q, h, rfl⟩ := h
  obtain ⟨c0, c1, c2, c3, c4, c5⟩ := h.blk.c
  clear h
  go_enter Try.func11, Try.ntmps11
  go_wp2
  go_ret
  exact ⟨rfl, rfl⟩
theorem mLen (id : Int) (hid : i64ok id) : Calls Try.prog 17 #[.pointer (some ⟨b, 0, none⟩), .int .i64 id] w fun e w' => e = .returned (.int .i64 (lenI M.S.l id)) ∧ w' = w := by
  obtain ⟨s, m, Q, h, rfl⟩ := h
  obtain ⟨c0, c1, c2, c3, c4, c5⟩ := h.blk.c
  have lk := h.map.look hid 54 Try.underlying54
  rw [lensK_isSome] at lk
  unfold lensK at lk
  unfold lenI
  clear h
  rcases hh : hasK M.S.l id with _ | _
  all_goals
    simp only [hh, if_true, Bool.false_eq_true, if_false, Option.getD_none, Option.getD_some] at lk ⊢
    go_enter Try.func17, Try.ntmps17
    go_wp2_with fail
    go_ret
    exact ⟨rfl, rfl⟩
theorem mStarts : Calls Try.prog 13 #[.pointer (some ⟨b, 0, none⟩)] w fun e w' => ∃ A cap, e = .returned (.slice A (startsK M.S.l).length cap) ∧ RowIs w' (.slice A (startsK M.S.l).length cap) (startsK M.S.l) ∧ (∀ k, (Value.slice A (startsK M.S.l).length cap).ownBlock = some k → w.heap.size ≤ k) ∧ Only [] w w' := by
  obtain ⟨s, m, Q, h, rfl⟩ := h
  obtain ⟨c0, c1, c2, c3, c4, c5⟩ := h.blk.c
  have k := sStarts w s M.S Q h.sq
  clear h
  go_enter Try.func13, Try.ntmps13
  go_wp2_with fail
  refine k.mono ?_
  rintro e w1 ⟨A, cap, rfl, r1, r2, r3⟩
  have R := Lib.hid (And.intro r1 (And.intro r2 r3))
  clear r1 r2 r3 k
  go_wp2_with fail
  go_ret
  exact ⟨A, cap, rfl, R.out.1, R.out.2.1, R.out.2.2⟩
theorem mFlows : Calls Try.prog 12 #[.pointer (some ⟨b, 0, none⟩)] w fun e w' => ∃ A cap, e = .returned (.slice A (idsK M.S.l).length cap) ∧ iE.Row w' (.slice A (idsK M.S.l).length cap) (idsK M.S.l) ∧ (∀ k, (Value.slice A (idsK M.S.l).length cap).ownBlock = some k → w.heap.size ≤ k) ∧ Only [] w w' := by
  obtain ⟨s, m, Q, h, rfl⟩ := h
  obtain ⟨c0, c1, c2, c3, c4, c5⟩ := h.blk.c
  have k := sFlows w s M.S Q h.sq
  clear h
  go_enter Try.func12, Try.ntmps12
  go_wp2_with fail
  refine k.mono ?_
  rintro e w1 ⟨A, cap, rfl, r1, r2, r3⟩
  have R := Lib.hid (And.intro r1 (And.intro r2 r3))
  clear r1 r2 r3 k
  go_wp2_with fail
  go_ret
  exact ⟨A, cap, rfl, R.out.1, R.out.2.1, R.out.2.2⟩
end
end Go.Proofs.Ytklolepmmabijaa
