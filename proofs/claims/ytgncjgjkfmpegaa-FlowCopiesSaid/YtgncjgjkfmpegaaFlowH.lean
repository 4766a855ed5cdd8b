/-
  The statements' words: packets held against each other, acts, made, looks.
-/
import Derived.Test.YtgncjgjkfmpegaaFlowG
import Derived.Laws.StructEq
namespace Go.Proofs.Ytgncjgjkfmpegaa
set_option maxRecDepth 100000
open Go.RowKit
set_option linter.unusedVariables false
set_option linter.unusedSimpArgs false
set_option maxRecDepth 100000

theorem pk_guard : Try.prog.eqGuardType Try.prog.depth 32 = false := by kernel_rfl
theorem pk_held : Try.prog.stoodInHeld 32 = false := by kernel_rfl
theorem pk_struct : Try.prog.underlying 32 = some (.struct (Try.prog.fieldsOf 32)) := by kernel_rfl
theorem pk_eql (x y : Pk) (w : World) : (binOp .eql 32 (.agg #[.int .i64 x.f, .int .i64 x.l, .int .i64 x.m]) (.agg #[.int .i64 y.f, .int .i64 y.l, .int .i64 y.m])).run Try.prog w = .ok (.bool (decide (x = y))) w := by
  have u1 := Try.underlying3
  have a1 := Try.isAgg3
  have z1 := Try.sizeOf3
  rw [run_eql_struct, show (10000 : Nat) = 9999 + 1 from rfl, run_equalIn_agg w 9999 32 _ _ pk_struct pk_held]
  simp only [Program.fieldsOf, Try.underlying32]
  go_simp
  obtain ⟨k, i, j⟩ := x
  obtain ⟨k', i', j'⟩ := y
  by_cases h1 : k = k' <;> by_cases h2 : i = i' <;> by_cases h3 : j = j' <;> simp [h1, h2, h3]

theorem fModN (v : Int) (n : Nat) (h : 0 < n) (hn : n ≤ 1000000) : ∃ m : Nat, m < n ∧ ∀ w, Calls Try.prog 17 #[.int .i64 v, .int .i64 (n : Int)] w fun e w' => e = .returned (.int .i64 (m : Int)) ∧ w' = w := by
  obtain ⟨x, h0, hx, ex⟩ := rem_is v (n : Int) (by omega)
  obtain ⟨m, rfl⟩ : ∃ m : Nat, x = (m : Int) := ⟨x.toNat, by omega⟩
  refine ⟨m, by omega, fun w => ?_⟩
  have hm : m < n := by omega
  have hw : wrap64 (m : Int) = (m : Int) := by unfold wrap64; omega
  have hne' : ¬ ((n : Int) = 0) := by omega
  go_enter Try.func17, Try.ntmps17
  go_wp2
  go_ret
  exact ⟨by simp [ex, hw], rfl⟩

/-- An act: its kind, its virtual time, its packet. -/
structure Ak where
  k : Int
  v : Int
  p : Pk
deriving Inhabited
def Ak.ok (a : Ak) : Prop := i64ok a.k ∧ U64 a.v ∧ a.p.ok
theorem i64_of {a : Int} (h : -9223372036854775808 ≤ a ∧ a ≤ 9223372036854775807) : i64ok a := by
  simp [i64ok, Lit.wf, IntKind.min, IntKind.max, IntKind.signed, IntKind.bits]
  omega
set_option maxHeartbeats 400000 in
theorem aV (a : Ak) (ha : a.ok) : ∃ vt, U64 vt ∧ ∀ w, Calls Try.prog 19 #[.agg #[.int .i64 a.k, .int .u64 a.v, .int .i64 a.p.f, .int .i64 a.p.l, .int .i64 a.p.m]] w fun e w' => e = .returned (.int .u64 vt) ∧ Only [] w w' := by
  obtain ⟨b0, b1⟩ := ha.2.1
  by_cases h : a.v % 5 = 4
  · have h' : (a.v % 5 == 4) = true := by simpa using h
    clear h
    refine ⟨a.v, ⟨b0, b1⟩, fun w => ?_⟩
    go_enter Try.func19, Try.ntmps19
    go_wp2
    go_ret
    exact ⟨rfl, (Only.refl _ _).alloc _⟩
  · have h' : (a.v % 5 == 4) = false := by simpa using h
    clear h
    refine ⟨a.v % 300, ⟨by omega, by omega⟩, fun w => ?_⟩
    go_enter Try.func19, Try.ntmps19
    go_wp2
    go_ret
    exact ⟨rfl, (Only.refl _ _).alloc _⟩
set_option maxHeartbeats 400000 in
theorem aPacket (a : Ak) (ha : a.ok) : ∃ p : Pk, p.ok ∧ ∀ w, Calls Try.prog 20 #[.agg #[.int .i64 a.k, .int .u64 a.v, .int .i64 a.p.f, .int .i64 a.p.l, .int .i64 a.p.m]] w fun e w' => e = .returned (.agg #[.int .i64 p.f, .int .i64 p.l, .int .i64 p.m]) ∧ Only [] w w' := by
  obtain ⟨q, hq, m1⟩ := fModN a.p.l 9 (by omega) (by omega)
  obtain ⟨r, hr, m2⟩ := fModN a.p.l 40 (by omega) (by omega)
  change ∀ w, Calls _ _ #[.int .i64 a.p.l, .int .i64 9] w _ at m1
  change ∀ w, Calls _ _ #[.int .i64 a.p.l, .int .i64 40] w _ at m2
  by_cases h : q = 8
  · subst h
    refine ⟨a.p, ha.2.2, fun w => ?_⟩
    go_enter Try.func20, Try.ntmps20
    go_wp2_with fail
    refine (m1 _).mono ?_
    rintro e w1 ⟨rfl, rfl⟩
    go_wp2_with fail
    refine bodyPost_ret (v := .agg #[.int .i64 a.p.f, .int .i64 a.p.l, .int .i64 a.p.m]) ?_ rfl ?_
    · rw [results_cell1 rfl]; go_simp
    · exact ⟨rfl, (((Only.refl [] w).alloc _).alloc _).alloc _⟩
  · have h' : ((q : Int) != 8) = true := by simp; omega
    have h2 : ¬ ((q : Int) = 8) := by omega
    refine ⟨⟨a.p.f, r, a.p.m⟩, ⟨ha.2.2.1, (show i64ok (r : Int) from i64_of (by omega)), ha.2.2.2.2⟩, fun w => ?_⟩
    go_enter Try.func20, Try.ntmps20
    go_wp2_with fail
    refine (m1 _).mono ?_
    rintro e w1 ⟨rfl, rfl⟩
    go_wp2_with fail
    refine (m2 _).mono ?_
    rintro e w1 ⟨rfl, rfl⟩
    go_wp2_with fail
    refine bodyPost_ret (v := .agg #[.int .i64 a.p.f, .int .i64 r, .int .i64 a.p.m]) ?_ rfl ?_
    · rw [results_cell1 rfl]; go_simp
    · exact ⟨rfl, (((Only.refl [] w).alloc _).alloc _).alloc _⟩

/-- A flow beside the document's, both the same as numbers. -/
structure Duo (w : World) (b c : Nat) (F : Fl) (O P : List Nat) : Prop where
  fl : FlowOf w b F O
  rf : RefOf w c 0 F P
  ap : ∀ k ∈ O, k ∉ P
section
variable {w w' : World} {b c : Nat} {F F' : Fl} {O P O' P' : List Nat}
theorem Duo.only {S : List Nat} (h : Duo w b c F O P) (ho : Only S w w') (hS : ∀ k ∈ O ++ P, k ∉ S) : Duo w' b c F O P :=
  ⟨h.fl.only ho (fun k hk => hS k (by simp [hk])), h.rf.only ho (fun k hk => hS k (by simp [hk])), h.ap⟩
theorem Duo.only0 (h : Duo w b c F O P) (ho : Only [] w w') : Duo w' b c F O P := h.only ho (by simp)
theorem Duo.lt (h : Duo w b c F O P) : ∀ k ∈ O ++ P, k < w.heap.size := by
  intro k hk
  rcases List.mem_append.1 hk with hk | hk
  · exact h.fl.lt k hk
  · exact h.rf.lt k hk
/-- The one turned, the other as it was. -/
theorem RefOf.beside {id : Int} (h : RefOf w c id F P) (hw : Went w O w' O') (ha : ∀ k ∈ O, k ∉ P) : RefOf w' c id F P ∧ ∀ k ∈ O', k ∉ P := by
  refine ⟨h.only hw.1 (fun k hk hO => ha k hO hk), fun k hk hP => ?_⟩
  rcases hw.2 k hk with h1 | h1
  · exact ha k h1 hP
  · have := h.lt k hP; omega
theorem FlowOf.beside (h : FlowOf w b F O) (hw : Went w P w' P') (ha : ∀ k ∈ O, k ∉ P) : FlowOf w' b F O ∧ ∀ k ∈ O, k ∉ P' := by
  refine ⟨h.only hw.1 ha, fun k hk hP => ?_⟩
  rcases hw.2 k hP with h1 | h1
  · exact ha k hk h1
  · have := h.lt k hk; omega
theorem Went.two {a b' c' : World} {O P O' P' : List Nat} (h : Went a O b' O') (h2 : Went b' P c' P') : Went a (O ++ P) c' (O' ++ P') := by
  refine ⟨(h.1.mono (T := O ++ P) (fun k hk => .inl (by simp [hk]))).trans h2.1 (fun k hk => .inl (by simp [hk])), fun k hk => ?_⟩
  rcases List.mem_append.1 hk with hk | hk
  · exact (h.2 k hk).imp (fun h => by simp [h]) id
  · rcases h2.2 k hk with h3 | h3
    · exact .inl (by simp [h3])
    · exact .inr (Nat.le_trans h.1.size h3)
end
set_option maxHeartbeats 1000000 in
theorem aMade (r most : Int) (hr : U64 r) (w : World) :
    Calls Try.prog 9 #[.int .u64 r, .int .i64 most] w fun e w' => ∃ b c, e = .returned (.tuple #[.pointer (some ⟨b, 0, none⟩), .pointer (some ⟨c, 0, none⟩)]) ∧ ∃ r' n', Duo w' b c (Fl.new r' n') [b] [c] ∧ w.heap.size ≤ b ∧ w.heap.size ≤ c ∧ Only [] w w' := by
  obtain ⟨q, hq, m1⟩ := fModN most 4 (by omega) (by omega)
  obtain ⟨z, hz, m2⟩ := fModN most 10 (by omega) (by omega)
  change ∀ w, Calls _ _ #[.int .i64 most, .int .i64 4] w _ at m1
  change ∀ w, Calls _ _ #[.int .i64 most, .int .i64 10] w _ at m2
  -- what follows, at any rate and room
  have rest : ∀ (r' most' : Int), U64 r' → (∀ w1, Calls Try.prog 13 #[.int .u64 r', .int .i64 most'] w1 fun e w2 => e = .returned (.pointer (some ⟨w1.heap.size, 0, none⟩)) ∧ FlowOf w2 w1.heap.size (Fl.new r' (room most')) [w1.heap.size] ∧ Only [] w1 w2) ∧
      (∀ w1, Calls Try.prog 27 #[.int .i64 0, .int .u64 r', .int .i64 most'] w1 fun e w2 => e = .returned (.pointer (some ⟨w1.heap.size, 0, none⟩)) ∧ RefOf w2 w1.heap.size 0 (Fl.new r' (room most')) [w1.heap.size] ∧ Only [] w1 w2) :=
    fun r' most' hr' => ⟨fun w1 => flNew w1 r' most' hr', fun w1 => rlNew w1 0 r' most' hr'⟩
  have both : ∀ (r' : Int) (n' : Nat) (w1 w2 : World), FlowOf w1 w.heap.size (Fl.new r' n') [w.heap.size] → Only [] w w1 → RefOf w2 w1.heap.size 0 (Fl.new r' n') [w1.heap.size] → Only [] w1 w2 → ∃ r' n', Duo w2 w.heap.size w1.heap.size (Fl.new r' n') [w.heap.size] [w1.heap.size] ∧ w.heap.size ≤ w.heap.size ∧ w.heap.size ≤ w1.heap.size ∧ Only [] w w2 := fun r' n' w1 w2 h1 o1 h2 o2 =>
    ⟨r', n', ⟨h1.only0 o2, h2, by have := h1.lt _ (List.mem_singleton.2 rfl); simp; omega⟩, Nat.le_refl _, o1.size, o1.trans' o2⟩
  have both := Lib.hid both
  obtain ⟨b0, b1⟩ := hr
  have hR : ∃ r' : Int, U64 r' ∧ (r % 7 < 5 ∧ r' = r % 50 ∨ ¬ (r % 7 < 5) ∧ r' = r) := by
    by_cases h : r % 7 < 5
    · exact ⟨_, ⟨by omega, by omega⟩, .inl ⟨h, rfl⟩⟩
    · exact ⟨_, ⟨b0, b1⟩, .inr ⟨h, rfl⟩⟩
  obtain ⟨r', hr', hrr⟩ := hR
  rcases q with _ | q
  · obtain ⟨n1, n2⟩ := rest r' most hr'
    rcases hrr with ⟨h, rfl⟩ | ⟨h, rfl⟩
    all_goals
      clear rest
      go_enter Try.func9, Try.ntmps9
      go_wp2_with fail
      refine (m1 _).mono ?_
      rintro e w ⟨rfl, rfl⟩
      go_wp2_with fail
      refine (n1 _).mono ?_
      rintro e w1 ⟨rfl, h1, o1⟩
      have H1 := Lib.hid (And.intro h1 o1)
      clear h1 o1
      go_wp2_with fail
      refine (n2 _).mono ?_
      rintro e w2 ⟨rfl, h2, o2⟩
      have H2 := Lib.hid (And.intro h2 o2)
      clear h2 o2
      go_wp2_with fail
      go_ret2
      exact ⟨_, _, rfl, both.out _ _ _ _ H1.out.1 H1.out.2 H2.out.1 H2.out.2⟩
  · obtain ⟨n1, n2⟩ := rest r' z hr'
    have p1 : (0 : Int) < ((q + 1 : Nat) : Int) := by omega
    have p2 : (0 : Int) < (q : Int) + 1 := by omega
    rcases hrr with ⟨h, rfl⟩ | ⟨h, rfl⟩
    all_goals
      clear rest
      go_enter Try.func9, Try.ntmps9
      go_wp2_with fail
      refine (m1 _).mono ?_
      rintro e w ⟨rfl, rfl⟩
      go_wp2_with fail
      refine (m2 _).mono ?_
      rintro e w ⟨rfl, rfl⟩
      go_wp2_with fail
      refine (n1 _).mono ?_
      rintro e w1 ⟨rfl, h1, o1⟩
      have H1 := Lib.hid (And.intro h1 o1)
      clear h1 o1
      go_wp2_with fail
      refine (n2 _).mono ?_
      rintro e w2 ⟨rfl, h2, o2⟩
      have H2 := Lib.hid (And.intro h2 o2)
      clear h2 o2
      go_wp2_with fail
      go_ret2
      exact ⟨_, _, rfl, both.out _ _ _ _ H1.out.1 H1.out.2 H2.out.1 H2.out.2⟩
end Go.Proofs.Ytgncjgjkfmpegaa
