/-
  The statements' words: packets held against each other, acts, made, looks.
-/
import Derived.Test.YtjmnklmomdfpfaaFlowG
import Derived.Laws.StructEq
namespace Go.Proofs.Ytjmnklmomdfpfaa
set_option maxRecDepth 100000
open Go.RowKit
set_option linter.unusedVariables false
set_option linter.unusedSimpArgs false
set_option maxRecDepth 100000

theorem pk_guard : Try.prog.eqGuardType Try.prog.depth 34 = false := by kernel_rfl
theorem pk_held : Try.prog.stoodInHeld 34 = false := by kernel_rfl
theorem pk_struct : Try.prog.underlying 34 = some (.struct (Try.prog.fieldsOf 34)) := by kernel_rfl
theorem pk_eql (x y : Pk) (w : World) : (binOp .eql 34 (.agg #[.int .i64 x.f, .int .i64 x.l, .int .i64 x.m]) (.agg #[.int .i64 y.f, .int .i64 y.l, .int .i64 y.m])).run Try.prog w = .ok (.bool (decide (x = y))) w := by
  have u1 := Try.underlying3
  have a1 := Try.isAgg3
  have z1 := Try.sizeOf3
  rw [run_eql_struct, show (10000 : Nat) = 9999 + 1 from rfl, run_equalIn_agg w 9999 34 _ _ pk_struct pk_held]
  simp only [Program.fieldsOf, Try.underlying34]
  go_simp
  obtain ⟨k, i, j⟩ := x
  obtain ⟨k', i', j'⟩ := y
  by_cases h1 : k = k' <;> by_cases h2 : i = i' <;> by_cases h3 : j = j' <;> simp [h1, h2, h3]

theorem fModN (v : Int) (n : Nat) (h : 0 < n) (hn : n ≤ 1000000) : ∃ m : Nat, m < n ∧ ∀ w, Calls Try.prog 18 #[.int .i64 v, .int .i64 (n : Int)] w fun e w' => e = .returned (.int .i64 (m : Int)) ∧ w' = w := by
  obtain ⟨x, h0, hx, ex⟩ := rem_is v (n : Int) (by omega)
  obtain ⟨m, rfl⟩ : ∃ m : Nat, x = (m : Int) := ⟨x.toNat, by omega⟩
  refine ⟨m, by omega, fun w => ?_⟩
  have hm : m < n := by omega
  have hw : wrap64 (m : Int) = (m : Int) := by unfold wrap64; omega
  have hne' : ¬ ((n : Int) = 0) := by omega
  go_enter Try.func18, Try.ntmps18
  go_wp2
  go_ret
  exact ⟨by simp [ex, hw], rfl⟩

/-- An act: its kind, its virtual time, its packet. -/
structure Ak where
  k : Int
  v : Int
  p : Pk
deriving Inhabited
def Ak.ok (a : Ak) : Prop := i64ok a.k ∧ U64 a.v ∧ a.p.ok
theorem i64_of {a : Int} (h : -9223372036854775808 ≤ a ∧ a ≤ 9223372036854775807) : i64ok a := by
  simp [i64ok, Lit.wf, IntKind.min, IntKind.max, IntKind.signed, IntKind.bits]
  omega
/-- A flow beside the document's, both the same as numbers. -/
structure Duo (w : World) (b c : Nat) (F : Fl) (O P : List Nat) : Prop where
  fl : FlowOf w b F O
  rf : RefOf w c 0 F P
  ap : ∀ k ∈ O, k ∉ P
section
variable {w w' : World} {b c : Nat} {F F' : Fl} {O P O' P' : List Nat}
theorem Duo.only {S : List Nat} (h : Duo w b c F O P) (ho : Only S w w') (hS : ∀ k ∈ O ++ P, k ∉ S) : Duo w' b c F O P :=
  ⟨h.fl.only ho (fun k hk => hS k (by simp [hk])), h.rf.only ho (fun k hk => hS k (by simp [hk])), h.ap⟩
theorem Duo.only0 (h : Duo w b c F O P) (ho : Only [] w w') : Duo w' b c F O P := h.only ho (by simp)
theorem Duo.lt (h : Duo w b c F O P) : ∀ k ∈ O ++ P, k < w.heap.size := by
  intro k hk
  rcases List.mem_append.1 hk with hk | hk
  · exact h.fl.lt k hk
  · exact h.rf.lt k hk
/-- The one turned, the other as it was. -/
theorem RefOf.beside {id : Int} (h : RefOf w c id F P) (hw : Went w O w' O') (ha : ∀ k ∈ O, k ∉ P) : RefOf w' c id F P ∧ ∀ k ∈ O', k ∉ P := by
  refine ⟨h.only hw.1 (fun k hk hO => ha k hO hk), fun k hk hP => ?_⟩
  rcases hw.2 k hk with h1 | h1
  · exact ha k h1 hP
  · have := h.lt k hP; omega
theorem FlowOf.beside (h : FlowOf w b F O) (hw : Went w P w' P') (ha : ∀ k ∈ O, k ∉ P) : FlowOf w' b F O ∧ ∀ k ∈ O, k ∉ P' := by
  refine ⟨h.only hw.1 ha, fun k hk hP => ?_⟩
  rcases hw.2 k hP with h1 | h1
  · exact ha k hk h1
  · have := h.lt k hk; omega
theorem Went.two {a b' c' : World} {O P O' P' : List Nat} (h : Went a O b' O') (h2 : Went b' P c' P') : Went a (O ++ P) c' (O' ++ P') := by
  refine ⟨(h.1.mono (T := O ++ P) (fun k hk => .inl (by simp [hk]))).trans h2.1 (fun k hk => .inl (by simp [hk])), fun k hk => ?_⟩
  rcases List.mem_append.1 hk with hk | hk
  · exact (h.2 k hk).imp (fun h => by simp [h]) id
  · rcases h2.2 k hk with h3 | h3
    · exact .inl (by simp [h3])
    · exact .inr (Nat.le_trans h.1.size h3)
end
end Go.Proofs.Ytjmnklmomdfpfaa
