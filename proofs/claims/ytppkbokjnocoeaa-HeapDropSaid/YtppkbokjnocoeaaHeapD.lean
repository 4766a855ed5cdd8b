/-
  The statements' deeds: Mod, Small, Name, What.
-/
import Derived.Test.YtppkbokjnocoeaaHeapK
import Derived.Deep.RegionHeld3
namespace Go.Proofs.Ytppkbokjnocoeaa
open Go.RowKit
set_option linter.unusedVariables false
set_option linter.unusedSimpArgs false

theorem i64ok_of {a : Int} (h : -9223372036854775808 ≤ a ∧ a ≤ 9223372036854775807) : i64ok a := by
  simp [i64ok, Lit.wf, IntKind.min, IntKind.max, IntKind.signed, IntKind.bits]
  omega
theorem u64ok_of {a : Int} (h : 0 ≤ a ∧ a ≤ 18446744073709551615) : (Lit.int .u64 a).wf = true := by
  simp [Lit.wf, IntKind.min, IntKind.max, IntKind.signed, IntKind.bits]
  omega
theorem u64ok_to {a : Int} (h : (Lit.int .u64 a).wf = true) : 0 ≤ a ∧ a ≤ 18446744073709551615 := by
  simp [Lit.wf, IntKind.min, IntKind.max, IntKind.signed, IntKind.bits] at h
  omega

set_option maxRecDepth 100000 in
theorem hMod (v : Int) (n : Nat) (h : 0 < n) (hn : n ≤ 1000000) (w : World) :
    Calls Try.prog 18 #[.int .i64 v, .int .i64 (n : Int)] w fun e w' => (∃ m : Nat, m < n ∧ e = .returned (.int .i64 (m : Int))) ∧ w' = w := by
  obtain ⟨x, h0, hx, ex⟩ := rem_is v (n : Int) (by omega)
  obtain ⟨m, rfl⟩ : ∃ m : Nat, x = (m : Int) := ⟨x.toNat, by omega⟩
  have hm : m < n := by omega
  have hw : wrap64 (m : Int) = (m : Int) := by unfold wrap64; omega
  have hne' : ¬ ((n : Int) = 0) := by omega
  go_enter Try.func18, Try.ntmps18
  go_wp2
  go_ret
  exact ⟨⟨m, hm, by simp [ex, hw]⟩, rfl⟩

/-- A deed. -/
structure Dd where
  a : Int
  b : Int
  c : Int
def Dd.val (d : Dd) : Value := .agg #[.int .i64 d.a, .int .u64 d.b, .int .i64 d.c]
def Dd.ok (d : Dd) : Prop := i64ok d.a ∧ (Lit.int .u64 d.b).wf = true ∧ i64ok d.c

set_option maxRecDepth 100000 in
set_option maxHeartbeats 400000 in
theorem hSmall (d : Dd) (hd : d.ok) (w : World) : Calls Try.prog 23 #[.agg #[.int .i64 d.a, .int .u64 d.b, .int .i64 d.c]] w fun e w' => (∃ k, (Lit.int .u64 k).wf = true ∧ e = .returned (.int .u64 k)) ∧ Only [] w w' := by
  obtain ⟨b0, b1⟩ := u64ok_to hd.2.1
  have h14 : (Lit.int .u64 (d.b % 14)).wf = true := by
    apply u64ok_of
    omega
  by_cases h : d.b % 11 = 10
  · have h' : (d.b % 11 == 10) = true := by simpa using h
    clear h
    go_enter Try.func23, Try.ntmps23
    go_wp2
    go_ret
    exact ⟨⟨d.b, hd.2.1, rfl⟩, (Only.refl _ _).alloc _⟩
  · have h' : (d.b % 11 == 10) = false := by simpa using h
    clear h
    go_enter Try.func23, Try.ntmps23
    go_wp2
    go_ret
    exact ⟨⟨d.b % 14, h14, rfl⟩, (Only.refl _ _).alloc _⟩

set_option maxRecDepth 100000 in
set_option maxHeartbeats 400000 in
theorem hName (d : Dd) (hd : d.ok) (w : World) : Calls Try.prog 24 #[.agg #[.int .i64 d.a, .int .u64 d.b, .int .i64 d.c]] w fun e w' => (∃ k, i64ok k ∧ e = .returned (.int .i64 k)) ∧ Only [] w w' := by
  have hc := hd.2.2
  have m1 := hMod d.c 19 (by omega) (by omega)
  have m2 := hMod d.c 9 (by omega) (by omega)
  change ∀ w, Calls _ _ #[.int .i64 d.c, .int .i64 19] w _ at m1
  change ∀ w, Calls _ _ #[.int .i64 d.c, .int .i64 9] w _ at m2
  go_enter Try.func24, Try.ntmps24
  go_wp2_with fail
  refine (m1 _).mono ?_
  rintro e w1 ⟨⟨q, hq, rfl⟩, rfl⟩
  by_cases h : q = 18
  · subst h
    go_wp2_with fail
    go_ret
    exact ⟨⟨d.c, hc, rfl⟩, (Only.refl _ _).alloc _⟩
  · have h' : ((q : Int) == 18) = false := by simp; omega
    clear h
    go_wp2_with fail
    refine (m2 _).mono ?_
    rintro e w1 ⟨⟨r, hr, rfl⟩, rfl⟩
    go_wp2_with fail
    go_ret
    exact ⟨⟨r, i64ok_of (by omega), rfl⟩, (Only.refl _ _).alloc _⟩

set_option maxRecDepth 100000 in
set_option maxHeartbeats 400000 in
theorem hWhat (d : Dd) (w : World) : Calls Try.prog 25 #[.agg #[.int .i64 d.a, .int .u64 d.b, .int .i64 d.c], .int .i64 8] w fun e w' => (∃ m : Nat, m < 8 ∧ e = .returned (.int .i64 (m : Int))) ∧ Only [] w w' := by
  have m1 := hMod d.a 8 (by omega) (by omega)
  change ∀ w, Calls _ _ #[.int .i64 d.a, .int .i64 8] w _ at m1
  go_enter Try.func25, Try.ntmps25
  go_wp2_with fail
  refine (m1 _).mono ?_
  rintro e w1 ⟨⟨q, hq, rfl⟩, rfl⟩
  go_wp2_with fail
  go_ret
  exact ⟨⟨q, hq, rfl⟩, (Only.refl _ _).alloc _⟩

/-- A cell that was there stays. -/
theorem Only.stay {w w' : World} (h : Only [] w w') {p : Addr} {v : Value} (hc : w.cell? p = some v) : w'.cell? p = some v := by
  rw [h.cell (World.block_lt_of_cell? w p hc) (by simp)]; exact hc

/-- A block that holds one deed. -/
def DBox (w : World) (b : Nat) (d : Dd) : Prop := w.heap[b]? = some (.cells #[.int .i64 d.a, .int .u64 d.b, .int .i64 d.c] 33 (0, 0))
theorem DBox.c {w : World} {b : Nat} {d : Dd} (h : DBox w b d) : w.cell? ⟨b, 0, none⟩ = some (.int .i64 d.a) ∧ w.cell? ⟨b, 1, none⟩ = some (.int .u64 d.b) ∧ w.cell? ⟨b, 2, none⟩ = some (.int .i64 d.c) :=
  ⟨by rw [cell_of_row w b 0 _ _ _ h]; rfl, by rw [cell_of_row w b 1 _ _ _ h]; rfl, by rw [cell_of_row w b 2 _ _ _ h]; rfl⟩
theorem DBox.only {w w' : World} {b : Nat} {d : Dd} {S : List Nat} (h : DBox w b d) (ho : Only S w w') (hS : b ∉ S) : DBox w' b d := ho.get h hS
theorem DBox.new (w : World) (d : Dd) : DBox (w.alloc (.cells #[.int .i64 d.a, .int .u64 d.b, .int .i64 d.c] 33)) w.heap.size d := heap_alloc_new w _
theorem DBox.lt {w : World} {b : Nat} {d : Dd} (h : DBox w b d) : b < w.heap.size := (Array.getElem?_eq_some_iff.1 h).1
end Go.Proofs.Ytppkbokjnocoeaa
