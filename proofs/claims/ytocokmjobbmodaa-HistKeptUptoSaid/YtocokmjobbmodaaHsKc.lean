/-
  Spoil of packets, of calls.
-/
import Derived.Test.YtocokmjobbmodaaHsK
namespace Go.Proofs.Ytocokmjobbmodaa
set_option maxRecDepth 100000
open Go.RowKit
set_option linter.unusedVariables false
set_option linter.unusedSimpArgs false
set_option maxRecDepth 100000

set_option maxHeartbeats 2000000
theorem Wr.setCell {B : Nat} {w : World} {A : Option Addr} {m : Nat} (h : Wr B w A m) (ad : Addr) (u : Value) : Wr B (w.setCell ad u) A m := fun h0 => by
  obtain ⟨g, e, hB, hc⟩ := h h0
  refine ⟨g, e, hB, fun j hj => ⟨?_, by rw [World.frozen?_setCell]; exact (hc j hj).2⟩⟩
  by_cases he : ad = ⟨g, j, none⟩
  · subst he
    rw [World.cell?_setCell_same' _ _ _ (hc j hj).1]
    rfl
  · rw [World.cell?_setCell_other _ _ _ _ (fun h => he (by first | exact h | exact h.symm))]
    exact (hc j hj).1
/-- What Spoil of packets leaves. -/
structure SpP (A : Option Addr) (m : Nat) (w w' : World) : Prop where
  only : ∃ S, Only S w w' ∧ ∀ k ∈ S, A = some ⟨k, 0, none⟩ ∧ 0 < m
  wr : ∀ B A' m', Wr B w A' m' → Wr B w' A' m'
theorem SpP.refl (A : Option Addr) (m : Nat) (w : World) : SpP A m w w := ⟨⟨[], Only.refl [] w, by simp⟩, fun _ _ _ h => h⟩
theorem SpP.only0 {A : Option Addr} {m : Nat} {w w' w2 : World} (h : SpP A m w w') (ho : Only [] w' w2) : SpP A m w w2 := by
  obtain ⟨⟨S, o, hS⟩, h2⟩ := h
  exact ⟨⟨S, o.trans ho (fun k hk => by simp at hk), hS⟩, fun B A' m' hw => (h2 B A' m' hw).only0 ho⟩
theorem SpP.setCell {A : Option Addr} {m : Nat} {w w' : World} (h : SpP A m w w') {g : Nat} (hg : A = some ⟨g, 0, none⟩) (hm : 0 < m) (j : Nat) (u : Value) : SpP A m w (w'.setCell ⟨g, j, none⟩ u) := by
  obtain ⟨⟨S, o, hS⟩, h2⟩ := h
  refine ⟨⟨g :: S, (o.mono (T := g :: S) (fun k hk => .inl (by simp [hk]))).setCell (.inl (by simp)) u, fun k hk => ?_⟩, fun B A' m' hw => (h2 B A' m' hw).setCell _ _⟩
  rcases List.mem_cons.1 hk with rfl | hk
  · exact ⟨hg, hm⟩
  · exact hS k hk
theorem pSpoil (B : Nat) (A : Option Addr) (m c : Nat) (w : World) (hb : m ≤ 1048576) (h : Wr B w A m) :
    Calls Try.prog 29 #[.slice A m c] w fun e w' => e = .returned (.tuple #[]) ∧ SpP A m w w' := by
  have HB := Lib.hid (PkAt.box w ⟨0, 0, 0⟩)
  have OB : Hid (Only [] w (w.alloc (.cells #[.int .i64 0, .int .i64 0, .int .i64 0] 49))) := (Only.refl [] w).alloc _
  have HZ : Hid (w.heap.size < (w.alloc (.cells #[.int .i64 0, .int .i64 0, .int .i64 0] 49)).heap.size) := by show _ < _; simp
  have W0 := Lib.hid (h.only0 OB.out)
  have WL : Hid (0 < m → ∃ g, A = some ⟨g, 0, none⟩ ∧ g < w.heap.size) := fun h0 => by
    obtain ⟨g, e, _, hc⟩ := h h0
    obtain ⟨v, hv⟩ := Option.isSome_iff_exists.1 (hc 0 (by omega)).1
    exact ⟨g, e, World.block_lt_of_cell? _ _ hv⟩
  clear h
  dsimp only at HB
  go_enter Try.func29, Try.ntmps29
  go_upto_region 1 with fail
  generalize w.alloc (.cells #[.int .i64 0, .int .i64 0, .int .i64 0] 49) = V at *
  obtain ⟨bx, ebx⟩ : ∃ bx, w.heap.size = bx := ⟨_, rfl⟩
  rw [ebx] at HB HZ WL ⊢
  clear ebx
  go_wp2_with fail
  go_loopg [3] (m + 1) (fun gk si wr => ∃ p : Nat, si = .int .i64 (p : Int) ∧ p ≤ m ∧ m + 1 ≤ gk + p ∧ Hid (Wr B wr A m ∧ SpP A m V wr ∧ PkAt wr bx 0 ⟨0, 0, 0⟩))
  case atStart => exact ⟨0, rfl, by omega, by omega, W0.out, SpP.refl A m V, HB.out⟩
  case round =>
    obtain ⟨p, rfl, hp, hg, R⟩ := hrel
    by_cases hpl : p < m
    · have hpl' : (p : Int) < (m : Int) := by omega
      obtain ⟨g, rfl, hB, hc⟩ := R.out.1 (by omega)
      obtain ⟨g', eg, hlt⟩ := WL.out (by omega)
      injection eg with eg
      injection eg with eg
      subst eg
      have NE : Hid (g ≠ bx) := by show _ ≠ _; omega
      obtain ⟨x0, f0⟩ := hc (p * 3) (by omega)
      obtain ⟨x1, f1⟩ := hc (p * 3 + 1) (by omega)
      obtain ⟨x2, f2⟩ := hc (p * 3 + 2) (by omega)
      obtain ⟨u0, x0⟩ := Option.isSome_iff_exists.1 x0
      obtain ⟨u1, x1⟩ := Option.isSome_iff_exists.1 x1
      obtain ⟨u2, x2⟩ := Option.isSome_iff_exists.1 x2
      obtain ⟨y0, y1, y2⟩ := R.out.2.2
      simp only [Nat.zero_add] at y0 y1 y2
      clear hB hc hlt
      go_wp2_with fail
      go_roundg (m + 1 - (p + 1))
      case measure => omega
      case rel =>
        obtain ⟨r1, r2, r3⟩ := R.out
        have ne := NE.out
        refine ⟨p + 1, by simp, by omega, by omega, ((r1.setCell _ _).setCell _ _).setCell _ _, ((r2.setCell rfl (by omega) _ _).setCell rfl (by omega) _ _).setCell rfl (by omega) _ _, ?_⟩
        obtain ⟨y0, y1, y2⟩ := r3
        refine ⟨?_, ?_, ?_⟩ <;> (rw [World.cell?_setCell_other _ _ _ _ (by intro h; injection h with h; omega), World.cell?_setCell_other _ _ _ _ (by intro h; injection h with h; omega), World.cell?_setCell_other _ _ _ _ (by intro h; injection h with h; omega)]; assumption)
    · have hpl' : decide ((p : Int) < (m : Int)) = false := decide_eq_false (by omega)
      have hpl'' : ¬ ((p : Int) < (m : Int)) := by omega
      have F : Hid (SpP A m w wr) := by
        obtain ⟨⟨S, o, hS⟩, h2⟩ := R.out.2.1
        exact ⟨⟨S, (OB.out.mono (T := S) (fun k hk => by simp at hk)).trans o (fun k hk => .inl hk), hS⟩, fun B' A' m' hw => h2 B' A' m' (hw.only0 OB.out)⟩
      go_wp2_with fail
      go_end0
      exact ⟨rfl, F.out⟩
end Go.Proofs.Ytocokmjobbmodaa
