/-
  A wheel of a walk beside the row that All told of it.
-/
import Derived.Test.YtlokeennplhflaaDoorWheelT3
import Derived.Deep.DeepCutAuto
namespace Go.Proofs.YtlokeennplhflaaDoor
open Go.RowKit Go.ChangeMaps Go.MapKept
set_option linter.unusedVariables false
set_option linter.unusedSimpArgs false

/-- A wheel made within the walk that began in w, and a row beside it that tells its items. -/
structure Alone (w wr : World) (wb : Nat) (S : List Nat) (wd : Nat) (base : Int) (l : List It) (v : Value) : Prop where
  ours : WheelOf wr wb S wd base l
  newS : ∀ b ∈ S, w.heap.size ≤ b
  only : Only [] w wr
  row : RowIs wr v l
  off : ∀ k, v.ownBlock = some k → k ∉ S
section
variable {w wr : World} {wb wd : Nat} {S : List Nat} {base : Int} {l : List It} {v : Value}
theorem Alone.only0 {w2 : World} (h : Alone w wr wb S wd base l v) (ho : Only [] wr w2) : Alone w w2 wb S wd base l v :=
  ⟨h.ours.only0 ho, h.newS, h.only.trans' ho, h.row.keep (fun g hg => ho.block g (h.row.lt hg) (by simp)), h.off⟩
theorem Sound.alone {xb : Nat} {T : List Nat} {u1 : World} (h : Sound w wr wb S xb T wd base l) (o : Only [] wr u1) (hr : RowIs u1 v l) (hv : ∀ k, v.ownBlock = some k → wr.heap.size ≤ k) : Alone w u1 wb S wd base l v :=
  ⟨h.pair.ours.only0 o, h.newS, h.only.trans' o, hr, fun k hk hc => by
    have h1 := hv k hk
    have h2 := h.pair.ours.lt k hc
    omega⟩
theorem Alone.moved {w2 : World} {S2 : List Nat} {b2 : Int} (h : Alone w wr wb S wd base l v) (h2 : WheelOf w2 wb S2 wd b2 l) (hm : Moved wr S w2 S2) : Alone w w2 wb S2 wd b2 l v := by
  refine ⟨h2, fun b hb => ?_, ?_, ?_, fun k hk hc => ?_⟩
  · rcases hm.2 b hb with h9 | h9
    · exact h.newS b h9
    · exact Nat.le_trans h.only.size h9
  · exact h.only.trans hm.1 fun k hk => .inr (h.newS k hk)
  · exact h.row.keep fun g hg => hm.1.block g (h.row.lt hg) (h.off g hg)
  · rcases hm.2 k hc with h9 | h9
    · exact h.off k hk h9
    · have := h.row.lt hk; omega
theorem Alone.tab (h : Alone w wr wb S wd base l v) (hT : Tab w) : Tab wr := hT.only0 h.only
theorem Alone.no (h : Alone w wr wb S wd base l v) (hT : Tab w) (tt : Int) (t0 : 0 ≤ tt) (t1 : tt ≤ 18446744073709551615) (hg : mayGo base l tt = false) :
    Calls Tryd.prog 29 #[.pointer (some ⟨wb, 0, none⟩), .int .u64 tt] wr fun e w' => e = .returned (.bool false) ∧ ∃ S2, Alone w w' wb S2 wd base l v := by
  have := wMove wr wb S wd base l h.ours (h.tab hT) tt t0 t1
  rw [hg] at this
  refine this.mono ?_
  rintro e w2 ⟨rfl, S2, h2, hm⟩
  exact ⟨rfl, S2, h.moved h2 hm⟩
theorem Alone.yes (h : Alone w wr wb S wd base l v) (hT : Tab w) (tt : Int) (t0 : 0 ≤ tt) (t1 : tt ≤ 18446744073709551615) (hg : mayGo base l tt = true) :
    Calls Tryd.prog 29 #[.pointer (some ⟨wb, 0, none⟩), .int .u64 tt] wr fun e w' => e = .returned (.bool true) ∧ ∃ S2, Alone w w' wb S2 wd tt l v := by
  have := wMove wr wb S wd base l h.ours (h.tab hT) tt t0 t1
  rw [hg] at this
  refine this.mono ?_
  rintro e w2 ⟨rfl, S2, h2, hm⟩
  exact ⟨rfl, S2, h.moved h2 hm⟩
theorem Alone.tells (h : Alone w wr wb S wd base l v) : Calls Tryd.prog 23 #[.pointer (some ⟨wb, 0, none⟩)] wr fun e w' => e = .returned (.int .u64 base) ∧ w' = wr := wBaseOf wr wb S wd base l h.ours
/-- All, and Plain of it and of the row. -/
theorem Alone.plain (h : Alone w wr wb S wd base l v) (hT : Tab w) :
    Calls Tryd.prog 26 #[.pointer (some ⟨wb, 0, none⟩)] wr fun e u1 => ∃ v1, e = .returned v1 ∧ Alone w u1 wb S wd base l v ∧ Calls Tryd.prog 25 #[v1, v] u1 fun e u2 => e = .returned (.bool true) ∧ Alone w u2 wb S wd base l v := by
  refine (wAll wr wb S wd base l h.ours (h.tab hT) fun W oW => wLenOf W wb S wd base l (h.ours.only0 oW)).mono ?_
  rintro e u1 ⟨A, cap, rfl, r2, v2, o2⟩
  have hs := h.ours.small
  refine ⟨_, rfl, h.only0 o2, (hPlain u1 _ _ l l r2 (h.only0 o2).row (by omega) (by omega)).mono ?_⟩
  rintro e u2 ⟨rfl, o3⟩
  exact ⟨by simp, h.only0 (o2.trans' o3)⟩
theorem Alone.first_in (h : Alone w wr wb S wd base l v) (h0 : 0 < l.length) : base ≤ (first l).k ∧ (first l).k ≤ 18446744073709551615 := by
  cases l with
  | nil => simp at h0
  | cons x r =>
    have h1 := (h.ours.lies.near x (by simp)).1
    have h2 := u64ok_to (h.ours.fit x (by simp)).1
    exact ⟨h1, h2.2⟩
theorem Alone.at_ (h : Alone w wr wb S wd base l v) (h0 : 0 < l.length) : ∃ g cap, v = .slice (some ⟨g, 0, none⟩) l.length cap ∧ wr.cell? ⟨g, 0, none⟩ = some (.int .u64 (first l).k) := by
  obtain ⟨g, cap, e, -, -, -, -, hc⟩ := h.row.at_ h0
  have := (hc 0 h0).1
  rw [← first_gOf h0] at this
  exact ⟨g, cap, e, by simpa using this⟩
theorem Alone.cell {g n cap : Nat} (h : Alone w wr wb S wd base l (.slice (some ⟨g, 0, none⟩) n cap)) (h0 : 0 < l.length) {k : Int} (hk : (first l).k = k) : wr.cell? ⟨g, 0, none⟩ = some (.int .u64 k) := by
  obtain ⟨g', cap', e, hc⟩ := h.at_ h0
  cases e
  rw [← hk]
  exact hc
theorem mayGo_yes {base tt : Int} {l : List It} (h1 : base ≤ tt) (h2 : tt ≤ (first l).k) : mayGo base l tt = true := by
  unfold mayGo
  simp [h1, h2]
theorem mayGo_no {base tt : Int} {l : List It} (h0 : 0 < l.length) (h : tt < base ∨ (first l).k < tt) : mayGo base l tt = false := by
  unfold mayGo
  have e : l.isEmpty = false := by cases l with
    | nil => simp at h0
    | cons x r => rfl
  rw [e]
  rcases h with h | h
  · simp; omega
  · simp; omega
theorem mayGo_nil (base tt : Int) : mayGo base [] tt = decide (base ≤ tt) := by unfold mayGo; simp
end
end Go.Proofs.YtlokeennplhflaaDoor
