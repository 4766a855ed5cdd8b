/-
  A tournament in memory: its words, ours and the document's; sizeFor, Len, Node, better.
-/
import Derived.Test.YtjblafpbffkapaaTourM
import Derived.Test.YtjblafpbffkapaaWheelO
import Derived.Laws.OwnMore
import Derived.Deep.OwnRows
namespace Go.Proofs.Ytjblafpbffkapaa
set_option maxRecDepth 100000
open Go.RowKit Go.ChangeMaps Go.MapKept
set_option linter.unusedVariables false
set_option linter.unusedSimpArgs false

/-! ### blocks that hold just these cells -/
def Arr (w : World) (b : Nat) (e : TypeId) (vs : List Value) : Prop := w.heap[b]? = some (.cells vs.toArray e (0, 0))
section
variable {w w' : World} {b : Nat} {e : TypeId} {vs : List Value}
theorem Arr.lt (h : Arr w b e vs) : b < w.heap.size := (Array.getElem?_eq_some_iff.1 h).1
theorem Arr.cell (h : Arr w b e vs) (j : Nat) : w.cell? ⟨b, j, none⟩ = vs[j]? := by rw [cell_of_row w b j _ _ _ h]; simp
theorem Arr.fr (h : Arr w b e vs) (j : Nat) : w.frozen? ⟨b, j, none⟩ = false := frozen_of_row w b j _ e h
theorem Arr.only {S : List Nat} (h : Arr w b e vs) (ho : Only S w w') (hS : b ∉ S) : Arr w' b e vs := ho.get h hS
theorem Arr.only0 (h : Arr w b e vs) (ho : Only [] w w') : Arr w' b e vs := h.only ho (by simp)
theorem Arr.store (h : Arr w b e vs) (j : Nat) (u : Value) : Arr (w.setCell ⟨b, j, none⟩ u) b e (vs.set j u) := by
  have := heap_setCell_same w b j _ e u h
  simpa [Arr] using this
theorem Arr.apart (h : Arr w b e vs) {b' : Nat} (hne : b ≠ b') (j : Nat) (u : Value) : Arr (w.setCell ⟨b', j, none⟩ u) b e vs :=
  h.only (S := [b']) ((Only.refl [b'] w).setCell (by simp) u) (by simpa using hne)
theorem Arr.ne {b' : Nat} {e' : TypeId} {vs' : List Value} (h : Arr w b e vs) (h' : Arr w b' e' vs') (hne : e ≠ e') : b ≠ b' := by
  rintro rfl
  unfold Arr at h h'
  rw [h] at h'
  injection h' with h'
  injection h' with _ h'
  exact hne h'
theorem Arr.new (w : World) (e : TypeId) (vs : List Value) : Arr (w.alloc (.cells vs.toArray e)) w.heap.size e vs := heap_alloc_new w _
end
/-- The cells of rows of ints and of bools. -/
def ints (ns : List Int) : List Value := ns.map (Value.int .i64)
def bools (bs : List Bool) : List Value := bs.map Value.bool
theorem ints_at {ns : List Int} {k : Nat} (h : k < ns.length) : (ints ns)[k]? = some (.int .i64 (ndOf ns k)) := by simp [ints, ndOf, h]
theorem ints_set (ns : List Int) (k : Nat) (v : Int) : (ints ns).set k (.int .i64 v) = ints (ns.set k v) := by simp [ints]
theorem bools_at {bs : List Bool} {k : Nat} (h : k < bs.length) : (bools bs)[k]? = some (.bool (bOf bs k)) := by simp [bools, bOf, h]
theorem bools_set (bs : List Bool) (k : Nat) (v : Bool) : (bools bs).set k (.bool v) = bools (bs.set k v) := by simp [bools]

/-- Ours: its struct, its items, its nodes. -/
structure TourIs (w : World) (tb ib nb n : Nat) (xs : List It) (ns : List Int) : Prop where
  blk : Arr w tb 56 [.slice (some ⟨ib, 0, none⟩) n n, .slice (some ⟨nb, 0, none⟩) (2 * sz n) (2 * sz n)]
  items : Arr w ib 43 (flat xs)
  nodes : Arr w nb 3 (ints ns)
  len : xs.length = n
  nlen : ns.length = 2 * sz n
  n1 : 1 ≤ n
  n16 : n ≤ 16
section
variable {w w' : World} {tb ib nb n : Nat} {xs : List It} {ns : List Int}
theorem TourIs.c0 (h : TourIs w tb ib nb n xs ns) : w.cell? ⟨tb, 0, none⟩ = some (.slice (some ⟨ib, 0, none⟩) n n) := by rw [h.blk.cell]; rfl
theorem TourIs.c1 (h : TourIs w tb ib nb n xs ns) : w.cell? ⟨tb, 1, none⟩ = some (.slice (some ⟨nb, 0, none⟩) (2 * sz n) (2 * sz n)) := by rw [h.blk.cell]; rfl
theorem TourIs.it (h : TourIs w tb ib nb n xs ns) {k : Nat} (hk : k < n) : w.cell? ⟨ib, k * 2, none⟩ = some (.int .u64 (gOf xs k).k) ∧ w.cell? ⟨ib, k * 2 + 1, none⟩ = some (.int .i64 (gOf xs k).i) := by
  have := flat_key xs k (by rw [h.len]; exact hk)
  rw [h.items.cell, h.items.cell]
  exact this
theorem TourIs.nd (h : TourIs w tb ib nb n xs ns) {k : Nat} (hk : k < 2 * sz n) : w.cell? ⟨nb, k, none⟩ = some (.int .i64 (ndOf ns k)) := by
  rw [h.nodes.cell]; exact ints_at (by rw [h.nlen]; exact hk)
theorem TourIs.only {S : List Nat} (h : TourIs w tb ib nb n xs ns) (ho : Only S w w') (h1 : tb ∉ S) (h2 : ib ∉ S) (h3 : nb ∉ S) : TourIs w' tb ib nb n xs ns :=
  ⟨h.blk.only ho h1, h.items.only ho h2, h.nodes.only ho h3, h.len, h.nlen, h.n1, h.n16⟩
theorem TourIs.only0 (h : TourIs w tb ib nb n xs ns) (ho : Only [] w w') : TourIs w' tb ib nb n xs ns := h.only ho (by simp) (by simp) (by simp)
theorem TourIs.ne1 (h : TourIs w tb ib nb n xs ns) : tb ≠ ib := h.blk.ne h.items (by decide)
theorem TourIs.ne2 (h : TourIs w tb ib nb n xs ns) : tb ≠ nb := h.blk.ne h.nodes (by decide)
theorem TourIs.ne3 (h : TourIs w tb ib nb n xs ns) : ib ≠ nb := h.items.ne h.nodes (by decide)
theorem TourIs.szs (h : TourIs w tb ib nb n xs ns) : Sz (sz n) ∧ n ≤ sz n ∧ 1 ≤ sz n ∧ sz n ≤ 16 := ⟨sz_Sz n, sz_ge h.n16, (sz_Sz n).le.1, (sz_Sz n).le.2⟩
/-- A node stored. -/
theorem TourIs.setNode (h : TourIs w tb ib nb n xs ns) (k : Nat) (v : Int) : TourIs (w.setCell ⟨nb, k, none⟩ (.int .i64 v)) tb ib nb n xs (ns.set k v) := by
  refine ⟨h.blk.apart h.ne2 _ _, h.items.apart h.ne3 _ _, ?_, h.len, by simpa using h.nlen, h.n1, h.n16⟩
  have := h.nodes.store k (.int .i64 v)
  rw [ints_set] at this
  exact this
/-- An item stored. -/
theorem TourIs.setItem (h : TourIs w tb ib nb n xs ns) (k : Nat) (x : It) : TourIs ((w.setCell ⟨ib, k * 2, none⟩ (.int .u64 x.k)).setCell ⟨ib, k * 2 + 1, none⟩ (.int .i64 x.i)) tb ib nb n (xs.set k x) ns := by
  refine ⟨(h.blk.apart h.ne1 _ _).apart h.ne1 _ _, ?_, (h.nodes.apart h.ne3.symm _ _).apart h.ne3.symm _ _, by simpa using h.len, h.nlen, h.n1, h.n16⟩
  have := (h.items.store (k * 2) (.int .u64 x.k)).store (k * 2 + 1) (.int .i64 x.i)
  rw [← flat_set] at this
  exact this
end
/-- Ours, with what its leaves hold: hs tells which have an item, g which. -/
def TourOf (w : World) (tb ib nb n : Nat) (hs : Nat → Bool) (g : Nat → It) : Prop :=
  ∃ xs ns, TourIs w tb ib nb n xs ns ∧ Tree (sz n) n hs (gOf xs) (ndOf ns) ∧ ∀ i, i < n → hs i = true → gOf xs i = g i
section
variable {w w' : World} {tb ib nb n : Nat} {hs : Nat → Bool} {g : Nat → It}
theorem TourOf.only {S : List Nat} (h : TourOf w tb ib nb n hs g) (ho : Only S w w') (hS : ∀ b ∈ [tb, ib, nb], b ∉ S) : TourOf w' tb ib nb n hs g := by
  obtain ⟨xs, ns, h1, r⟩ := h
  exact ⟨xs, ns, h1.only ho (hS _ (by simp)) (hS _ (by simp)) (hS _ (by simp)), r⟩
theorem TourOf.only0 (h : TourOf w tb ib nb n hs g) (ho : Only [] w w') : TourOf w' tb ib nb n hs g := h.only ho (by simp)
theorem TourOf.lt (h : TourOf w tb ib nb n hs g) : ∀ b ∈ [tb, ib, nb], b < w.heap.size := by
  obtain ⟨xs, ns, h1, r⟩ := h
  intro b hb
  simp only [List.mem_cons, List.not_mem_nil, or_false] at hb
  rcases hb with rfl | rfl | rfl
  · exact h1.blk.lt
  · exact h1.items.lt
  · exact h1.nodes.lt
end

set_option maxRecDepth 100000 in
set_option maxHeartbeats 400000 in
theorem tSizeFor (n : Nat) (hn : n ≤ 16) (w : World) : Calls Try.prog 27 #[.int .i64 (n : Int)] w fun e w' => e = .returned (.int .i64 ((sz n : Nat) : Int)) ∧ w' = w := by
  go_enter Try.func27, Try.ntmps27
  go_wp2_with fail
  go_loopg [3] 17 (fun gk si wr => ∃ p : Nat, si = .int .i64 (p : Int) ∧ p ≤ 16 ∧ 17 ≤ gk + p ∧ 1 ≤ p ∧ Hid (Sz p ∧ p ≤ sz n) ∧ wr = w)
  case atStart => exact ⟨1, rfl, by omega, by omega, by omega, ⟨by simp [Sz], (sz_Sz n).le.1⟩, rfl⟩
  case round =>
    obtain ⟨p, rfl, hp, hg, hp1, HS, rfl⟩ := hrel
    by_cases hl : p < n
    · have hl' : (p : Int) < (n : Int) := by omega
      have hm := sz_more hn HS.out.1 HS.out.2 hl
      have h2p : 2 * p ≤ 16 := hm.1.le.2
      have HM := Lib.hid hm
      clear hm hl
      go_wp2_with fail
      go_roundg (17 - 2 * p)
      case measure => omega
      case rel => exact ⟨2 * p, by simp; omega, h2p, by omega, by omega, HM.out, rfl⟩
    · have hl' : decide ((p : Int) < (n : Int)) = false := decide_eq_false (by omega)
      have he := Lib.hid (sz_done hn HS.out.1 HS.out.2 hl)
      have hl3 : ¬ ((p : Int) < (n : Int)) := by omega
      clear hl
      go_wp2_with fail
      go_ret
      have he2 := he.out
      refine ⟨?_, rfl⟩
      rw [← he2]
      rfl

theorem tLenIs (w : World) (tb ib nb n : Nat) (xs : List It) (ns : List Int) (h : TourIs w tb ib nb n xs ns) : Calls Try.prog 11 #[.pointer (some ⟨tb, 0, none⟩)] w fun e w' => e = .returned (.int .i64 (n : Int)) ∧ w' = w := by
  have c0 := h.c0
  have hn := h.n16
  clear h
  go_enter Try.func11, Try.ntmps11
  go_wp2
  go_ret
  exact ⟨rfl, rfl⟩
theorem tLen (w : World) (tb ib nb n : Nat) (hs : Nat → Bool) (g : Nat → It) (h : TourOf w tb ib nb n hs g) : Calls Try.prog 11 #[.pointer (some ⟨tb, 0, none⟩)] w fun e w' => e = .returned (.int .i64 (n : Int)) ∧ w' = w := by
  obtain ⟨xs, ns, h1, _⟩ := h
  exact tLenIs w tb ib nb n xs ns h1

/-- What Node tells. -/
def nodeM (n : Nat) (hs : Nat → Bool) (g : Nat → It) (k : Int) : Int := if 1 ≤ k ∧ k < 2 * (sz n : Int) then refBest (fun i => hs i && under (sz n) k.toNat i) g n else -1
theorem TourOf.told {w : World} {tb ib nb n : Nat} {hs : Nat → Bool} {g : Nat → It} {xs : List It} {ns : List Int} (h : TourIs w tb ib nb n xs ns) (ht : Tree (sz n) n hs (gOf xs) (ndOf ns)) (hg : ∀ i, i < n → hs i = true → gOf xs i = g i) {k : Nat} (h1 : 1 ≤ k) (h2 : k < 2 * sz n) :
    ndOf ns k = refBest (fun i => hs i && under (sz n) k i) g n := by
  rw [ht.told h.szs.1 h.szs.2.1 h1 h2]
  exact refBest_congr (fun i hi hp => hg i hi (by simp at hp; exact hp.1))
set_option maxRecDepth 100000 in
set_option maxHeartbeats 400000 in
theorem tNode (w : World) (tb ib nb n : Nat) (hs : Nat → Bool) (g : Nat → It) (h : TourOf w tb ib nb n hs g) (k : Int) (hk : i64ok k) : Calls Try.prog 14 #[.pointer (some ⟨tb, 0, none⟩), .int .i64 k] w fun e w' => e = .returned (.int .i64 (nodeM n hs g k)) ∧ w' = w := by
  obtain ⟨xs, ns, h, ht, hg⟩ := h
  have c1 := h.c1
  obtain ⟨-, -, hs1, hs16⟩ := h.szs
  by_cases h1 : k < 1
  · have e : nodeM n hs g k = -1 := by unfold nodeM; rw [if_neg (by omega)]
    rw [e]
    clear e ht hg h
    go_enter Try.func14, Try.ntmps14
    go_wp2
    go_ret
    exact ⟨rfl, rfl⟩
  · obtain ⟨q, rfl⟩ : ∃ q : Nat, k = q := ⟨k.toNat, by omega⟩
    have hq1 : 1 ≤ q := by omega
    have h1' : decide ((q : Int) < 1) = false := decide_eq_false (by omega)
    by_cases h2 : q < 2 * sz n
    · have hn := h.nd h2
      have e : ndOf ns q = nodeM n hs g (q : Int) := by
        unfold nodeM
        rw [if_pos (by omega), Int.toNat_natCast]
        exact TourOf.told h ht hg hq1 h2
      rw [e] at hn
      clear e ht hg h
      generalize nodeM n hs g (q : Int) = r at *
      generalize sz n = s at *
      have h2' : (q : Int) < 2 * (s : Int) := by omega
      have h2'' : ¬ (2 * (s : Int) ≤ (q : Int)) := by omega
      go_enter Try.func14, Try.ntmps14
      go_wp2
      go_ret
      exact ⟨rfl, rfl⟩
    · have e : nodeM n hs g (q : Int) = -1 := by unfold nodeM; rw [if_neg (by omega)]
      rw [e]
      clear e ht hg h
      generalize sz n = s at *
      have h2'' : (2 * (s : Int) ≤ (q : Int)) := by omega
      go_enter Try.func14, Try.ntmps14
      go_wp2
      go_ret
      exact ⟨rfl, rfl⟩

set_option maxRecDepth 100000 in
set_option maxHeartbeats 1000000 in
theorem tBetter (w : World) (tb ib nb n : Nat) (xs : List It) (ns : List Int) (h : TourIs w tb ib nb n xs ns) (a b : Int) (ha : a = -1 ∨ ∃ i : Nat, i < n ∧ a = i) (hb : b = -1 ∨ ∃ i : Nat, i < n ∧ b = i) :
    Calls Try.prog 29 #[.pointer (some ⟨tb, 0, none⟩), .int .i64 a, .int .i64 b] w fun e w' => e = .returned (.int .i64 (bet (gOf xs) a b)) ∧ Only [] w w' := by
  rcases ha with rfl | ⟨i, hi, rfl⟩
  · have e : bet (gOf xs) (-1) b = b := by simp [bet]
    rw [e]
    clear e h hb
    go_enter Try.func29, Try.ntmps29
    go_wp2_with fail
    go_quiet (fail)
    go_wp2_with fail
    go_ret
    exact ⟨rfl, (Only.refl _ _).drewN _⟩
  · have t1 : ((i : Int) == -1) = false := by simp
    rcases hb with rfl | ⟨j, hj, rfl⟩
    · have e : bet (gOf xs) (i : Int) (-1) = i := by simp [bet]
      rw [e]
      clear e h
      go_enter Try.func29, Try.ntmps29
      go_wp2_with fail
      go_quiet (fail)
      go_wp2_with fail
      go_ret
      exact ⟨rfl, (Only.refl _ _).drewN _⟩
    · have t2 : ((j : Int) != -1) = true := by simp
      have c0 := h.c0
      obtain ⟨i0, i1⟩ := h.it hi
      obtain ⟨j0, j1⟩ := h.it hj
      have hi' : (i : Int) < (n : Int) := by omega
      have hj' : (j : Int) < (n : Int) := by omega
      obtain ⟨y, ey⟩ : ∃ y, gOf xs i = y := ⟨_, rfl⟩
      obtain ⟨x, ex⟩ : ∃ x, gOf xs j = x := ⟨_, rfl⟩
      have e : bet (gOf xs) (i : Int) (j : Int) = if x.lt y = true then (j : Int) else (i : Int) := by
        unfold bet
        rw [Int.toNat_natCast, Int.toNat_natCast, ex, ey]
        rcases hl : x.lt y with _ | _
        · rw [if_neg (by rintro (h3 | h3); omega; exact absurd h3.2 (by simp)), if_neg (by simp)]
        · rw [if_pos (.inr ⟨by omega, rfl⟩), if_pos rfl]
      rw [e]
      rw [ey] at i0 i1
      rw [ex] at j0 j1
      clear e ex ey h
      have hah := ahead_only x y
      rcases hl : x.lt y with _ | _
      all_goals
        rw [hl] at hah
        clear hl
        go_enter Try.func29, Try.ntmps29
        go_wp2_with fail
        go_still_tail 20, (by kernel_rfl)
        change wpList _ _ _ _ _ w.drew
        go_wp2_with (go_at_call 30; refine (hah _).mono ?_; rintro e w' ⟨rfl, ho⟩)
        go_ret
        exact ⟨rfl, (Only.refl _ _).drew.trans' ho⟩
end Go.Proofs.Ytjblafpbffkapaa
