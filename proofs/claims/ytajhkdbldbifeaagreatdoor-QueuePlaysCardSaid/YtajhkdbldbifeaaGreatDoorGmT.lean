/-
  A tournament in memory: its words, ours and the document's; sizeFor, Len, Node, better.
  Contracts of replay, put, Set and Unset.
  Contracts of put, Set and Unset.
  Contracts of New and Win.
  Contracts of the document's Tour: Leaf, Node.
  Contracts of New, ours and the document's.
-/
import Derived.Test.YtajhkdbldbifeaaGreatDoorGmM
import Derived.Test.YtajhkdbldbifeaaGreatDoorGmI
import Derived.Laws.OwnMore
import Derived.Deep.OwnRows
import Derived.IntWalk
namespace Go.Proofs.YtajhkdbldbifeaaGreatDoor
set_option maxRecDepth 100000
open Go.RowKit Go.ChangeMaps Go.MapKept
set_option linter.unusedVariables false
set_option linter.unusedSimpArgs false

/-! ### blocks that hold just these cells -/
def Arr (w : World) (b : Nat) (e : TypeId) (vs : List Value) : Prop := w.heap[b]? = some (.cells vs.toArray e (0, 0))
section
variable {w w' : World} {b : Nat} {e : TypeId} {vs : List Value}
theorem Arr.lt (h : Arr w b e vs) : b < w.heap.size := (Array.getElem?_eq_some_iff.1 h).1
theorem Arr.cell (h : Arr w b e vs) (j : Nat) : w.cell? ⟨b, j, none⟩ = vs[j]? := by rw [cell_of_row w b j _ _ _ h]; simp
theorem Arr.fr (h : Arr w b e vs) (j : Nat) : w.frozen? ⟨b, j, none⟩ = false := frozen_of_row w b j _ e h
theorem Arr.only {S : List Nat} (h : Arr w b e vs) (ho : Only S w w') (hS : b ∉ S) : Arr w' b e vs := ho.get h hS
theorem Arr.only0 (h : Arr w b e vs) (ho : Only [] w w') : Arr w' b e vs := h.only ho (by simp)
theorem Arr.store (h : Arr w b e vs) (j : Nat) (u : Value) : Arr (w.setCell ⟨b, j, none⟩ u) b e (vs.set j u) := by
  have := heap_setCell_same w b j _ e u h
  simpa [Arr] using this
theorem Arr.apart (h : Arr w b e vs) {b' : Nat} (hne : b ≠ b') (j : Nat) (u : Value) : Arr (w.setCell ⟨b', j, none⟩ u) b e vs :=
  h.only (S := [b']) ((Only.refl [b'] w).setCell (by simp) u) (by simpa using hne)
theorem Arr.ne {b' : Nat} {e' : TypeId} {vs' : List Value} (h : Arr w b e vs) (h' : Arr w b' e' vs') (hne : e ≠ e') : b ≠ b' := by
  rintro rfl
  unfold Arr at h h'
  rw [h] at h'
  injection h' with h'
  injection h' with _ h'
  exact hne h'
theorem Arr.new (w : World) (e : TypeId) (vs : List Value) : Arr (w.alloc (.cells vs.toArray e)) w.heap.size e vs := heap_alloc_new w _
end
/-- The cells of rows of ints and of bools. -/
def ints (ns : List Int) : List Value := ns.map (Value.int .i64)
def bools (bs : List Bool) : List Value := bs.map Value.bool
theorem ints_at {ns : List Int} {k : Nat} (h : k < ns.length) : (ints ns)[k]? = some (.int .i64 (ndOf ns k)) := by simp [ints, ndOf, h]
theorem ints_set (ns : List Int) (k : Nat) (v : Int) : (ints ns).set k (.int .i64 v) = ints (ns.set k v) := by simp [ints]
theorem bools_at {bs : List Bool} {k : Nat} (h : k < bs.length) : (bools bs)[k]? = some (.bool (bOf bs k)) := by simp [bools, bOf, h]
theorem bools_set (bs : List Bool) (k : Nat) (v : Bool) : (bools bs).set k (.bool v) = bools (bs.set k v) := by simp [bools]

/-- Ours: its struct, its items, its nodes. -/
structure TourIs (w : World) (tb ib nb n : Nat) (xs : List It) (ns : List Int) : Prop where
  blk : Arr w tb 95 [.slice (some ⟨ib, 0, none⟩) n n, .slice (some ⟨nb, 0, none⟩) (2 * sz n) (2 * sz n)]
  items : Arr w ib 40 (flat xs)
  nodes : Arr w nb 3 (ints ns)
  len : xs.length = n
  nlen : ns.length = 2 * sz n
  n1 : 1 ≤ n
  n16 : n ≤ 16
section
variable {w w' : World} {tb ib nb n : Nat} {xs : List It} {ns : List Int}
theorem TourIs.c0 (h : TourIs w tb ib nb n xs ns) : w.cell? ⟨tb, 0, none⟩ = some (.slice (some ⟨ib, 0, none⟩) n n) := by rw [h.blk.cell]; rfl
theorem TourIs.c1 (h : TourIs w tb ib nb n xs ns) : w.cell? ⟨tb, 1, none⟩ = some (.slice (some ⟨nb, 0, none⟩) (2 * sz n) (2 * sz n)) := by rw [h.blk.cell]; rfl
theorem TourIs.it (h : TourIs w tb ib nb n xs ns) {k : Nat} (hk : k < n) : w.cell? ⟨ib, k * 2, none⟩ = some (.int .u64 (gOf xs k).k) ∧ w.cell? ⟨ib, k * 2 + 1, none⟩ = some (.int .i64 (gOf xs k).i) := by
  have := flat_key xs k (by rw [h.len]; exact hk)
  rw [h.items.cell, h.items.cell]
  exact this
theorem TourIs.nd (h : TourIs w tb ib nb n xs ns) {k : Nat} (hk : k < 2 * sz n) : w.cell? ⟨nb, k, none⟩ = some (.int .i64 (ndOf ns k)) := by
  rw [h.nodes.cell]; exact ints_at (by rw [h.nlen]; exact hk)
theorem TourIs.only {S : List Nat} (h : TourIs w tb ib nb n xs ns) (ho : Only S w w') (h1 : tb ∉ S) (h2 : ib ∉ S) (h3 : nb ∉ S) : TourIs w' tb ib nb n xs ns :=
  ⟨h.blk.only ho h1, h.items.only ho h2, h.nodes.only ho h3, h.len, h.nlen, h.n1, h.n16⟩
theorem TourIs.only0 (h : TourIs w tb ib nb n xs ns) (ho : Only [] w w') : TourIs w' tb ib nb n xs ns := h.only ho (by simp) (by simp) (by simp)
theorem TourIs.ne1 (h : TourIs w tb ib nb n xs ns) : tb ≠ ib := h.blk.ne h.items (by decide)
theorem TourIs.ne2 (h : TourIs w tb ib nb n xs ns) : tb ≠ nb := h.blk.ne h.nodes (by decide)
theorem TourIs.ne3 (h : TourIs w tb ib nb n xs ns) : ib ≠ nb := h.items.ne h.nodes (by decide)
theorem TourIs.szs (h : TourIs w tb ib nb n xs ns) : Sz (sz n) ∧ n ≤ sz n ∧ 1 ≤ sz n ∧ sz n ≤ 16 := ⟨sz_Sz n, sz_ge h.n16, (sz_Sz n).le.1, (sz_Sz n).le.2⟩
/-- A node stored. -/
theorem TourIs.setNode (h : TourIs w tb ib nb n xs ns) (k : Nat) (v : Int) : TourIs (w.setCell ⟨nb, k, none⟩ (.int .i64 v)) tb ib nb n xs (ns.set k v) := by
  refine ⟨h.blk.apart h.ne2 _ _, h.items.apart h.ne3 _ _, ?_, h.len, by simpa using h.nlen, h.n1, h.n16⟩
  have := h.nodes.store k (.int .i64 v)
  rw [ints_set] at this
  exact this
/-- An item stored. -/
theorem TourIs.setItem (h : TourIs w tb ib nb n xs ns) (k : Nat) (x : It) : TourIs ((w.setCell ⟨ib, k * 2, none⟩ (.int .u64 x.k)).setCell ⟨ib, k * 2 + 1, none⟩ (.int .i64 x.i)) tb ib nb n (xs.set k x) ns := by
  refine ⟨(h.blk.apart h.ne1 _ _).apart h.ne1 _ _, ?_, (h.nodes.apart h.ne3.symm _ _).apart h.ne3.symm _ _, by simpa using h.len, h.nlen, h.n1, h.n16⟩
  have := (h.items.store (k * 2) (.int .u64 x.k)).store (k * 2 + 1) (.int .i64 x.i)
  rw [← flat_set] at this
  exact this
end
/-- Ours, with what its leaves hold: hs tells which have an item, g which. -/
def TourOf (w : World) (tb ib nb n : Nat) (hs : Nat → Bool) (g : Nat → It) : Prop :=
  ∃ xs ns, TourIs w tb ib nb n xs ns ∧ Tree (sz n) n hs (gOf xs) (ndOf ns) ∧ ∀ i, i < n → hs i = true → gOf xs i = g i
section
variable {w w' : World} {tb ib nb n : Nat} {hs : Nat → Bool} {g : Nat → It}
theorem TourOf.only {S : List Nat} (h : TourOf w tb ib nb n hs g) (ho : Only S w w') (hS : ∀ b ∈ [tb, ib, nb], b ∉ S) : TourOf w' tb ib nb n hs g := by
  obtain ⟨xs, ns, h1, r⟩ := h
  exact ⟨xs, ns, h1.only ho (hS _ (by simp)) (hS _ (by simp)) (hS _ (by simp)), r⟩
theorem TourOf.only0 (h : TourOf w tb ib nb n hs g) (ho : Only [] w w') : TourOf w' tb ib nb n hs g := h.only ho (by simp)
theorem TourOf.lt (h : TourOf w tb ib nb n hs g) : ∀ b ∈ [tb, ib, nb], b < w.heap.size := by
  obtain ⟨xs, ns, h1, r⟩ := h
  intro b hb
  simp only [List.mem_cons, List.not_mem_nil, or_false] at hb
  rcases hb with rfl | rfl | rfl
  · exact h1.blk.lt
  · exact h1.items.lt
  · exact h1.nodes.lt
end

set_option maxRecDepth 100000 in
set_option maxHeartbeats 400000 in
theorem tSizeFor (n : Nat) (hn : n ≤ 16) (w : World) : Calls Tryz.prog 69 #[.int .i64 (n : Int)] w fun e w' => e = .returned (.int .i64 ((sz n : Nat) : Int)) ∧ w' = w := by
  go_enter Tryz.func69, Tryz.ntmps69
  go_wp2_with fail
  go_loopg [3] 17 (fun gk si wr => ∃ p : Nat, si = .int .i64 (p : Int) ∧ p ≤ 16 ∧ 17 ≤ gk + p ∧ 1 ≤ p ∧ Hid (Sz p ∧ p ≤ sz n) ∧ wr = w)
  case atStart => exact ⟨1, rfl, by omega, by omega, by omega, ⟨by simp [Sz], (sz_Sz n).le.1⟩, rfl⟩
  case round =>
    obtain ⟨p, rfl, hp, hg, hp1, HS, rfl⟩ := hrel
    by_cases hl : p < n
    · have hl' : (p : Int) < (n : Int) := by omega
      have hm := sz_more hn HS.out.1 HS.out.2 hl
      have h2p : 2 * p ≤ 16 := hm.1.le.2
      have HM := Lib.hid hm
      clear hm hl
      go_wp2_with fail
      go_roundg (17 - 2 * p)
      case measure => omega
      case rel => exact ⟨2 * p, by simp; omega, h2p, by omega, by omega, HM.out, rfl⟩
    · have hl' : decide ((p : Int) < (n : Int)) = false := decide_eq_false (by omega)
      have he := Lib.hid (sz_done hn HS.out.1 HS.out.2 hl)
      have hl3 : ¬ ((p : Int) < (n : Int)) := by omega
      clear hl
      go_wp2_with fail
      go_ret
      have he2 := he.out
      refine ⟨?_, rfl⟩
      rw [← he2]
      rfl

/-- What Node tells. -/
def nodeM (n : Nat) (hs : Nat → Bool) (g : Nat → It) (k : Int) : Int := if 1 ≤ k ∧ k < 2 * (sz n : Int) then refBest (fun i => hs i && under (sz n) k.toNat i) g n else -1
theorem TourOf.told {w : World} {tb ib nb n : Nat} {hs : Nat → Bool} {g : Nat → It} {xs : List It} {ns : List Int} (h : TourIs w tb ib nb n xs ns) (ht : Tree (sz n) n hs (gOf xs) (ndOf ns)) (hg : ∀ i, i < n → hs i = true → gOf xs i = g i) {k : Nat} (h1 : 1 ≤ k) (h2 : k < 2 * sz n) :
    ndOf ns k = refBest (fun i => hs i && under (sz n) k i) g n := by
  rw [ht.told h.szs.1 h.szs.2.1 h1 h2]
  exact refBest_congr (fun i hi hp => hg i hi (by simp at hp; exact hp.1))
set_option maxRecDepth 100000 in
set_option maxHeartbeats 1000000 in
theorem tBetter (w : World) (tb ib nb n : Nat) (xs : List It) (ns : List Int) (h : TourIs w tb ib nb n xs ns) (a b : Int) (ha : a = -1 ∨ ∃ i : Nat, i < n ∧ a = i) (hb : b = -1 ∨ ∃ i : Nat, i < n ∧ b = i) :
    Calls Tryz.prog 134 #[.pointer (some ⟨tb, 0, none⟩), .int .i64 a, .int .i64 b] w fun e w' => e = .returned (.int .i64 (bet (gOf xs) a b)) ∧ Only [] w w' := by
  rcases ha with rfl | ⟨i, hi, rfl⟩
  · have e : bet (gOf xs) (-1) b = b := by simp [bet]
    rw [e]
    clear e h hb
    go_enter Tryz.func134, Tryz.ntmps134
    go_wp2_with fail
    go_quiet (fail)
    go_wp2_with fail
    go_ret
    exact ⟨rfl, (Only.refl _ _).drewN _⟩
  · have t1 : ((i : Int) == -1) = false := by simp
    rcases hb with rfl | ⟨j, hj, rfl⟩
    · have e : bet (gOf xs) (i : Int) (-1) = i := by simp [bet]
      rw [e]
      clear e h
      go_enter Tryz.func134, Tryz.ntmps134
      go_wp2_with fail
      go_quiet (fail)
      go_wp2_with fail
      go_ret
      exact ⟨rfl, (Only.refl _ _).drewN _⟩
    · have t2 : ((j : Int) != -1) = true := by simp
      have c0 := h.c0
      obtain ⟨i0, i1⟩ := h.it hi
      obtain ⟨j0, j1⟩ := h.it hj
      have hi' : (i : Int) < (n : Int) := by omega
      have hj' : (j : Int) < (n : Int) := by omega
      obtain ⟨y, ey⟩ : ∃ y, gOf xs i = y := ⟨_, rfl⟩
      obtain ⟨x, ex⟩ : ∃ x, gOf xs j = x := ⟨_, rfl⟩
      have e : bet (gOf xs) (i : Int) (j : Int) = if x.lt y = true then (j : Int) else (i : Int) := by
        unfold bet
        rw [Int.toNat_natCast, Int.toNat_natCast, ex, ey]
        rcases hl : x.lt y with _ | _
        · rw [if_neg (by rintro (h3 | h3); omega; exact absurd h3.2 (by simp)), if_neg (by simp)]
        · rw [if_pos (.inr ⟨by omega, rfl⟩), if_pos rfl]
      rw [e]
      rw [ey] at i0 i1
      rw [ex] at j0 j1
      clear e ex ey h
      have hah := ahead_only x y
      rcases hl : x.lt y with _ | _
      all_goals
        rw [hl] at hah
        clear hl
        go_enter Tryz.func134, Tryz.ntmps134
        go_wp2_with fail
        go_still_tail 20, (by kernel_rfl)
        change wpList _ _ _ _ _ w.drew
        go_wp2_with (go_at_call 110; refine (hah _).mono ?_; rintro e w' ⟨rfl, ho⟩)
        go_ret
        exact ⟨rfl, (Only.refl _ _).drew.trans' ho⟩
end Go.Proofs.YtajhkdbldbifeaaGreatDoor

namespace Go.Proofs.YtajhkdbldbifeaaGreatDoor
set_option maxRecDepth 100000
open Go.RowKit Go.ChangeMaps Go.MapKept
set_option linter.unusedVariables false
set_option linter.unusedSimpArgs false

theorem twice {k p r : Nat} (h : k ≤ 16) (hp : p = 2 * k) (hr : r = 2 * k + 1) : IntKind.i64.wrap (2 * (k : Int)) = (p : Int) ∧ IntKind.i64.wrap ((p : Int) + 1) = (r : Int) :=
  ⟨by rw [IntWalk.i64_in _ (by omega)]; omega, by rw [IntWalk.i64_in _ (by omega)]; omega⟩
theorem cell_past {w : World} {b b' j j' : Nat} {u v : Value} (h : w.cell? ⟨b, j, none⟩ = some v) (hne : b ≠ b' ∨ j ≠ j') : (w.setCell ⟨b', j', none⟩ u).cell? ⟨b, j, none⟩ = some v := by
  rw [World.cell?_setCell_other _ _ _ _ (by intro e; injection e with e1 e2; rcases hne with h3 | h3; exact h3 e1.symm; exact h3 e2.symm)]
  exact h

set_option maxRecDepth 100000 in
set_option maxHeartbeats 2000000 in
/-- replay: all nodes tell again who wins. -/
theorem tReplay (w : World) (tb ib nb n : Nat) (xs : List It) (ns : List Int) (hs : Nat → Bool) (h : TourIs w tb ib nb n xs ns) (q : Nat) (hq : q < 2 * sz n) (ht : TreeBut (sz n) n hs (gOf xs) (ndOf ns) (q / 2)) :
    Calls Tryz.prog 111 #[.pointer (some ⟨tb, 0, none⟩), .int .i64 (q : Int)] w fun e w' => e = .returned (.tuple #[]) ∧ ∃ ns', TourIs w' tb ib nb n xs ns' ∧ Tree (sz n) n hs (gOf xs) (ndOf ns') ∧ Only [nb] w w' := by
  obtain ⟨hsz, hns, hs1, hs16⟩ := h.szs
  have H0 : Hid (TourIs w tb ib nb n xs ns ∧ TreeBut (sz n) n hs (gOf xs) (ndOf ns) (q / 2) ∧ Only [nb] w w) := ⟨h, ht, Only.refl _ _⟩
  have HSZ := Lib.hid hsz
  clear h ht hsz
  generalize hS : sz n = s at *
  have ES := Lib.hid hS
  clear hS
  go_enter Tryz.func111, Tryz.ntmps111
  go_wp2_with fail
  go_loopg [1] s (fun gk si wr => ∃ (k : Nat) (ns' : List Int), si = .int .i64 (k : Int) ∧ k < s ∧ k ≤ gk ∧ Hid (TourIs wr tb ib nb n xs ns' ∧ TreeBut s n hs (gOf xs) (ndOf ns') k ∧ Only [nb] w wr))
  case atStart => exact ⟨q / 2, ns, by simp, by omega, by omega, H0⟩
  case round =>
    obtain ⟨k, ns', rfl, hk, hg, HT⟩ := hrel
    clear H0
    by_cases h1 : 1 ≤ k
    · obtain ⟨h, ht, ho⟩ := HT.out
      have c1 := h.c1
      rw [ES.out] at c1
      have htn := h.ne2
      obtain ⟨p, ep⟩ : ∃ p, p = 2 * k := ⟨_, rfl⟩
      obtain ⟨r, er⟩ : ∃ r, r = 2 * k + 1 := ⟨_, rfl⟩
      obtain ⟨m, em⟩ : ∃ m, m = 2 * s := ⟨_, rfl⟩
      rw [← em] at c1
      have e2 := h.nd (k := 2 * k) (by rw [ES.out]; omega)
      have e3 := h.nd (k := 2 * k + 1) (by rw [ES.out]; omega)
      have f2 := ht.fit (2 * k) (by omega)
      have f3 := ht.fit (2 * k + 1) (by omega)
      have hn1 : ∀ v : Int, TourIs _ tb ib nb n xs (ns'.set k v) := fun v => h.setNode k v
      have hup := ht.up1 HSZ.out h1 hk
      rw [← ndOf_set ns' k _ (by rw [h.nlen, ES.out]; omega)] at hup
      obtain ⟨a, ea⟩ : ∃ a, ndOf ns' (2 * k) = a := ⟨_, rfl⟩
      obtain ⟨c, ec⟩ : ∃ c, ndOf ns' (2 * k + 1) = c := ⟨_, rfl⟩
      rw [ea] at e2 f2 hup
      rw [ec] at e3 f3 hup
      have hbe := tBetter wr.drew tb ib nb n xs ns' (h.only0 (Only.refl [] wr).drew) a c f2 f3
      obtain ⟨v, ev⟩ : ∃ v, bet (gOf xs) a c = v := ⟨_, rfl⟩
      rw [ev] at hbe hup
      have HB := Lib.hid hbe
      have HU := Lib.hid hup
      obtain ⟨t1, t2⟩ := twice (by omega) ep er
      have b1 : (k : Int) < (m : Int) := by omega
      have b2 : (p : Int) < (m : Int) := by omega
      have b3 : (r : Int) < (m : Int) := by omega
      have b4 : (1 : Int) ≤ (k : Int) := by omega
      have hpk : p ≠ k := by omega
      have hrk : r ≠ k := by omega
      rw [← ep] at e2
      rw [← er] at e3
      clear h ht ho hn1 hup hbe f2 f3 ea ec ev ep er em
      go_wp2_with fail
      go_region_held3 (fun w' => w'.cell? ⟨tb, 1, none⟩ = some (.slice (some ⟨nb, 0, none⟩) m m) ∧ w'.cell? ⟨nb, p, none⟩ = some (.int .i64 a) ∧ w'.cell? ⟨nb, r, none⟩ = some (.int .i64 c))
        (first | go_keep | (exact ⟨k0, k1, k2⟩) | (exact ⟨cell_past k0 (.inl htn), cell_past k1 (.inr hpk), cell_past k2 (.inr hrk)⟩))
        ((go_at_call 134; refine HB.out.mono ?_; rintro e u1 ⟨rfl, o2⟩; have k0 := o2.stay (p := ⟨tb, 1, none⟩) (v := .slice (some ⟨nb, 0, none⟩) m m) (by exact c1); have k1 := o2.stay (p := ⟨nb, p, none⟩) (v := .int .i64 a) (by exact e2); have k2 := o2.stay (p := ⟨nb, r, none⟩) (v := .int .i64 c) (by exact e3); have hh := HT.out.1.only0 ((Only.refl [] wr).drew.trans' o2); have fr := hh.nodes.fr k; have e4 := hh.nd (k := k) (by rw [ES.out]; omega); have O2 := Lib.hid (And.intro hh ((Only.refl [] wr).drew.trans' o2)); clear hh o2))
      go_wp2_with fail
      go_roundg (k / 2)
      case measure => omega
      case rel => exact ⟨k / 2, ns'.set k v, by simp, by omega, by omega, ⟨O2.out.1.setNode k v, HU.out, (HT.out.2.2.trans' (O2.out.2.mono (by simp))).setCell (by simp) _⟩⟩
    · have hk0 : k = 0 := by omega
      subst hk0
      go_wp2_with fail
      go_end0
      exact ⟨rfl, ns', HT.out⟩
end Go.Proofs.YtajhkdbldbifeaaGreatDoor

namespace Go.Proofs.YtajhkdbldbifeaaGreatDoor
set_option maxRecDepth 100000
open Go.RowKit Go.ChangeMaps Go.MapKept
set_option linter.unusedVariables false
set_option linter.unusedSimpArgs false

set_option maxRecDepth 100000 in
set_option maxHeartbeats 1000000 in
/-- put where there is no such leaf. -/
theorem tPutOut (w : World) (tb ib nb n : Nat) (xs : List It) (ns : List Int) (h : TourIs w tb ib nb n xs ns) (i : Int) (hi : i < 0 ∨ (n : Int) ≤ i) (x : It) (v : Int) :
    Calls Tryz.prog 91 #[.pointer (some ⟨tb, 0, none⟩), .int .i64 i, .agg #[.int .u64 x.k, .int .i64 x.i], .int .i64 v] w fun e w' => e = .returned (.bool false) ∧ Only [] w w' := by
  have htb := h.blk.lt
  have c0 := h.c0
  have hn := h.n16
  clear h
  by_cases h0 : i < 0
  · clear hi
    go_enter Tryz.func91, Tryz.ntmps91
    go_wp2
    go_ret
    exact ⟨rfl, (Only.refl _ _).alloc _⟩
  · have h1 : (n : Int) ≤ i := by omega
    have h2 : decide (i < 0) = false := decide_eq_false h0
    clear hi
    go_enter Tryz.func91, Tryz.ntmps91
    go_wp2
    go_ret
    exact ⟨rfl, (Only.refl _ _).alloc _⟩

set_option maxRecDepth 100000 in
set_option maxHeartbeats 2000000 in
/-- put at a leaf. -/
theorem tPutIn (w : World) (tb ib nb n : Nat) (hs : Nat → Bool) (g : Nat → It) (h : TourOf w tb ib nb n hs g) (q : Nat) (hq : q < n) (x : It) (b : Bool) (v : Int) (hv : v = if b = true then (q : Int) else -1) (g' : Nat → It) (hg1 : b = true → g' q = x) (hg2 : ∀ i, i ≠ q → g' i = g i) :
    Calls Tryz.prog 91 #[.pointer (some ⟨tb, 0, none⟩), .int .i64 (q : Int), .agg #[.int .u64 x.k, .int .i64 x.i], .int .i64 v] w fun e w' => e = .returned (.bool true) ∧ TourOf w' tb ib nb n (fup hs q b) g' ∧ Only [ib, nb] w w' := by
  obtain ⟨xs, ns, h, ht, hg⟩ := h
  obtain ⟨hsz, hns, hs1, hs16⟩ := h.szs
  have htb := h.blk.lt
  have hib := h.items.lt
  have hnb := h.nodes.lt
  have c0 := h.c0
  have c1 := h.c1
  obtain ⟨i0, i1⟩ := h.it hq
  have fi0 := h.items.fr (q * 2)
  have fi1 := h.items.fr (q * 2 + 1)
  have ne1 := h.ne1
  have ne2 := h.ne2
  have ne3 := h.ne3
  have hn := h.n16
  have hq' : (q : Int) < (n : Int) := by omega
  have hq0 : decide ((q : Int) < 0) = false := decide_eq_false (by omega)
  have hqn : ¬ ((n : Int) ≤ (q : Int)) := by omega
  have hput := ht.put hsz hns hq b x v hv
  rw [← gOf_fup xs q x (by rw [h.len]; exact hq), ← ndOf_set ns (sz n + q) v (by rw [h.nlen]; omega)] at hput
  have H := Lib.hid h
  have HP := Lib.hid hput
  have HG : Hid (∀ i, i < n → fup hs q b i = true → gOf (xs.set q x) i = g' i) := fun i hi hb => by
    rw [gOf_fup xs q x (by rw [h.len]; exact hq)]
    by_cases e : i = q
    · subst e
      rw [fup_same] at hb ⊢
      exact (hg1 hb).symm
    · rw [fup_other _ _ e] at hb ⊢
      rw [hg2 i e]
      exact hg i hi hb
  obtain ⟨s, es⟩ : ∃ s, s = sz n := ⟨_, rfl⟩
  obtain ⟨m, em⟩ : ∃ m, m = 2 * sz n := ⟨_, rfl⟩
  obtain ⟨p, ep⟩ : ∃ p, p = s + q := ⟨_, rfl⟩
  rw [← em] at c1
  have hm2 : (m : Int) / 2 = (s : Int) := by omega
  have hpp : (s : Int) + (q : Int) = (p : Int) := by omega
  have hpm : (p : Int) < (m : Int) := by omega
  have hm32 : m ≤ 32 := by omega
  have hs17 : s ≤ 16 := by omega
  have ES := Lib.hid es
  have EP := Lib.hid ep
  have EM := Lib.hid em
  clear hput ht hg h hg1 hg2 hv es em ep hsz
  go_enter Tryz.func91, Tryz.ntmps91
  go_wp2_with fail
  go_region
  have oW : Only [ib] w (((w.setCell ⟨ib, q * 2, none⟩ (.int .u64 x.k)).setCell ⟨ib, q * 2 + 1, none⟩ (.int .i64 x.i)).alloc (.cells #[.int .u64 x.k, .int .i64 x.i] 40)).drew :=
    ((((Only.refl [ib] w).setCell (by simp) _).setCell (by simp) _).alloc _).drew
  have hW := (H.out.setItem q x).only0 (((Only.refl [] _).alloc (.cells #[.int .u64 x.k, .int .i64 x.i] 40)).drew)
  generalize (((w.setCell ⟨ib, q * 2, none⟩ (.int .u64 x.k)).setCell ⟨ib, q * 2 + 1, none⟩ (.int .i64 x.i)).alloc (.cells #[.int .u64 x.k, .int .i64 x.i] 40)).drew = W1 at *
  clear c0 c1 i0 i1 fi0 fi1
  have c1 := hW.c1
  have es := ES.out
  have em : 2 * sz n = m := EM.out.symm
  rw [em] at c1
  have fr := hW.nodes.fr p
  have cp := hW.nd (k := p) (by omega)
  have hset := hW.setNode p v
  have ep := EP.out
  have hre := tReplay (W1.setCell ⟨nb, p, none⟩ (.int .i64 v)) tb ib nb n (xs.set q x) (ns.set p v) (fup hs q b) hset p (by omega) (by rw [ep, es]; exact HP.out)
  have HR := Lib.hid hre
  have HO : Hid (Only [ib, nb] w (W1.setCell ⟨nb, p, none⟩ (.int .i64 v))) := (oW.mono (T := [ib, nb]) (by simp)).setCell (by simp) _
  clear hset hre hW es em ep oW
  go_wp2_with fail
  refine HR.out.mono ?_
  rintro e w2 ⟨rfl, ns', h2, ht2, o2⟩
  have R2 := Lib.hid (And.intro h2 (And.intro ht2 o2))
  clear h2 ht2 o2
  go_wp2_with fail
  go_ret
  exact ⟨rfl, ⟨_, ns', R2.out.1, R2.out.2.1, HG.out⟩, HO.out.trans R2.out.2.2 (by simp)⟩

set_option maxRecDepth 100000 in
theorem tSet (w : World) (tb ib nb n : Nat) (hs : Nat → Bool) (g : Nat → It) (h : TourOf w tb ib nb n hs g) (i : Int) (x : It) :
    Calls Tryz.prog 72 #[.pointer (some ⟨tb, 0, none⟩), .int .i64 i, .agg #[.int .u64 x.k, .int .i64 x.i]] w fun e w' => (0 ≤ i ∧ i < (n : Int) → e = .returned (.bool true) ∧ TourOf w' tb ib nb n (fup hs i.toNat true) (fup g i.toNat x) ∧ Only [ib, nb] w w') ∧ (¬ (0 ≤ i ∧ i < (n : Int)) → e = .returned (.bool false) ∧ Only [] w w') := by
  have o1 : Only [] w (w.alloc (.cells #[.int .u64 x.k, .int .i64 x.i] 40)) := (Only.refl [] w).alloc _
  have h1 := h.only0 o1
  by_cases hi : 0 ≤ i ∧ i < (n : Int)
  · obtain ⟨q, rfl⟩ : ∃ q : Nat, i = q := ⟨i.toNat, by omega⟩
    have hp := tPutIn _ tb ib nb n hs g h1 q (by omega) x true (q : Int) (by simp) (fup g q x) (fun _ => fup_same _ _ _) (fun i hi => fup_other _ _ hi)
    have HP := Lib.hid hp
    have O1 := Lib.hid o1
    clear hp h h1 o1
    go_enter Tryz.func72, Tryz.ntmps72
    go_wp2_with fail
    refine HP.out.mono ?_
    rintro e w2 ⟨rfl, h2, o2⟩
    have R2 := Lib.hid (And.intro h2 o2)
    clear h2 o2
    go_wp2_with fail
    go_ret
    exact ⟨fun _ => ⟨rfl, R2.out.1, (O1.out.mono (by simp)).trans' R2.out.2⟩, fun h => absurd hi h⟩
  · obtain ⟨xs, ns, h2, -, -⟩ := h1
    have hp := tPutOut _ tb ib nb n xs ns h2 i (by omega) x i
    have HP := Lib.hid hp
    have O1 := Lib.hid o1
    clear hp h h2 o1
    go_enter Tryz.func72, Tryz.ntmps72
    go_wp2_with fail
    refine HP.out.mono ?_
    rintro e w2 ⟨rfl, o2⟩
    have R2 := Lib.hid o2
    clear o2
    go_wp2_with fail
    go_ret
    exact ⟨fun h => absurd h hi, fun _ => ⟨rfl, O1.out.trans' R2.out⟩⟩

set_option maxRecDepth 100000 in
theorem tUnset (w : World) (tb ib nb n : Nat) (hs : Nat → Bool) (g : Nat → It) (h : TourOf w tb ib nb n hs g) (i : Int) :
    Calls Tryz.prog 73 #[.pointer (some ⟨tb, 0, none⟩), .int .i64 i] w fun e w' => (0 ≤ i ∧ i < (n : Int) → e = .returned (.bool true) ∧ TourOf w' tb ib nb n (fup hs i.toNat false) g ∧ Only [ib, nb] w w') ∧ (¬ (0 ≤ i ∧ i < (n : Int)) → e = .returned (.bool false) ∧ Only [] w w') := by
  by_cases hi : 0 ≤ i ∧ i < (n : Int)
  · obtain ⟨q, rfl⟩ : ∃ q : Nat, i = q := ⟨i.toNat, by omega⟩
    have hp := tPutIn _ tb ib nb n hs g h q (by omega) ⟨0, 0⟩ false (-1) (by simp) g (fun h => by cases h) (fun i hi => rfl)
    have HP := Lib.hid hp
    clear hp h
    go_enter Tryz.func73, Tryz.ntmps73
    go_wp2_with fail
    refine HP.out.mono ?_
    rintro e w2 ⟨rfl, h2, o2⟩
    have R2 := Lib.hid (And.intro h2 o2)
    clear h2 o2
    go_wp2_with fail
    go_ret
    exact ⟨fun _ => ⟨rfl, R2.out.1, R2.out.2⟩, fun h => absurd hi h⟩
  · obtain ⟨xs, ns, h2, -, -⟩ := h
    have hp := tPutOut _ tb ib nb n xs ns h2 i (by omega) ⟨0, 0⟩ (-1)
    have HP := Lib.hid hp
    clear hp h2
    go_enter Tryz.func73, Tryz.ntmps73
    go_wp2_with fail
    refine HP.out.mono ?_
    rintro e w2 ⟨rfl, o2⟩
    have R2 := Lib.hid o2
    clear o2
    go_wp2_with fail
    go_ret
    exact ⟨fun h => absurd h hi, fun _ => ⟨rfl, R2.out⟩⟩
end Go.Proofs.YtajhkdbldbifeaaGreatDoor

namespace Go.Proofs.YtajhkdbldbifeaaGreatDoor
set_option maxRecDepth 100000
open Go.RowKit Go.ChangeMaps Go.MapKept
set_option linter.unusedVariables false
set_option linter.unusedSimpArgs false

/-- What Win tells where node 1 tells k. -/
def winI (k : Int) : Int := if k = -1 then 0 else k
def winX (k : Int) (g : Nat → It) : It := if k = -1 then ⟨0, 0⟩ else g k.toNat
def winB (k : Int) : Bool := !decide (k = -1)
theorem nodeM_one {n : Nat} (hn : n ≤ 16) (hs : Nat → Bool) (g : Nat → It) : nodeM n hs g 1 = refBest hs g n := by
  have h1 := (sz_Sz n).le
  unfold nodeM
  rw [if_pos (by omega)]
  refine Wins.unique (refBest_wins _ g n) ((refBest_wins hs g n).congr (fun i => ?_) (fun _ _ => rfl))
  constructor
  · rintro ⟨h2, h3⟩
    refine ⟨h2, ?_⟩
    have h4 : under (sz n) 1 i = true := under_root (sz_Sz n) (by have := sz_ge hn; omega)
    show (hs i && under (sz n) (1 : Int).toNat i) = true
    rw [h3]
    exact h4
  · rintro ⟨h2, h3⟩
    simp only [Bool.and_eq_true] at h3
    exact ⟨h2, h3.1⟩
/-- A node tells a leaf that has an item, or none. -/
theorem nodeM_range (n : Nat) (hs : Nat → Bool) (g : Nat → It) (k : Int) : nodeM n hs g k = -1 ∨ ∃ i : Nat, i < n ∧ hs i = true ∧ nodeM n hs g k = i := by
  unfold nodeM
  split
  · rcases refBest_range (fun i => hs i && under (sz n) k.toNat i) g n with h | ⟨i, h1, h2, h3⟩
    · exact .inl h
    · simp only [Bool.and_eq_true] at h2
      exact .inr ⟨i, h1, h2.1, h3⟩
  · exact .inl rfl

theorem results_tct {fn : Func} {t p u : Tmp} {ty : TypeId} (h : fn.results = #[.tmp t, .cell p ty, .tmp u]) (tmps : Array Value) (P : Program) (w : World) :
    (results fn tmps).run P w =
      ((asAddr (tmps.getD p undef)).run P w).andThen fun a w₁ => ((loadVar ty a).run P w₁).andThen fun v w₂ => .ok (.tuple #[tmps.getD t undef, v, tmps.getD u undef]) w₂ := by
  simp only [results, h]
  simp [Sem.run_bind, Result.andThen]

set_option maxRecDepth 100000 in
set_option maxHeartbeats 1000000 in
theorem tWin (w : World) (tb ib nb n : Nat) (hs : Nat → Bool) (g : Nat → It) (h : TourOf w tb ib nb n hs g) :
    Calls Tryz.prog 51 #[.pointer (some ⟨tb, 0, none⟩)] w fun e w' => e = .returned (.tuple #[.int .i64 (winI (nodeM n hs g 1)), .agg #[.int .u64 (winX (nodeM n hs g 1) g).k, .int .i64 (winX (nodeM n hs g 1) g).i], .bool (winB (nodeM n hs g 1))]) ∧ Only [] w w' := by
  obtain ⟨xs, ns, h, ht, hg⟩ := h
  obtain ⟨hsz, hns, hs1, hs16⟩ := h.szs
  have c0 := h.c0
  have c1 := h.c1
  have n1 := h.nd (k := 1) (by omega)
  have e1 : ndOf ns 1 = nodeM n hs g 1 := by
    unfold nodeM
    rw [if_pos (by omega)]
    exact TourOf.told h ht hg (by omega) (by omega)
  rw [e1] at n1
  have htb := h.blk.lt
  have hib := h.items.lt
  have hnb := h.nodes.lt
  obtain ⟨m, em⟩ : ∃ m, m = 2 * sz n := ⟨_, rfl⟩
  rw [← em] at c1
  have hm1 : (1 : Int) < (m : Int) := by omega
  have hm1' : 1 < m := by omega
  have hn16 := h.n16
  rcases nodeM_range n hs g 1 with e | ⟨i, hi, hb, e⟩
  · rw [e] at n1 ⊢
    have q1 : winI (-1) = 0 := rfl
    have q2 : winX (-1) g = ⟨0, 0⟩ := rfl
    have q3 : winB (-1) = false := rfl
    rw [q1, q2, q3]
    clear q1 q2 q3 e e1 h ht hg c0 em hsz
    go_enter Tryz.func51, Tryz.ntmps51
    go_wp2_with fail
    (try simp only [Exit.inBlock, Exit.then])
    refine bodyPost_ret (v := .tuple #[.int .i64 0, .agg #[.int .u64 0, .int .i64 0], .bool false]) ?_ rfl ?_
    · rw [results_tct rfl]; go_simp
    · exact ⟨rfl, (Only.refl _ _).alloc _⟩
  · rw [e] at n1 ⊢
    obtain ⟨i0, i1⟩ := h.it hi
    have hx := hg i hi hb
    rw [hx] at i0 i1
    have q1 : winI (i : Int) = i := by unfold winI; rw [if_neg (by omega)]
    have q2 : winX (i : Int) g = g i := by unfold winX; rw [if_neg (by omega), Int.toNat_natCast]
    have q3 : winB (i : Int) = true := by simp [winB]
    rw [q1, q2, q3]
    have t1 : ((i : Int) == -1) = false := by simp
    have hi' : (i : Int) < (n : Int) := by omega
    generalize g i = x at *
    clear q1 q2 q3 e e1 h ht hg em hsz hx
    go_enter Tryz.func51, Tryz.ntmps51
    go_wp2_with fail
    go_region
    all_goals
      (try go_wp2_with fail)
      (try simp only [Exit.inBlock, Exit.then])
      refine bodyPost_ret (v := .tuple #[.int .i64 (i : Int), .agg #[.int .u64 x.k, .int .i64 x.i], .bool true]) ?_ rfl ?_
      · rw [results_tct rfl]; go_simp
      · exact ⟨rfl, ((Only.refl _ _).alloc _).drew⟩
end Go.Proofs.YtajhkdbldbifeaaGreatDoor

namespace Go.Proofs.YtajhkdbldbifeaaGreatDoor
set_option maxRecDepth 100000
open Go.RowKit Go.ChangeMaps Go.MapKept
set_option linter.unusedVariables false
set_option linter.unusedSimpArgs false

section
variable {w w' : World} {xb hb yb n : Nat} {bs : List Bool} {ys : List It}
end
section
variable {w w' : World} {xb hb yb n : Nat} {hs : Nat → Bool} {g : Nat → It}
end

end Go.Proofs.YtajhkdbldbifeaaGreatDoor

namespace Go.Proofs.YtajhkdbldbifeaaGreatDoor
set_option maxRecDepth 100000
open Go.RowKit Go.ChangeMaps Go.MapKept
set_option linter.unusedVariables false
set_option linter.unusedSimpArgs false

/-- A number of leaves, held. -/
def clampM (a : Int) : Nat := (min (max a 1) 16).toNat
theorem clampM_le (a : Int) : 1 ≤ clampM a ∧ clampM a ≤ 16 := by unfold clampM; omega
theorem clampM_eq (a : Int) : min (max a 1) 16 = (clampM a : Int) := by unfold clampM; omega

theorem made_at (z : Array Value) (m j : Nat) (hj : j < m) : (madeCells z m).toList[j]? = some (z[j % z.size]!) := by
  simp [madeCells, hj]
theorem made_one (z : Value) (m : Nat) : madeCells #[z] m = (List.replicate m z).toArray := by
  apply Array.ext'
  apply List.ext_getElem?
  intro j
  by_cases hj : j < m
  · rw [made_at _ _ _ hj]
    simp [hj, Nat.mod_one]
  · simp [madeCells, hj]
theorem made_items (n : Nat) : madeCells #[.int .u64 0, .int .i64 0] (n * 2) = (flat (List.replicate n ⟨0, 0⟩)).toArray := by
  apply Array.ext'
  apply List.ext_getElem?
  intro j
  by_cases hj : j < n * 2
  · rw [made_at _ _ _ hj]
    have hk : j / 2 < (List.replicate n (⟨0, 0⟩ : It)).length := by simp; omega
    have hf := flat_key (List.replicate n ⟨0, 0⟩) (j / 2) hk
    have hg : gOf (List.replicate n ⟨0, 0⟩) (j / 2) = ⟨0, 0⟩ := by rw [gOf_get hk]; simp
    rw [hg] at hf
    rcases Nat.mod_two_eq_zero_or_one j with h | h
    · have e : j / 2 * 2 = j := by omega
      rw [e] at hf
      simp [h, hf.1]
    · have e : j / 2 * 2 + 1 = j := by omega
      rw [e] at hf
      simp [h, hf.2]
  · have h1 : (madeCells #[.int .u64 0, .int .i64 0] (n * 2)).toList[j]? = none := by simp [madeCells]; omega
    have h2 : (flat (List.replicate n (⟨0, 0⟩ : It))).toArray.toList[j]? = none := by simp; omega
    rw [h1, h2]

theorem info_b : (Tryz.prog.info? 4).map (fun i => (i.zero, i.size, i.bytes)) = some (some (.bool false), 1, 1) := by kernel_rfl
theorem info_i : (Tryz.prog.info? 3).map (fun i => (i.zero, i.size, i.bytes)) = some (some (.int .i64 0), 1, 8) := by kernel_rfl
theorem make_ints (m : Nat) (h : m ≤ 1000) (w : World) : (Instr.makeSlice 93 (.int .i64 (m : Int)) (.int .i64 (m : Int))).run Tryz.prog w = .ok (.slice (some ⟨w.heap.size, 0, none⟩) m m) (w.alloc (.cells (ints (List.replicate m 0)).toArray 3)) := by
  have := run_make_row' (P := Tryz.prog) 93 3 (.int .i64 0) 8 Tryz.underlying93 info_i rfl .i64 .i64 m (by omega) (by omega) w
  rw [made_one] at this
  rw [this]
  simp [ints]
theorem make_items (m : Nat) (h : m ≤ 1000) (w : World) : (Instr.makeSlice 33 (.int .i64 (m : Int)) (.int .i64 (m : Int))).run Tryz.prog w = .ok (.slice (some ⟨w.heap.size, 0, none⟩) m m) (w.alloc (.cells (flat (List.replicate m ⟨0, 0⟩)).toArray 40)) := by
  obtain ⟨i, hi, hz0, hz1, hz2⟩ := info_parts item_info
  have := run_makeSlice (P := Tryz.prog) w 33 40 i (.agg #[.int .u64 0, .int .i64 0]) Tryz.underlying33 hi hz0 .i64 .i64 (m : Int) (m : Int) (by omega) (Int.le_refl _) (by rw [hz1]; omega) (by rw [hz2]; omega) (by omega)
  rw [this, Int.toNat_natCast, hz1]
  have e : Value.cells (.agg #[.int .u64 0, .int .i64 0]) = #[.int .u64 0, .int .i64 0] := rfl
  rw [e, made_items]

theorem new3 (w : World) (e1 e2 e3 : TypeId) (v1 v2 v3 : List Value) : Arr (((w.alloc (.cells v1.toArray e1)).alloc (.cells v2.toArray e2)).alloc (.cells v3.toArray e3)).drew w.heap.size e1 v1 ∧ Arr (((w.alloc (.cells v1.toArray e1)).alloc (.cells v2.toArray e2)).alloc (.cells v3.toArray e3)).drew (w.heap.size + 1) e2 v2 ∧
    Arr (((w.alloc (.cells v1.toArray e1)).alloc (.cells v2.toArray e2)).alloc (.cells v3.toArray e3)).drew (w.heap.size + 1 + 1) e3 v3 ∧ Only [] w (((w.alloc (.cells v1.toArray e1)).alloc (.cells v2.toArray e2)).alloc (.cells v3.toArray e3)).drew := by
  have s1 : (w.alloc (.cells v1.toArray e1)).heap.size = w.heap.size + 1 := by simp
  have s2 : ((w.alloc (.cells v1.toArray e1)).alloc (.cells v2.toArray e2)).heap.size = w.heap.size + 1 + 1 := by simp
  have b1 := Arr.new w e1 v1
  have b2 := Arr.new (w.alloc (.cells v1.toArray e1)) e2 v2
  have b3 := Arr.new ((w.alloc (.cells v1.toArray e1)).alloc (.cells v2.toArray e2)) e3 v3
  rw [s1] at b2
  rw [s2] at b3
  refine ⟨b1.only0 ((((Only.refl [] _).alloc _).alloc _).drew), b2.only0 (((Only.refl [] _).alloc _).drew), b3.only0 ((Only.refl [] _).drew), ((((Only.refl [] w).alloc _).alloc _).alloc _).drew⟩

theorem make_items' (m : Nat) (z : Int) (hz : z = (m : Int)) (h : m ≤ 1000) (w : World) : (Instr.makeSlice 33 (.int .i64 z) (.int .i64 z)).run Tryz.prog w = .ok (.slice (some ⟨w.heap.size, 0, none⟩) m m) (w.alloc (.cells (flat (List.replicate m ⟨0, 0⟩)).toArray 40)) := by
  rw [hz]; exact make_items m h w

theorem make_ints' (m : Nat) (z : Int) (hz : z = (m : Int)) (h : m ≤ 1000) (w : World) : (Instr.makeSlice 93 (.int .i64 z) (.int .i64 z)).run Tryz.prog w = .ok (.slice (some ⟨w.heap.size, 0, none⟩) m m) (w.alloc (.cells (ints (List.replicate m 0)).toArray 3)) := by
  rw [hz]; exact make_ints m h w
theorem tSizeFor' (n : Nat) (z : Int) (hz : z = (n : Int)) (hn : n ≤ 16) (w : World) : Calls Tryz.prog 69 #[.int .i64 z] w fun e w' => e = .returned (.int .i64 ((sz n : Nat) : Int)) ∧ w' = w := by
  rw [hz]; exact tSizeFor n hn w

set_option maxRecDepth 100000 in
set_option maxHeartbeats 4000000 in
theorem tNew (w : World) (a : Int) : Calls Tryz.prog 47 #[.int .i64 a] w fun e w' => ∃ tb, e = .returned (.pointer (some ⟨tb, 0, none⟩)) ∧ ∃ ib nb, TourOf w' tb ib nb (clampM a) (fun _ => false) (fun _ => ⟨0, 0⟩) ∧ (∀ b ∈ [tb, ib, nb], w.heap.size ≤ b) ∧ Only [] w w' := by
  have hc := clampM_eq a
  obtain ⟨h1, h16⟩ := clampM_le a
  generalize clampM a = n at *
  have hs16 := (sz_Sz n).le
  obtain ⟨s, es⟩ : ∃ s, sz n = s := ⟨_, rfl⟩
  obtain ⟨m, em⟩ : ∃ m, m = 2 * s := ⟨_, rfl⟩
  have fin : Hid (∀ (W : World) (tb ib nb : Nat), Arr W tb 95 [.slice (some ⟨ib, 0, none⟩) n n, .slice (some ⟨nb, 0, none⟩) m m] → Arr W ib 40 (flat (List.replicate n ⟨0, 0⟩)) → Arr W nb 3 (ints (List.replicate m 0)) → TourIs W tb ib nb n (List.replicate n ⟨0, 0⟩) (List.replicate m 0)) := fun W tb ib nb a1 a2 a3 =>
    ⟨by rw [es, ← em]; exact a1, a2, a3, by simp, by simp; omega, h1, h16⟩
  have done : Hid (∀ (W : World) (tb ib nb : Nat) (ns : List Int), TourIs W tb ib nb n (List.replicate n ⟨0, 0⟩) ns → (∀ j, j < m → ndOf ns j = -1) → TourOf W tb ib nb n (fun _ => false) (fun _ => ⟨0, 0⟩)) := fun W tb ib nb ns h hj =>
    ⟨_, ns, h, Tree.empty (fun j => by
      by_cases hjm : j < m
      · exact hj j hjm
      · unfold ndOf; rw [List.getD_eq_getElem?_getD, List.getElem?_eq_none (by rw [h.nlen]; omega)]; rfl), fun i hi hb => by cases hb⟩
  have hmm : IntKind.i64.wrap (2 * (s : Int)) = (m : Int) := by rw [IntWalk.i64_in _ (by omega)]; omega
  have hsm := tSizeFor' n
  rw [es] at hsm hs16
  have hm32 : m ≤ 32 := by omega
  have ES := Lib.hid es
  have EM := Lib.hid em
  clear es em
  have mk3 := make_ints m (by omega)
  have hcase : (a < 1 ∧ (1 : Int) = n) ∨ (1 ≤ a ∧ a ≤ 16 ∧ a = n) ∨ (1 ≤ a ∧ 16 < a ∧ (16 : Int) = n) := by omega
  rcases hcase with ⟨g1, hz⟩ | ⟨g1, g2, hz⟩ | ⟨g1, g2, hz⟩
  all_goals
    have mk2 := make_items' n _ hz (by omega)
    have sf := Lib.hid (hsm _ hz h16)
    clear hc hz hsm
    go_enter Tryz.func47, Tryz.ntmps47
    go_wp2_with fail
    go_region_with (go_at_call 69; refine (sf.out _).mono ?_; rintro e w' ⟨rfl, rfl⟩)
    all_goals
      go_wp2_with fail
      go_loopg [21] (m + 1) (fun gk si wr => ∃ (p ib nb : Nat) (ns : List Int), si = .int .i64 (p : Int) ∧ p ≤ m ∧ m + 1 ≤ gk + p ∧ Hid (TourIs wr (w.heap.size + 1 + 1) ib nb n (List.replicate n ⟨0, 0⟩) ns ∧ (∀ j, j < p → ndOf ns j = -1) ∧ (∀ b ∈ [w.heap.size + 1 + 1, ib, nb], w.heap.size ≤ b) ∧ Only [] w wr))
      case atStart =>
        first
          | (obtain ⟨a1, a2, a3, o⟩ := new3 w 40 3 95 (flat (List.replicate n ⟨0, 0⟩)) (ints (List.replicate m 0)) [.slice (some ⟨w.heap.size, 0, none⟩) n n, .slice (some ⟨w.heap.size + 1, 0, none⟩) m m]; exact ⟨0, _, _, _, rfl, by omega, by omega, fin.out _ _ _ _ a3 a1 a2, fun j hj => absurd hj (by omega), by simp; omega, o⟩)
          | (obtain ⟨a1, a2, a3, o⟩ := new3 w 3 40 95 (ints (List.replicate m 0)) (flat (List.replicate n ⟨0, 0⟩)) [.slice (some ⟨w.heap.size + 1, 0, none⟩) n n, .slice (some ⟨w.heap.size, 0, none⟩) m m]; exact ⟨0, _, _, _, rfl, by omega, by omega, fin.out _ _ _ _ a3 a2 a1, fun j hj => absurd hj (by omega), by simp; omega, o⟩)
      case round =>
        obtain ⟨p, ib, nb, ns, rfl, hp, hg, HT⟩ := hrel
        clear mk2 mk3 sf
        by_cases hpm : p < m
        · have hpm' : (p : Int) < (m : Int) := by omega
          have hT := HT.out.1
          have c1 := hT.c1
          rw [ES.out, ← EM.out] at c1
          have fr := hT.nodes.fr p
          have cp := hT.nd (k := p) (by rw [ES.out, ← EM.out]; exact hpm)
          clear hT
          go_wp2_with fail
          go_roundg (m + 1 - (p + 1))
          case measure => omega
          case rel =>
            have hT := HT.out
            refine ⟨p + 1, ib, nb, ns.set p (-1), by simp, by omega, by omega, hT.1.setNode p (-1), fun j hj => ?_, hT.2.2.1, hT.2.2.2.setCell (.inr (hT.2.2.1 nb (by simp))) _⟩
            rw [ndOf_set ns p (-1) (by rw [hT.1.nlen, ES.out, ← EM.out]; exact hpm)]
            by_cases e : j = p
            · rw [e, fup_same]
            · rw [fup_other _ _ e]; exact hT.2.1 j (by omega)
        · have hpm' : decide ((p : Int) < (m : Int)) = false := decide_eq_false (by omega)
          have hpm2 : ¬ ((p : Int) < (m : Int)) := by omega
          have hpe : m ≤ p := by omega
          clear hpm
          go_wp2_with fail
          go_ret
          have hT := HT.out
          exact ⟨_, rfl, ib, nb, done.out _ _ _ _ ns hT.1 (fun j hj => hT.2.1 j (by omega)), by simpa using hT.2.2.1, hT.2.2.2⟩
end Go.Proofs.YtajhkdbldbifeaaGreatDoor
