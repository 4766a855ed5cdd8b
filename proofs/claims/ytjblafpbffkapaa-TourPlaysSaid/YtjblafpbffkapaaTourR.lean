/-
  Contracts of New and Win.
-/
import Derived.Test.YtjblafpbffkapaaTourQ
namespace Go.Proofs.Ytjblafpbffkapaa
set_option maxRecDepth 100000
open Go.RowKit Go.ChangeMaps Go.MapKept
set_option linter.unusedVariables false
set_option linter.unusedSimpArgs false

/-- What Win tells where node 1 tells k. -/
def winI (k : Int) : Int := if k = -1 then 0 else k
def winX (k : Int) (g : Nat → It) : It := if k = -1 then ⟨0, 0⟩ else g k.toNat
def winB (k : Int) : Bool := !decide (k = -1)
theorem nodeM_one {n : Nat} (hn : n ≤ 16) (hs : Nat → Bool) (g : Nat → It) : nodeM n hs g 1 = refBest hs g n := by
  have h1 := (sz_Sz n).le
  unfold nodeM
  rw [if_pos (by omega)]
  refine Wins.unique (refBest_wins _ g n) ((refBest_wins hs g n).congr (fun i => ?_) (fun _ _ => rfl))
  constructor
  · rintro ⟨h2, h3⟩
    refine ⟨h2, ?_⟩
    have h4 : under (sz n) 1 i = true := under_root (sz_Sz n) (by have := sz_ge hn; omega)
    show (hs i && under (sz n) (1 : Int).toNat i) = true
    rw [h3]
    exact h4
  · rintro ⟨h2, h3⟩
    simp only [Bool.and_eq_true] at h3
    exact ⟨h2, h3.1⟩
/-- A node tells a leaf that has an item, or none. -/
theorem nodeM_range (n : Nat) (hs : Nat → Bool) (g : Nat → It) (k : Int) : nodeM n hs g k = -1 ∨ ∃ i : Nat, i < n ∧ hs i = true ∧ nodeM n hs g k = i := by
  unfold nodeM
  split
  · rcases refBest_range (fun i => hs i && under (sz n) k.toNat i) g n with h | ⟨i, h1, h2, h3⟩
    · exact .inl h
    · simp only [Bool.and_eq_true] at h2
      exact .inr ⟨i, h1, h2.1, h3⟩
  · exact .inl rfl

theorem results_tct {fn : Func} {t p u : Tmp} {ty : TypeId} (h : fn.results = #[.tmp t, .cell p ty, .tmp u]) (tmps : Array Value) (P : Program) (w : World) :
    (results fn tmps).run P w =
      ((asAddr (tmps.getD p undef)).run P w).andThen fun a w₁ => ((loadVar ty a).run P w₁).andThen fun v w₂ => .ok (.tuple #[tmps.getD t undef, v, tmps.getD u undef]) w₂ := by
  simp only [results, h]
  simp [Sem.run_bind, Result.andThen]

set_option maxRecDepth 100000 in
set_option maxHeartbeats 1000000 in
theorem tWin (w : World) (tb ib nb n : Nat) (hs : Nat → Bool) (g : Nat → It) (h : TourOf w tb ib nb n hs g) :
    Calls Try.prog 17 #[.pointer (some ⟨tb, 0, none⟩)] w fun e w' => e = .returned (.tuple #[.int .i64 (winI (nodeM n hs g 1)), .agg #[.int .u64 (winX (nodeM n hs g 1) g).k, .int .i64 (winX (nodeM n hs g 1) g).i], .bool (winB (nodeM n hs g 1))]) ∧ Only [] w w' := by
  obtain ⟨xs, ns, h, ht, hg⟩ := h
  obtain ⟨hsz, hns, hs1, hs16⟩ := h.szs
  have c0 := h.c0
  have c1 := h.c1
  have n1 := h.nd (k := 1) (by omega)
  have e1 : ndOf ns 1 = nodeM n hs g 1 := by
    unfold nodeM
    rw [if_pos (by omega)]
    exact TourOf.told h ht hg (by omega) (by omega)
  rw [e1] at n1
  have htb := h.blk.lt
  have hib := h.items.lt
  have hnb := h.nodes.lt
  obtain ⟨m, em⟩ : ∃ m, m = 2 * sz n := ⟨_, rfl⟩
  rw [← em] at c1
  have hm1 : (1 : Int) < (m : Int) := by omega
  have hm1' : 1 < m := by omega
  have hn16 := h.n16
  rcases nodeM_range n hs g 1 with e | ⟨i, hi, hb, e⟩
  · rw [e] at n1 ⊢
    have q1 : winI (-1) = 0 := rfl
    have q2 : winX (-1) g = ⟨0, 0⟩ := rfl
    have q3 : winB (-1) = false := rfl
    rw [q1, q2, q3]
    clear q1 q2 q3 e e1 h ht hg c0 em hsz
    go_enter Try.func17, Try.ntmps17
    go_wp2_with fail
    (try simp only [Exit.inBlock, Exit.then])
    refine bodyPost_ret (v := .tuple #[.int .i64 0, .agg #[.int .u64 0, .int .i64 0], .bool false]) ?_ rfl ?_
    · rw [results_tct rfl]; go_simp
    · exact ⟨rfl, (Only.refl _ _).alloc _⟩
  · rw [e] at n1 ⊢
    obtain ⟨i0, i1⟩ := h.it hi
    have hx := hg i hi hb
    rw [hx] at i0 i1
    have q1 : winI (i : Int) = i := by unfold winI; rw [if_neg (by omega)]
    have q2 : winX (i : Int) g = g i := by unfold winX; rw [if_neg (by omega), Int.toNat_natCast]
    have q3 : winB (i : Int) = true := by simp [winB]
    rw [q1, q2, q3]
    have t1 : ((i : Int) == -1) = false := by simp
    have hi' : (i : Int) < (n : Int) := by omega
    generalize g i = x at *
    clear q1 q2 q3 e e1 h ht hg em hsz hx
    go_enter Try.func17, Try.ntmps17
    go_wp2_with fail
    go_region
    all_goals
      (try go_wp2_with fail)
      (try simp only [Exit.inBlock, Exit.then])
      refine bodyPost_ret (v := .tuple #[.int .i64 (i : Int), .agg #[.int .u64 x.k, .int .i64 x.i], .bool true]) ?_ rfl ?_
      · rw [results_tct rfl]; go_simp
      · exact ⟨rfl, ((Only.refl _ _).alloc _).drew⟩
end Go.Proofs.Ytjblafpbffkapaa
