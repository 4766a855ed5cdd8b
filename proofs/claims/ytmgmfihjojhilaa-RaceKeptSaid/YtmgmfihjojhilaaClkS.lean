/-
  both: what it yields, for every loop body that keeps what it reads.
-/
import Derived.Test.YtmgmfihjojhilaaClkR
import Derived.Lib.MinMax
namespace Go.Proofs.Ytmgmfihjojhilaa
set_option maxRecDepth 100000
open Go.RowKit
set_option linter.unusedVariables false
set_option linter.unusedSimpArgs false
set_option maxRecDepth 100000
attribute [local go_sem] Oper.semAt_some

/-- The k-th pair that both yields. -/
def pairAt (xs ys : List Int) (k : Nat) : Array Value := #[.int .i64 (gC xs k), .int .i64 (gC ys k)]
/-- The box that holds the two slices. -/
def PBox (W : World) (B : Nat) (A : Option Addr) (m c : Nat) (A' : Option Addr) (m' c' : Nat) : Prop := W.heap[B]? = some (.cells #[.slice A m c, .slice A' m' c'] 72 (0, 0))
theorem PBox.c {W : World} {B : Nat} {A : Option Addr} {m c : Nat} {A' : Option Addr} {m' c' : Nat} (h : PBox W B A m c A' m' c') : W.cell? ⟨B, 0, none⟩ = some (.slice A m c) ∧ W.cell? ⟨B, 1, none⟩ = some (.slice A' m' c') :=
  ⟨by rw [cell_of_row W B 0 _ _ _ h]; rfl, by rw [cell_of_row W B 1 _ _ _ h]; rfl⟩
set_option maxHeartbeats 4000000 in
theorem cBoth (n : Nat) (w0 : World) (A : Option Addr) (m c : Nat) (xs : List Int) (A' : Option Addr) (m' c' : Nat) (ys : List Int) (N : Nat) (hN : max m m' = N) (hm : xs.length = m) (hm' : ys.length = m') (hb : m ≤ 100000) (hb' : m' ≤ 100000) (h : Nums 0 w0 A xs) (h' : Nums 0 w0 A' ys)
    (T : List Nat) (l : Nat) (J : Nat → World → Prop) (Jx : World → Prop) (W : World) (ho : Only [] w0 W) (hT : ∀ k ∈ l :: T, w0.heap.size ≤ k ∧ k < W.heap.size)
    (hJ : ∀ k U U', J k U → Only [] U U' → J k U')
    (hY : ∀ k U, J k U → k < N → YieldAt Fence.wide (n - 1) Try.prog l (pairAt xs ys k) U fun e U' => ∃ b : Bool, e = .returned (.bool b) ∧ Only (l :: T) U U' ∧ (b = true → J (k + 1) U') ∧ (b = false → Jx U'))
    (h0 : J 0 W) :
    CallsIn Fence.wide n Try.prog 55 #[.agg #[.slice A m c, .slice A' m' c'], .func (.yield l) #[] #[]] W fun e U => (∃ v, e = .returned v) ∧ (J N U ∨ Jx U) := by
  have hdep : ∀ n : Nat, Fence.wide.depth.isSome = true → 1 ≤ n := fun n h => by simp [Fence.wide] at h
  have hmx : max (m : Int) (m' : Int) = (N : Int) := by omega
  have H := Lib.hid (And.intro h h')
  have HL := Lib.hid (And.intro hm hm')
  have HJ := Lib.hid hJ
  have HY := Lib.hid hY
  have H0 := Lib.hid h0
  have HT : Hid (∀ k ∈ l :: T, w0.heap.size ≤ k) := fun k hk => (hT k hk).1
  have HT2 : Hid (∀ k ∈ l :: T, k ≠ W.heap.size) := fun k hk => by have := (hT k hk).2; omega
  have hBox : Hid (PBox (W.alloc (.cells #[.slice A m c, .slice A' m' c'] 72)) W.heap.size A m c A' m' c') := heap_alloc_new W _
  have HO : Hid (Only [] w0 (W.alloc (.cells #[.slice A m c, .slice A' m' c'] 72))) := ho.alloc _
  have HB : Hid (w0.heap.size ≤ W.heap.size) := ho.size
  have HJ0 : Hid (J 0 (W.alloc (.cells #[.slice A m c, .slice A' m' c'] 72))) := hJ 0 _ _ h0 ((Only.refl [] W).alloc _)
  obtain ⟨b0, b1⟩ := hBox.out.c
  have cA := Lib.hid (fun (k : Nat) (U : World) (hU : Only [] w0 U) => cAt A m c xs k U hm (by omega) (h.only0 hU))
  have cB := Lib.hid (fun (k : Nat) (U : World) (hU : Only [] w0 U) => cAt A' m' c' ys k U hm' (by omega) (h'.only0 hU))
  clear h h' hm hm' hJ hY h0 ho hT hN
  refine callsIn_of_wp Try.func55 rfl trivial ?_ rfl
  simp only [Try.ntmps55, List.size_toArray, List.length_cons, List.length_nil, Nat.reduceAdd, Nat.reduceSub, Array.replicate_succ, Array.replicate_zero, List.push_toArray, List.append_toArray, List.nil_append, List.cons_append]
  gi_wp2
  generalize W.alloc (.cells #[.slice A m c, .slice A' m' c'] 72) = W1 at *
  obtain ⟨B, eB⟩ : ∃ B, W.heap.size = B := ⟨_, rfl⟩
  rw [eB] at HB HT2 hBox b0 b1 ⊢
  clear eB
  gi_loopw [12] (fun si wr => ∃ k : Nat, si = .int .i64 (k : Int) ∧ k ≤ N ∧ Hid (J k wr ∧ Only [] w0 wr ∧ PBox wr B A m c A' m' c')) (fun si _ => N - (intOf si).toNat)
  case atStart => exact ⟨0, rfl, by omega, HJ0.out, HO.out, hBox.out⟩
  case round =>
    obtain ⟨k, rfl, hk, R⟩ := hrel
    clear HJ0 HO hBox H0
    by_cases hlt : k < N
    · have h1 : (k : Int) < (N : Int) := by omega
      have oD : Only [] wr wr.drew := (Only.refl [] wr).drew
      obtain ⟨fn, tmps, assign, body, hy, hR⟩ := HY.out k wr.drew (HJ.out k wr _ R.out.1 oD) hlt
      obtain ⟨c0, c1⟩ := R.out.2.2.c
      have c0' : wr.drew.cell? ⟨B, 0, none⟩ = some (.slice A m c) := c0
      have c1' : wr.drew.cell? ⟨B, 1, none⟩ = some (.slice A' m' c') := c1
      clear c0 c1
      have kA := cA.out k wr.drew (R.out.2.1.trans' oD)
      have kB := cB.out k wr.drew (R.out.2.1.trans' oD)
      rw [atM_nat] at kA kB
      unfold pairAt at hy
      generalize hx : gC xs k = x at *
      generalize hx' : gC ys k = y at *
      clear hx hx'
      have KA := Lib.hid kA
      have KB := Lib.hid kB
      have KR := Lib.hid hR
      clear kA kB hR
      have mk1 : True := trivial
      have mk2 : True := trivial
      gi_wp2_with fail
      gi_region_with (first
        | (refine ⟨trivial, hdep _, ?_⟩; clear mk1; refine (callsIn_wide.2 KA.out).mono ?_; rintro e u ⟨rfl, rfl⟩)
        | (refine ⟨trivial, hdep _, ?_⟩; clear mk2; refine (callsIn_wide.2 KB.out).mono ?_; rintro e u ⟨rfl, rfl⟩)
        | (refine ⟨hdep _, KR.out.mono ?_⟩; rintro e U ⟨b, rfl, oU, j1, j2⟩; have RU := Lib.hid (And.intro oU (And.intro j1 j2)); clear oU j1 j2))
      all_goals
        rcases b
        · gi_wp2_with fail
          refine bodyPost_ret (results_none rfl _ _ _) rfl ?_
          exact ⟨⟨_, rfl⟩, .inr (RU.out.2.2 (by trivial))⟩
        · gi_wp2_with fail
          go_roundw
          case rel => exact ⟨k + 1, by simp, by omega, RU.out.2.1 (by trivial), (R.out.2.1.trans' (Only.refl [] wr).drew).trans RU.out.1 (fun j hj => .inr (HT.out j hj)), RU.out.1.get (w := wr.drew) R.out.2.2 (fun hj => HT2.out _ hj rfl)⟩
          case measure => simp [intOf]; omega
    · have h1 : ¬ ((k : Int) < (N : Int)) := by omega
      have h2 : decide ((k : Int) < (N : Int)) = false := decide_eq_false h1
      obtain rfl : k = N := by omega
      gi_wp2_with fail
      go_end0
      exact ⟨⟨_, rfl⟩, .inl R.out.1⟩
end Go.Proofs.Ytmgmfihjojhilaa
