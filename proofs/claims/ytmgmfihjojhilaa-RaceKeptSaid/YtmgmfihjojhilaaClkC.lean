/-
  The document's Join and Tick.
-/
import Derived.Test.YtmgmfihjojhilaaClkB
import Derived.Deep.RegionLaw
namespace Go.Proofs.Ytmgmfihjojhilaa
set_option maxRecDepth 100000
open Go.RowKit
set_option linter.unusedVariables false
set_option linter.unusedSimpArgs false
set_option maxRecDepth 100000

set_option maxHeartbeats 4000000 in
theorem rJoin (A : Option Addr) (m c : Nat) (xs : List Int) (A' : Option Addr) (m' c' : Nat) (ys : List Int) (w : World) (hm : xs.length = m) (hm' : ys.length = m') (hb : m ≤ 100000) (hb' : m' ≤ 100000) (h : Nums 0 w A xs) (h' : Nums 0 w A' ys) :
    Calls Try.prog 46 #[.slice A m c, .slice A' m' c'] w (Fresh w (joinM xs ys)) := by
  obtain ⟨N, hN⟩ : ∃ N : Nat, max m m' = N := ⟨_, rfl⟩
  have hmx : max (m : Int) (m' : Int) = (N : Int) := by omega
  have HN : Hid (m ≤ N ∧ m' ≤ N ∧ (N = m ∨ N = m')) := ⟨by omega, by omega, by omega⟩
  have hNb : N ≤ 100000 := by omega
  have hfin : Hid (joinM xs ys = tabC N fun k => max (gC xs k) (gC ys k)) := by show _ = _; unfold joinM; rw [hm, hm', hN]
  have H := Lib.hid (And.intro h h')
  have HL := Lib.hid (And.intro hm hm')
  rw [hfin.out]
  clear hm hm' h h' hN hb hb'
  go_enter Try.func46, Try.ntmps46
  go_wp2_with fail
  go_loopg [5, 6] (N + 1) (fun gk sl si wr => ∃ (p : Nat) (A1 : Option Addr) (cap1 : Nat), si = .int .i64 (p : Int) ∧ sl = .slice A1 p cap1 ∧ p ≤ N ∧ N + 1 ≤ gk + p ∧ Hid (Fr w wr A1 p cap1 (tabC p fun k => max (gC xs k) (gC ys k))))
  case atStart => exact ⟨0, none, 0, rfl, rfl, by omega, by omega, Fr.nil (Only.refl _ _)⟩
  case round =>
    obtain ⟨p, A1, cap1, rfl, rfl, hp, hg, hR⟩ := hrel
    by_cases hpl : p < N
    · have h1 : (p : Int) < (N : Int) := by omega
      have hs := Lib.hid (tabC_succ p fun k => max (gC xs k) (gC ys k))
      by_cases hpm : p < m
      · obtain ⟨g, rfl, _, x0, _⟩ := H.out.1.only0 hR.out.only p _ (gC_get (by have := HL.out.1; omega))
        have h2 : ¬ ((m : Int) ≤ (p : Int)) := by omega
        have h2' : decide ((m : Int) ≤ (p : Int)) = false := decide_eq_false h2
        have h2n : decide (m ≤ p) = false := decide_eq_false (by omega)
        by_cases hpm' : p < m'
        · obtain ⟨g', rfl, _, y0, _⟩ := H.out.2.only0 hR.out.only p _ (gC_get (by have := HL.out.2; omega))
          have h3 : ¬ ((m' : Int) ≤ (p : Int)) := by omega
          have h3' : decide ((m' : Int) ≤ (p : Int)) = false := decide_eq_false h3
          have h3n : decide (m' ≤ p) = false := decide_eq_false (by omega)
          generalize gC xs p = a at *
          generalize gC ys p = b at *
          have hRd : Hid (Fr w wr.drew A1 p cap1 (tabC p fun k => max (gC xs k) (gC ys k))) := hR.out.only0 (Only.refl [] wr).drew
          have x1 : wr.drew.cell? ⟨g, p, none⟩ = some (.int .i64 a) := x0
          have y1 : wr.drew.cell? ⟨g', p, none⟩ = some (.int .i64 b) := y0
          clear x0 y0
          go_wp2_with fail
          go_region_law (refine step_app1 rfl (.tmp 16) (.tmp 26) rfl A1 p cap1 _ (max a b) (by simp [Act.eval, Act.put]) (by simp [Act.eval, Act.put]) hRd.out (by omega) ?_; intro A2 cap2 w2 h9; have R2 := Lib.hid h9; clear h9)
          all_goals
            go_wp2_with fail
            go_roundg (N + 1 - (p + 1))
            case measure => omega
            case rel => exact ⟨p + 1, A2, cap2, by simp, rfl, by omega, by omega, by rw [hs.out]; exact R2.out⟩
        · have h3 : (m' : Int) ≤ (p : Int) := by omega
          have hz : Hid (gC ys p = 0) := gC_out (by have := HL.out.2; omega)
          generalize gC xs p = a at *
          go_wp2_with (first
            | (at_builtin
               refine wpList_app1 rfl (.tmp 46) (.tmp 52) rfl A1 p cap1 _ (max a 0) rfl rfl hR.out (by omega) ?_
               intro A2 cap2 w2 h9
               have R2 := Lib.hid h9
               clear h9))
          go_roundg (N + 1 - (p + 1))
          case measure => omega
          case rel => exact ⟨p + 1, A2, cap2, by simp, rfl, by omega, by omega, by rw [hs.out, hz.out]; exact R2.out⟩
      · have hpm' : p < m' := by have := HN.out; omega
        obtain ⟨g', rfl, _, y0, _⟩ := H.out.2.only0 hR.out.only p _ (gC_get (by have := HL.out.2; omega))
        have h2 : (m : Int) ≤ (p : Int) := by omega
        have hz : Hid (gC xs p = 0) := gC_out (by have := HL.out.1; omega)
        generalize gC ys p = b at *
        go_wp2_with (first
          | (at_builtin
             refine wpList_app1 rfl (.tmp 33) (.tmp 39) rfl A1 p cap1 _ (max b 0) rfl rfl hR.out (by omega) ?_
             intro A2 cap2 w2 h9
             have R2 := Lib.hid h9
             clear h9))
        go_roundg (N + 1 - (p + 1))
        case measure => omega
        case rel => exact ⟨p + 1, A2, cap2, by simp, rfl, by omega, by omega, by rw [hs.out, hz.out, show max 0 b = max b 0 by omega]; exact R2.out⟩
    · have F := Lib.hid hR.out.fresh
      obtain rfl : p = N := by omega
      clear hR
      have h3 : ¬ ((p : Int) < (p : Int)) := by omega
      go_wp2_with fail
      go_ret
      exact F.out

/-- Numbers, and noughts behind them as far as n. -/
def padM (xs : List Int) (n : Nat) : List Int := tabC n (gC xs)
theorem padM_set (xs : List Int) {n k : Nat} (h : k < n) (v : Int) : (padM xs n).set k v = tabC n fun j => if j = k then v else gC xs j := by
  refine gC_ext (by simp [padM, tabC_len]) fun j => ?_
  by_cases hj : j < n
  · rw [gC_tab _ _ hj]
    unfold gC
    rw [List.getElem?_set]
    by_cases e : k = j
    · subst e
      simp [padM, tabC_len, h]
    · rw [if_neg e, if_neg (Ne.symm e)]
      simp [padM, tabC, hj, gC]
  · rw [gC_out (by simp [padM, tabC_len]; omega), gC_out (by rw [tabC_len]; omega)]
theorem tickM_pad (xs : List Int) {k : Nat} (h : k ≤ 63) : tickM xs (k : Int) = (padM xs (max xs.length (k + 1))).set k (wrap64 (gC xs k + 1)) := by
  rw [tickM_nat xs h, padM_set xs (by omega)]
  unfold tabC
  congr 1
  funext j
  split
  · rename_i e; rw [e]
  · rfl
theorem padM_self (xs : List Int) : padM xs xs.length = xs := tabC_all xs
theorem padM_snoc (xs : List Int) {n : Nat} (h : xs.length ≤ n) : padM xs (n + 1) = padM xs n ++ [0] := by
  unfold padM
  rw [tabC_succ, gC_out h]
theorem padM_len (xs : List Int) (n : Nat) : (padM xs n).length = n := tabC_len _ _
theorem padM_at (xs : List Int) {n k : Nat} (h : k < n) : (padM xs n)[k]? = some (gC xs k) := tabC_at _ _ h
theorem Fr.set {w wr : World} {g p cap : Nat} {xs : List Int} (h : Fr w wr (some ⟨g, 0, none⟩) p cap xs) (k : Nat) (x : Int) : Fr w (wr.setCell ⟨g, k, none⟩ (.int .i64 x)) (some ⟨g, 0, none⟩) p cap (xs.set k x) :=
  ⟨h.row.store1 k x _ rfl, by simpa using h.len, h.new, h.only.setCell (.inr (h.new g (by simp [Value.ownBlock]))) _⟩
set_option maxHeartbeats 4000000 in
theorem rTick (A : Option Addr) (m c : Nat) (xs : List Int) (i : Int) (w : World) (hm : xs.length = m) (hb : m ≤ 100000) (h : Nums 0 w A xs) :
    Calls Try.prog 47 #[.slice A m c, .int .i64 i] w (Fresh w (tickM xs i)) := by
  have hsrc := Lib.hid h.src
  by_cases hi : i < 0 ∨ 63 < i
  · rw [tickM_out hi]
    have HL := Lib.hid hm
    clear h hm
    rcases hi with hi | hi
    · go_enter Try.func47, Try.ntmps47
      go_wp2_with (first
        | (at_builtin
           refine El.wpList_append (E := iE) Try.underlying23 rfl (.const (.slice none 0 0)) (.tmp 6) rfl (.slice none 0 0) [] rfl (El.Row.nil _) A m c xs rfl HL.out hsrc.out m (by simp) (by omega) ?_
           intro A1 cap1 w1 r1 g1 l1
           have R1 : Hid (Fr w w1 A1 m cap1 xs) := ⟨r1, HL.out, fun k hk => by (rcases l1 with l1 | l1 <;> rw [l1] at hk <;> simp [Value.ownBlock] at hk; omega), (Only.refl [] w).grown g1 (by simp [Value.ownBlock])⟩
           clear r1 g1 l1))
      go_ret
      exact R1.out.fresh
    · have hn : ¬ (i < 0) := by omega
      go_enter Try.func47, Try.ntmps47
      go_wp2_with (first
        | (at_builtin
           refine El.wpList_append (E := iE) Try.underlying23 rfl (.const (.slice none 0 0)) (.tmp 6) rfl (.slice none 0 0) [] rfl (El.Row.nil _) A m c xs rfl HL.out hsrc.out m (by simp) (by omega) ?_
           intro A1 cap1 w1 r1 g1 l1
           have R1 : Hid (Fr w w1 A1 m cap1 xs) := ⟨r1, HL.out, fun k hk => by (rcases l1 with l1 | l1 <;> rw [l1] at hk <;> simp [Value.ownBlock] at hk; omega), (Only.refl [] w).grown g1 (by simp [Value.ownBlock])⟩
           clear r1 g1 l1))
      go_ret
      exact R1.out.fresh
  · obtain ⟨k, rfl⟩ := Int.eq_ofNat_of_zero_le (by omega : 0 ≤ i)
    have hk : k ≤ 63 := by omega
    have E := Lib.hid (tickM_pad xs hk)
    rw [E.out]
    have HL := Lib.hid hm
    obtain ⟨M, hM⟩ : ∃ M : Nat, max m (k + 1) = M := ⟨_, rfl⟩
    have e2 : max xs.length (k + 1) = M := by rw [hm]; exact hM
    rw [e2]
    have HM := Lib.hid hM
    have hn : ¬ ((k : Int) < 0) := by omega
    have hn2 : ¬ (63 < (k : Int)) := by omega
    have hn3 : decide (63 < (k : Int)) = false := decide_eq_false hn2
    clear h hm hi hM e2
    go_enter Try.func47, Try.ntmps47
    go_wp2_with (first
      | (at_builtin
         refine El.wpList_append (E := iE) Try.underlying23 rfl (.const (.slice none 0 0)) (.tmp 6) rfl (.slice none 0 0) [] rfl (El.Row.nil _) A m c xs rfl HL.out hsrc.out m (by simp) (by omega) ?_
         intro A1 cap1 w1 r1 g1 l1
         have R1 : Hid (Fr w w1 A1 m cap1 xs) := ⟨r1, HL.out, fun k hk => by (rcases l1 with l1 | l1 <;> rw [l1] at hk <;> simp [Value.ownBlock] at hk; omega), (Only.refl [] w).grown g1 (by simp [Value.ownBlock])⟩
         clear r1 g1 l1))
    go_loopg [5] (M + 1) (fun gk sl wr => ∃ (p : Nat) (A1 : Option Addr) (cap1 : Nat), sl = .slice A1 p cap1 ∧ m ≤ p ∧ p ≤ M ∧ M + 1 ≤ gk + p ∧ Hid (Fr w wr A1 p cap1 (padM xs p)))
    case atStart => exact ⟨m, A1, cap1, rfl, by omega, by have := HM.out; omega, by omega, by have := R1.out; rw [← HL.out, padM_self]; rw [HL.out]; exact this⟩
    case round =>
      obtain ⟨p, A2, cap2, rfl, hmp, hp, hg, hR⟩ := hrel
      clear R1
      by_cases hpl : p ≤ k
      · have h1 : (p : Int) ≤ (k : Int) := by omega
        have hs := Lib.hid (padM_snoc xs (n := p) (by rw [HL.out]; exact hmp))
        go_wp2_with (first
          | (at_builtin
             refine wpList_app1 rfl (.tmp 19) (.tmp 20) rfl A2 p cap2 _ 0 rfl rfl hR.out (by have := HM.out; omega) ?_
             intro A3 cap3 w3 h9
             have R3 := Lib.hid h9
             clear h9))
        go_roundg (M + 1 - (p + 1))
        case measure => have := HM.out; omega
        case rel => exact ⟨p + 1, A3, cap3, rfl, by omega, by have := HM.out; omega, by have := HM.out; omega, by rw [hs.out]; exact R3.out⟩
      · have h1 : ¬ ((p : Int) ≤ (k : Int)) := by omega
        have h1' : decide ((p : Int) ≤ (k : Int)) = false := decide_eq_false h1
        have hkp : k < p := by omega
        have hpM : p = M := by have := HM.out; omega
        obtain ⟨g, cE, hgl, hc⟩ := hR.out.row.cell (padM_at xs hkp)
        subst cE
        obtain ⟨x0, xf0⟩ := hc 0 _ rfl
        simp only [Nat.mul_one, Nat.add_zero] at x0 xf0
        have F := Lib.hid ((hR.out.set k (wrap64 (gC xs k + 1))).fresh)
        have e3 : Hid (p = M) := hpM
        clear hR hc hpM hgl
        generalize hx : gC xs k = x at *
        go_wp2_with fail
        go_ret
        rw [← e3.out]
        exact F.out
end Go.Proofs.Ytmgmfihjojhilaa
