/-
  DeleteFunc: what stays.
-/
import Derived.Test.YtmgmfihjojhilaaRcH
namespace Go.Proofs.Ytmgmfihjojhilaa
set_option maxRecDepth 100000
open Go.RowKit
set_option linter.unusedVariables false
set_option linter.unusedSimpArgs false
set_option maxRecDepth 100000

theorem iRow_own {w : World} {A : Option Addr} {n c : Nat} {L : List Int} (h : iE.Row w (.slice A n c) L) : A = none ∨ ∃ g, A = some ⟨g, 0, none⟩ := by
  rcases h.2 with ⟨e, _⟩ | ⟨g, cap, cur, e, _⟩
  · injection e with e; exact .inl e
  · injection e with e; exact .inr ⟨g, e⟩
theorem iRow_lenOf {w : World} {A : Option Addr} {n c : Nat} {L : List Int} (h : iE.Row w (.slice A n c) L) : L.length = n := by
  rcases h.2 with ⟨e, e2⟩ | ⟨g, cap, cur, e, _⟩
  · injection e with _ e _; omega
  · injection e with _ e _; exact e.symm
theorem iRow_cell {w : World} {g n c : Nat} {L : List Nat} (h : iE.Row w (.slice (some ⟨g, 0, none⟩) n c) (natI L)) {k x : Nat} (hk : L[k]? = some x) : w.cell? ⟨g, k, none⟩ = some (.int .i64 (x : Int)) ∧ w.frozen? ⟨g, k, none⟩ = false := by
  obtain ⟨g', e, _, hc⟩ := h.cell (natI_at hk)
  injection e with e
  injection e with e
  subst e
  have h0 := hc 0 _ rfl
  simpa using h0
set_option maxHeartbeats 4000000 in
theorem cDelete (u : World) (A : Option Addr) (n c : Nat) (L : List Nat) (bl bj : Nat) (q : Nat → Bool) (hb : n ≤ 1000) (h : iE.Row u (.slice A n c) (natI L))
    (hq : ∀ (u' : World), Only ((Value.slice A n c).ownBlock.toList) u u' → ∀ i : Nat, i ∈ L → Calls Try.prog 36 #[.int .i64 (i : Int), .pointer (some ⟨bl, 0, none⟩), .pointer (some ⟨bj, 0, none⟩)] u' fun e w' => e = .returned (.bool (q i)) ∧ Only [] u' w') :
    Calls Try.prog 35 #[.slice A n c, .func (.func 36) #[] #[.pointer (some ⟨bl, 0, none⟩), .pointer (some ⟨bj, 0, none⟩)]] u fun e w' =>
      ∃ n', e = .returned (.slice A n' c) ∧ iE.Row w' (.slice A n' c) (natI (L.filter fun x => !q x)) ∧ Only ((Value.slice A n c).ownBlock.toList) u w' := by
  have hL : L.length = n := by rw [← natI_len]; exact iRow_lenOf h
  have k := cIdx2 u A n c L bl bj q hL hb (Nums.of_row (B := 0) h (fun _ _ => Nat.zero_le _)) (fun u' o => hq u' (o.mono (by simp)))
  rcases hfi : L.findIdx? q with _ | k0
  · rw [hfi] at k
    have hall : ∀ x, x ∈ L → q x = false := List.findIdx?_eq_none_iff.1 hfi
    have F : Hid (L.filter (fun x => !q x) = L) := by
      show _ = _
      rw [List.filter_eq_self]
      intro x hx
      simp [hall x hx]
    have R := Lib.hid h
    change Calls _ _ _ _ fun e w' => e = .returned (.int .i64 (-1)) ∧ _ at k
    clear hq h hfi hall
    go_enter Try.func35, Try.ntmps35
    go_wp2_with fail
    refine k.mono ?_
    rintro e w2 ⟨rfl, o2⟩
    have O2 := Lib.hid o2
    clear k o2
    go_wp2_with fail
    go_ret
    exact ⟨n, rfl, by rw [F.out]; exact R.out.only0 O2.out, O2.out.mono (by simp)⟩
  · rw [hfi] at k
    obtain ⟨hk0, hqk, hbk⟩ := List.findIdx?_eq_some_iff_getElem.1 hfi
    have D0 : Hid (Del L L q k0 (k0 + 1)) := Del.start (List.getElem?_eq_getElem hk0) hqk (fun i y hi hy => by
      have h9 := hbk i hi
      obtain ⟨h8, h7⟩ := List.getElem?_eq_some_iff.1 hy
      rw [h7] at h9
      simpa using h9)
    rcases iRow_own h with rfl | ⟨g, rfl⟩
    · exfalso
      have := (h.nilOf rfl).2
      have : L.length = 0 := by rw [← natI_len, this]; rfl
      omega
    · have hown : (Value.slice (some ⟨g, 0, none⟩) n c).ownBlock.toList = [g] := rfl
      rw [hown] at hq ⊢
      have HQ := Lib.hid hq
      have R := Lib.hid h
      have HL := Lib.hid hL
      have hne : ((k0 : Int) == -1) = false := by simp
      have hkn : k0 < n := by omega
      change Calls _ _ _ _ fun e w' => e = .returned (.int .i64 (k0 : Int)) ∧ _ at k
      clear hq h hfi hbk hqk hL
      go_enter Try.func35, Try.ntmps35
      go_wp2_with fail
      refine k.mono ?_
      rintro e w2 ⟨rfl, o2⟩
      have O2 := Lib.hid o2
      clear k o2
      go_wp2_with fail
      go_loopg [5, 6] (n + 1) (fun gk si sj wr => ∃ (i j : Nat) (M : List Nat), si = .int .i64 (i : Int) ∧ sj = .int .i64 (j : Int) ∧ j ≤ n ∧ n + 1 ≤ gk + j ∧ Hid (Del L M q i j ∧ iE.Row wr (.slice (some ⟨g, 0, none⟩) n c) (natI M) ∧ Only [g] u wr))
      case atStart => exact ⟨k0, k0 + 1, L, rfl, by simp, by omega, by omega, D0.out, R.out.only0 O2.out, O2.out.mono (by simp)⟩
      case round =>
        obtain ⟨i, j, M, rfl, rfl, hj, hg, S⟩ := hrel
        by_cases hjn : j < n
        · have h1 : (j : Int) < (n : Int) := by omega
          obtain ⟨x, hx⟩ : ∃ x, L[j]? = some x := ⟨_, List.getElem?_eq_getElem (by have := HL.out; omega)⟩
          have hM : M[j]? = some x := (S.out.1.back j (Nat.le_refl _)).trans hx
          obtain ⟨x0, _⟩ := iRow_cell S.out.2.1 hM
          have hin : i < n := by have := S.out.1.lt; omega
          have qc := Lib.hid (HQ.out wr S.out.2.2 x (List.mem_of_getElem? hx))
          have HX := Lib.hid hx
          clear hx hM
          rcases hqx : q x
          · rw [hqx] at qc
            have D := Lib.hid (S.out.1.keep HX.out hqx)
            clear hqx
            go_wp2_with fail
            refine qc.out.mono ?_
            rintro e w3 ⟨rfl, o3⟩
            have R3 := Lib.hid (S.out.2.1.only0 o3)
            have O3 := Lib.hid (S.out.2.2.trans o3 (by simp))
            obtain ⟨y, hy⟩ : ∃ y, M[i]? = some y := ⟨_, List.getElem?_eq_getElem (by have := S.out.1.len; have := HL.out; omega)⟩
            obtain ⟨y0, yf0⟩ := iRow_cell R3.out hy
            clear qc o3 hy x0
            go_wp2_with fail
            go_roundg (n + 1 - (j + 1))
            case measure => omega
            case rel =>
              exact ⟨i + 1, j + 1, _, by simp, by simp, by omega, by omega, D.out, by rw [natI_set]; exact R3.out.store1 i _ _ rfl, O3.out.setCell (.inl (by simp)) _⟩
          · rw [hqx] at qc
            have D := Lib.hid (S.out.1.skip HX.out hqx)
            clear hqx
            go_wp2_with fail
            refine qc.out.mono ?_
            rintro e w3 ⟨rfl, o3⟩
            have R3 := Lib.hid (S.out.2.1.only0 o3)
            have O3 := Lib.hid (S.out.2.2.trans o3 (by simp))
            clear qc o3 x0
            go_wp2_with fail
            go_roundg (n + 1 - (j + 1))
            case measure => omega
            case rel => exact ⟨i, j + 1, M, rfl, by simp, by omega, by omega, D.out, R3.out, O3.out⟩
        · have h2 : ¬ ((j : Int) < (n : Int)) := by omega
          have h3 : decide ((j : Int) < (n : Int)) = false := decide_eq_false h2
          have hin : i < n := by have := S.out.1.lt; omega
          have hi2 : (i : Int) ≤ (n : Int) := by omega
          have hi3 : i ≤ n := by omega
          have hi4 : ¬ ((n : Int) < (i : Int)) := by omega
          have hcn : n ≤ c := by
            rcases S.out.2.1.2 with ⟨e, _⟩ | ⟨g', cap, cur, e, _, _, hnc, _⟩
            · cases e
            · injection e with _ e2 e3
              omega
          have hic : i ≤ c := by omega
          have CL : Hid (∀ k, k < n - i → (wr.cell? ⟨g, i + k, none⟩).isSome = true ∧ wr.frozen? ⟨g, i + k, none⟩ = false) := fun k hk => by
            obtain ⟨y, hy⟩ : ∃ y, M[i + k]? = some y := ⟨_, List.getElem?_eq_getElem (by have := S.out.1.len; have := HL.out; omega)⟩
            obtain ⟨y0, yf0⟩ := iRow_cell S.out.2.1 hy
            exact ⟨by rw [y0]; rfl, yf0⟩
          have FI : Hid (L.filter (fun x => !q x) = M.take i) := by
            show _ = _
            rw [S.out.1.front]
            have : L.take j = L := List.take_of_length_le (by have := HL.out; omega)
            rw [this]
          have hclr := Lib.run_clear_slice (P := Try.prog) wr 23 3 0 (.int .i64 0) Try.underlying23 zero_int rfl rfl g i (n - i) (c - i) (by omega) (fun k hk => (CL.out k hk).1) (fun k hk => (CL.out k hk).2)
          have R2 : Hid (iE.Row (wr.setCells g i (List.replicate (n - i) (.int .i64 0))) (.slice (some ⟨g, 0, none⟩) i c) (natI (L.filter fun x => !q x)) ∧ Only [g] u (wr.setCells g i (List.replicate (n - i) (.int .i64 0)))) := by
            refine ⟨?_, S.out.2.2.trans (Only.setCells g _ i wr) (fun k hk => .inl hk)⟩
            have h9 := iRow_cut S.out.2.1 (m := i) (by rw [natI_len]; have := S.out.1.len; have := HL.out; omega)
            rw [FI.out, natI_take]
            exact iRow_cells _ i wr (by rw [List.length_take]; omega) h9
          generalize wr.setCells g i (List.replicate (n - i) (.int .i64 0)) = W2 at *
          go_wp2_with fail
          go_ret
          exact ⟨i, rfl, R2.out.1, R2.out.2⟩
end Go.Proofs.Ytmgmfihjojhilaa
