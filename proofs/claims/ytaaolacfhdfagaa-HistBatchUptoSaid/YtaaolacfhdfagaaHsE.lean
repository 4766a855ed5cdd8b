/-
  DeleteFunc and Clone over rows of calls.
-/
import Derived.Test.YtaaolacfhdfagaaHsD
namespace Go.Proofs.Ytaaolacfhdfagaa
set_option maxRecDepth 100000
open Go.RowKit
set_option linter.unusedVariables false
set_option linter.unusedSimpArgs false
set_option maxRecDepth 100000

set_option maxHeartbeats 4000000

theorem kDelO (u : World) (A : Option Addr) (n c : Nat) (L : List Dn) (hb : n ≤ 1000000) (h : kE.Row u (.slice A n c) L) :
    Calls Try.prog 30 #[.slice A n c, .func (.func 18) #[] #[]] u fun e w' =>
      ∃ n', e = .returned (.slice A n' c) ∧ kE.Row w' (.slice A n' c) (L.filter fun x => !opn x) ∧ Only ((Value.slice A n c).ownBlock.toList) u w' := by
  have hL : L.length = n := h.lenOf
  have k := kIdxO u A n c L hL hb (Dns.of_row rfl h)
  have HQ := Lib.hid (fun (x : Dn) (V : World) => kOpen x V)
  rcases hfi : L.findIdx? opn with _ | k0
  · rw [hfi] at k
    have hall : ∀ x, x ∈ L → opn x = false := List.findIdx?_eq_none_iff.1 hfi
    have F : Hid (L.filter (fun x => !opn x) = L) := by
      show _ = _
      rw [List.filter_eq_self]
      intro x hx
      simp [hall x hx]
    have R := Lib.hid h
    change Calls _ _ _ _ fun e w' => e = .returned (.int .i64 (-1)) ∧ _ at k
    clear h hfi hall
    go_enter Try.func30, Try.ntmps30
    go_wp2_with fail
    refine k.mono ?_
    rintro e w2 ⟨rfl, o2⟩
    have O2 := Lib.hid o2
    clear k o2
    go_wp2_with fail
    go_ret
    exact ⟨n, rfl, by rw [F.out]; exact R.out.only0 O2.out, O2.out.mono (by simp)⟩
  · rw [hfi] at k
    obtain ⟨hk0, hqk, hbk⟩ := List.findIdx?_eq_some_iff_getElem.1 hfi
    have D0 : Hid (DelX L L opn k0 (k0 + 1)) := DelX.start (List.getElem?_eq_getElem hk0) hqk (fun i y hi hy => by
      have h9 := hbk i hi
      obtain ⟨h8, h7⟩ := List.getElem?_eq_some_iff.1 hy
      rw [h7] at h9
      simpa using h9)
    rcases h.addr with rfl | ⟨g, rfl⟩
    · exfalso
      have h1 := (h.nilOf rfl).2
      rw [h1] at hk0
      simp at hk0
    · have hown : (Value.slice (some ⟨g, 0, none⟩) n c).ownBlock.toList = [g] := rfl
      rw [hown]
      have R := Lib.hid h
      have HL := Lib.hid hL
      have hne : ((k0 : Int) == -1) = false := by simp
      have hkn : k0 < n := by omega
      change Calls _ _ _ _ fun e w' => e = .returned (.int .i64 (k0 : Int)) ∧ _ at k
      clear h hfi hbk hqk hL
      go_enter Try.func30, Try.ntmps30
      go_wp2_with fail
      refine k.mono ?_
      rintro e w2 ⟨rfl, o2⟩
      have O2 := Lib.hid o2
      clear k o2
      go_wp2_with fail
      go_loopg [5, 6] (n + 1) (fun gk si sj wr => ∃ (i j : Nat) (M : List Dn), si = .int .i64 (i : Int) ∧ sj = .int .i64 (j : Int) ∧ j ≤ n ∧ n + 1 ≤ gk + j ∧ Hid (DelX L M opn i j ∧ kE.Row wr (.slice (some ⟨g, 0, none⟩) n c) M ∧ Only [g] u wr))
      case atStart => exact ⟨k0, k0 + 1, L, rfl, by simp, by omega, by omega, D0.out, R.out.only0 O2.out, O2.out.mono (by simp)⟩
      case round =>
        obtain ⟨i, j, M, rfl, rfl, hj, hg, S⟩ := hrel
        by_cases hjn : j < n
        · have h1 : (j : Int) < (n : Int) := by omega
          obtain ⟨x, hx⟩ : ∃ x, L[j]? = some x := ⟨_, List.getElem?_eq_getElem (by have := HL.out; omega)⟩
          have hM : M[j]? = some x := (S.out.1.back j (Nat.le_refl _)).trans hx
          obtain ⟨ge, ea, hc⟩ := Dns.of_row (E := kE) rfl S.out.2.1 j x hM
          injection ea with ea
          injection ea with ea
          subst ea
          have hin : i < n := by have := S.out.1.lt; omega
          have HX := Lib.hid hx
          have al := Only.alloc (Only.refl [] wr) (.cells #[.int .i64 x.who, .int .i64 x.place, .int .i64 x.op, .int .i64 x.f, .int .i64 x.a, .int .i64 x.b, .int .i64 x.e, .slice x.A x.m x.c, .int .i64 x.n, .int .u64 x.v, .int .i64 x.fr, .int .i64 x.to] 41)
          have OA := Lib.hid al
          have hxb := Lib.hid (DnAt.box wr x 41)
          obtain ⟨x0, x1, x2, x3, x4, x5, x6, x7, x8, x9, x10, x11⟩ := hc; (try simp only [Nat.zero_add] at x0 x1 x2 x3 x4 x5 x6 x7 x8 x9 x10 x11)
          clear hx hM al
          go_upto_region 8 with fail
          clear x0 x1 x2 x3 x4 x5 x6 x7 x8 x9 x10 x11
          have R1 : Hid (kE.Row (wr.alloc (.cells #[.int .i64 x.who, .int .i64 x.place, .int .i64 x.op, .int .i64 x.f, .int .i64 x.a, .int .i64 x.b, .int .i64 x.e, .slice x.A x.m x.c, .int .i64 x.n, .int .u64 x.v, .int .i64 x.fr, .int .i64 x.to] 41)) (.slice (some ⟨g, 0, none⟩) n c) M) := S.out.2.1.only0 OA.out
          generalize wr.alloc (.cells #[.int .i64 x.who, .int .i64 x.place, .int .i64 x.op, .int .i64 x.f, .int .i64 x.a, .int .i64 x.b, .int .i64 x.e, .slice x.A x.m x.c, .int .i64 x.n, .int .u64 x.v, .int .i64 x.fr, .int .i64 x.to] 41) = W at *
          generalize wr.heap.size = bx at *
          obtain ⟨x0, x1, x2, x3, x4, x5, x6, x7, x8, x9, x10, x11⟩ := hxb.out; (try simp only [Nat.zero_add] at x0 x1 x2 x3 x4 x5 x6 x7 x8 x9 x10 x11)
          have qc := Lib.hid (HQ.out x W)
          rcases hqx : opn x
          · rw [hqx] at qc
            have D := Lib.hid (S.out.1.keep HX.out hqx)
            clear hqx
            go_wp2_with fail
            refine qc.out.mono ?_
            rintro e w3 ⟨rfl, o3⟩
            have R3 := Lib.hid (R1.out.only0 o3)
            have O3 : Hid (Only [g] u w3) := (S.out.2.2.trans OA.out (by simp)).trans o3 (by simp)
            obtain ⟨y, hy⟩ : ∃ y, M[i]? = some y := ⟨_, List.getElem?_eq_getElem (by have := S.out.1.len; have := HL.out; omega)⟩
            obtain ⟨ge, ea, hyc⟩ := Dns.of_row (E := kE) rfl R3.out i y hy
            injection ea with ea
            injection ea with ea
            subst ea
            have hxc := hxb.out.only0 o3
            have hML : Hid (M.length = n) := by show _ = _; have := S.out.1.len; have := HL.out; omega
            have hfr : ∀ k, w3.frozen? ⟨g, k, none⟩ = false := fun k => R3.out.frozen k (by rw [hML.out]; omega)
            clear qc o3 hy x0 x1 x2 x3 x4 x5 x6 x7 x8 x9 x10 x11
            obtain ⟨x0, x1, x2, x3, x4, x5, x6, x7, x8, x9, x10, x11⟩ := hxc; (try simp only [Nat.zero_add] at x0 x1 x2 x3 x4 x5 x6 x7 x8 x9 x10 x11)
            obtain ⟨y0, y1, y2, y3, y4, y5, y6, y7, y8, y9, y10, y11⟩ := hyc; (try simp only [Nat.zero_add] at y0 y1 y2 y3 y4 y5 y6 y7 y8 y9 y10 y11)
            have f0 := hfr (i * 12)
            have f1 := hfr (i * 12 + 1)
            have f2 := hfr (i * 12 + 2)
            have f3 := hfr (i * 12 + 3)
            have f4 := hfr (i * 12 + 4)
            have f5 := hfr (i * 12 + 5)
            have f6 := hfr (i * 12 + 6)
            have f7 := hfr (i * 12 + 7)
            have f8 := hfr (i * 12 + 8)
            have f9 := hfr (i * 12 + 9)
            have f10 := hfr (i * 12 + 10)
            have f11 := hfr (i * 12 + 11)
            clear hfr
            go_wp2_with fail
            go_roundg (n + 1 - (j + 1))
            case measure => omega
            case rel =>
              exact ⟨i + 1, j + 1, _, by simp, by simp, by omega, by omega, D.out, R3.out.store12 rfl i x (by rw [hML.out]; exact hin), O3.out.set12 g (i * 12) x (.inl (by simp))⟩
          · rw [hqx] at qc
            have D := Lib.hid (S.out.1.skip HX.out hqx)
            clear hqx
            go_wp2_with fail
            refine qc.out.mono ?_
            rintro e w3 ⟨rfl, o3⟩
            have R3 := Lib.hid (R1.out.only0 o3)
            have O3 : Hid (Only [g] u w3) := (S.out.2.2.trans OA.out (by simp)).trans o3 (by simp)
            clear qc o3 x0 x1 x2 x3 x4 x5 x6 x7 x8 x9 x10 x11
            go_wp2_with fail
            go_roundg (n + 1 - (j + 1))
            case measure => omega
            case rel => exact ⟨i, j + 1, M, rfl, by simp, by omega, by omega, D.out, R3.out, O3.out⟩
        · have h2 : ¬ ((j : Int) < (n : Int)) := by omega
          have h3 : decide ((j : Int) < (n : Int)) = false := decide_eq_false h2
          have hin : i < n := by have := S.out.1.lt; omega
          have hi2 : (i : Int) ≤ (n : Int) := by omega
          have hi3 : i ≤ n := by omega
          have hi4 : ¬ ((n : Int) < (i : Int)) := by omega
          have hcn : n ≤ c := S.out.2.1.capOf
          have hic : i ≤ c := by omega
          have hML : Hid (M.length = n) := by show _ = _; have := S.out.1.len; have := HL.out; omega
          have CL : Hid (∀ k, k < (n - i) * 12 → (wr.cell? ⟨g, i * 12 + k, none⟩).isSome = true ∧ wr.frozen? ⟨g, i * 12 + k, none⟩ = false) := fun k hk => by
            obtain ⟨y, hy⟩ : ∃ y, M[i + k / 12]? = some y := ⟨_, List.getElem?_eq_getElem (by rw [hML.out]; omega)⟩
            obtain ⟨g', e', _, hc⟩ := S.out.2.1.cell hy
            injection e' with e'
            injection e' with e'
            subst e'
            have hl : k % 12 < (kE.cs y).length := by rw [kE.len]; omega
            obtain ⟨h7, h8⟩ := hc (k % 12) _ (List.getElem?_eq_getElem hl)
            rw [show (i + k / 12) * 12 + k % 12 = i * 12 + k by omega] at h7 h8
            exact ⟨by rw [h7]; rfl, h8⟩
          have FI : Hid (L.filter (fun x => !opn x) = M.take i) := by
            show _ = _
            rw [S.out.1.front]
            have : L.take j = L := List.take_of_length_le (by have := HL.out; omega)
            rw [this]
          have hclr := run_clearK wr 0 g (i * 12) (n - i) (c - i) (by omega) (fun k hk => (CL.out k hk).1) (fun k hk => (CL.out k hk).2)
          have R2 : Hid (kE.Row (wr.setCells g (i * 12) (kE.flat (List.replicate (n - i) default))) (.slice (some ⟨g, 0, none⟩) i c) (L.filter fun x => !opn x) ∧ Only [g] u (wr.setCells g (i * 12) (kE.flat (List.replicate (n - i) default)))) := by
            refine ⟨?_, S.out.2.2.trans (Only.setCells g _ (i * 12) wr) (fun k hk => .inl hk)⟩
            have h9 := S.out.2.1.cutN (p := i) (by rw [hML.out]; omega)
            rw [FI.out]
            exact h9.farN (i * 12) (by rw [List.length_take]; omega) _
          generalize wr.setCells g (i * 12) (kE.flat (List.replicate (n - i) default)) = W2 at *
          go_wp2_with fail
          go_ret
          exact ⟨i, rfl, R2.out.1, R2.out.2⟩

theorem kDelB (u : World) (A : Option Addr) (n c : Nat) (L : List Dn) (hb : n ≤ 1000000) (h : kE.Row u (.slice A n c) L) :
    Calls Try.prog 30 #[.slice A n c, .func (.func 31) #[] #[]] u fun e w' =>
      ∃ n', e = .returned (.slice A n' c) ∧ kE.Row w' (.slice A n' c) (L.filter fun x => !backB x) ∧ Only ((Value.slice A n c).ownBlock.toList) u w' := by
  have hL : L.length = n := h.lenOf
  have k := kIdxB u A n c L hL hb (Dns.of_row rfl h)
  have HQ := Lib.hid (fun (x : Dn) (V : World) => kBack x V)
  rcases hfi : L.findIdx? backB with _ | k0
  · rw [hfi] at k
    have hall : ∀ x, x ∈ L → backB x = false := List.findIdx?_eq_none_iff.1 hfi
    have F : Hid (L.filter (fun x => !backB x) = L) := by
      show _ = _
      rw [List.filter_eq_self]
      intro x hx
      simp [hall x hx]
    have R := Lib.hid h
    change Calls _ _ _ _ fun e w' => e = .returned (.int .i64 (-1)) ∧ _ at k
    clear h hfi hall
    go_enter Try.func30, Try.ntmps30
    go_wp2_with fail
    refine k.mono ?_
    rintro e w2 ⟨rfl, o2⟩
    have O2 := Lib.hid o2
    clear k o2
    go_wp2_with fail
    go_ret
    exact ⟨n, rfl, by rw [F.out]; exact R.out.only0 O2.out, O2.out.mono (by simp)⟩
  · rw [hfi] at k
    obtain ⟨hk0, hqk, hbk⟩ := List.findIdx?_eq_some_iff_getElem.1 hfi
    have D0 : Hid (DelX L L backB k0 (k0 + 1)) := DelX.start (List.getElem?_eq_getElem hk0) hqk (fun i y hi hy => by
      have h9 := hbk i hi
      obtain ⟨h8, h7⟩ := List.getElem?_eq_some_iff.1 hy
      rw [h7] at h9
      simpa using h9)
    rcases h.addr with rfl | ⟨g, rfl⟩
    · exfalso
      have h1 := (h.nilOf rfl).2
      rw [h1] at hk0
      simp at hk0
    · have hown : (Value.slice (some ⟨g, 0, none⟩) n c).ownBlock.toList = [g] := rfl
      rw [hown]
      have R := Lib.hid h
      have HL := Lib.hid hL
      have hne : ((k0 : Int) == -1) = false := by simp
      have hkn : k0 < n := by omega
      change Calls _ _ _ _ fun e w' => e = .returned (.int .i64 (k0 : Int)) ∧ _ at k
      clear h hfi hbk hqk hL
      go_enter Try.func30, Try.ntmps30
      go_wp2_with fail
      refine k.mono ?_
      rintro e w2 ⟨rfl, o2⟩
      have O2 := Lib.hid o2
      clear k o2
      go_wp2_with fail
      go_loopg [5, 6] (n + 1) (fun gk si sj wr => ∃ (i j : Nat) (M : List Dn), si = .int .i64 (i : Int) ∧ sj = .int .i64 (j : Int) ∧ j ≤ n ∧ n + 1 ≤ gk + j ∧ Hid (DelX L M backB i j ∧ kE.Row wr (.slice (some ⟨g, 0, none⟩) n c) M ∧ Only [g] u wr))
      case atStart => exact ⟨k0, k0 + 1, L, rfl, by simp, by omega, by omega, D0.out, R.out.only0 O2.out, O2.out.mono (by simp)⟩
      case round =>
        obtain ⟨i, j, M, rfl, rfl, hj, hg, S⟩ := hrel
        by_cases hjn : j < n
        · have h1 : (j : Int) < (n : Int) := by omega
          obtain ⟨x, hx⟩ : ∃ x, L[j]? = some x := ⟨_, List.getElem?_eq_getElem (by have := HL.out; omega)⟩
          have hM : M[j]? = some x := (S.out.1.back j (Nat.le_refl _)).trans hx
          obtain ⟨ge, ea, hc⟩ := Dns.of_row (E := kE) rfl S.out.2.1 j x hM
          injection ea with ea
          injection ea with ea
          subst ea
          have hin : i < n := by have := S.out.1.lt; omega
          have HX := Lib.hid hx
          have al := Only.alloc (Only.refl [] wr) (.cells #[.int .i64 x.who, .int .i64 x.place, .int .i64 x.op, .int .i64 x.f, .int .i64 x.a, .int .i64 x.b, .int .i64 x.e, .slice x.A x.m x.c, .int .i64 x.n, .int .u64 x.v, .int .i64 x.fr, .int .i64 x.to] 41)
          have OA := Lib.hid al
          have hxb := Lib.hid (DnAt.box wr x 41)
          obtain ⟨x0, x1, x2, x3, x4, x5, x6, x7, x8, x9, x10, x11⟩ := hc; (try simp only [Nat.zero_add] at x0 x1 x2 x3 x4 x5 x6 x7 x8 x9 x10 x11)
          clear hx hM al
          go_upto_region 8 with fail
          clear x0 x1 x2 x3 x4 x5 x6 x7 x8 x9 x10 x11
          have R1 : Hid (kE.Row (wr.alloc (.cells #[.int .i64 x.who, .int .i64 x.place, .int .i64 x.op, .int .i64 x.f, .int .i64 x.a, .int .i64 x.b, .int .i64 x.e, .slice x.A x.m x.c, .int .i64 x.n, .int .u64 x.v, .int .i64 x.fr, .int .i64 x.to] 41)) (.slice (some ⟨g, 0, none⟩) n c) M) := S.out.2.1.only0 OA.out
          generalize wr.alloc (.cells #[.int .i64 x.who, .int .i64 x.place, .int .i64 x.op, .int .i64 x.f, .int .i64 x.a, .int .i64 x.b, .int .i64 x.e, .slice x.A x.m x.c, .int .i64 x.n, .int .u64 x.v, .int .i64 x.fr, .int .i64 x.to] 41) = W at *
          generalize wr.heap.size = bx at *
          obtain ⟨x0, x1, x2, x3, x4, x5, x6, x7, x8, x9, x10, x11⟩ := hxb.out; (try simp only [Nat.zero_add] at x0 x1 x2 x3 x4 x5 x6 x7 x8 x9 x10 x11)
          have qc := Lib.hid (HQ.out x W)
          rcases hqx : backB x
          · rw [hqx] at qc
            have D := Lib.hid (S.out.1.keep HX.out hqx)
            clear hqx
            go_wp2_with fail
            refine qc.out.mono ?_
            rintro e w3 ⟨rfl, o3⟩
            have R3 := Lib.hid (R1.out.only0 o3)
            have O3 : Hid (Only [g] u w3) := (S.out.2.2.trans OA.out (by simp)).trans o3 (by simp)
            obtain ⟨y, hy⟩ : ∃ y, M[i]? = some y := ⟨_, List.getElem?_eq_getElem (by have := S.out.1.len; have := HL.out; omega)⟩
            obtain ⟨ge, ea, hyc⟩ := Dns.of_row (E := kE) rfl R3.out i y hy
            injection ea with ea
            injection ea with ea
            subst ea
            have hxc := hxb.out.only0 o3
            have hML : Hid (M.length = n) := by show _ = _; have := S.out.1.len; have := HL.out; omega
            have hfr : ∀ k, w3.frozen? ⟨g, k, none⟩ = false := fun k => R3.out.frozen k (by rw [hML.out]; omega)
            clear qc o3 hy x0 x1 x2 x3 x4 x5 x6 x7 x8 x9 x10 x11
            obtain ⟨x0, x1, x2, x3, x4, x5, x6, x7, x8, x9, x10, x11⟩ := hxc; (try simp only [Nat.zero_add] at x0 x1 x2 x3 x4 x5 x6 x7 x8 x9 x10 x11)
            obtain ⟨y0, y1, y2, y3, y4, y5, y6, y7, y8, y9, y10, y11⟩ := hyc; (try simp only [Nat.zero_add] at y0 y1 y2 y3 y4 y5 y6 y7 y8 y9 y10 y11)
            have f0 := hfr (i * 12)
            have f1 := hfr (i * 12 + 1)
            have f2 := hfr (i * 12 + 2)
            have f3 := hfr (i * 12 + 3)
            have f4 := hfr (i * 12 + 4)
            have f5 := hfr (i * 12 + 5)
            have f6 := hfr (i * 12 + 6)
            have f7 := hfr (i * 12 + 7)
            have f8 := hfr (i * 12 + 8)
            have f9 := hfr (i * 12 + 9)
            have f10 := hfr (i * 12 + 10)
            have f11 := hfr (i * 12 + 11)
            clear hfr
            go_wp2_with fail
            go_roundg (n + 1 - (j + 1))
            case measure => omega
            case rel =>
              exact ⟨i + 1, j + 1, _, by simp, by simp, by omega, by omega, D.out, R3.out.store12 rfl i x (by rw [hML.out]; exact hin), O3.out.set12 g (i * 12) x (.inl (by simp))⟩
          · rw [hqx] at qc
            have D := Lib.hid (S.out.1.skip HX.out hqx)
            clear hqx
            go_wp2_with fail
            refine qc.out.mono ?_
            rintro e w3 ⟨rfl, o3⟩
            have R3 := Lib.hid (R1.out.only0 o3)
            have O3 : Hid (Only [g] u w3) := (S.out.2.2.trans OA.out (by simp)).trans o3 (by simp)
            clear qc o3 x0 x1 x2 x3 x4 x5 x6 x7 x8 x9 x10 x11
            go_wp2_with fail
            go_roundg (n + 1 - (j + 1))
            case measure => omega
            case rel => exact ⟨i, j + 1, M, rfl, by simp, by omega, by omega, D.out, R3.out, O3.out⟩
        · have h2 : ¬ ((j : Int) < (n : Int)) := by omega
          have h3 : decide ((j : Int) < (n : Int)) = false := decide_eq_false h2
          have hin : i < n := by have := S.out.1.lt; omega
          have hi2 : (i : Int) ≤ (n : Int) := by omega
          have hi3 : i ≤ n := by omega
          have hi4 : ¬ ((n : Int) < (i : Int)) := by omega
          have hcn : n ≤ c := S.out.2.1.capOf
          have hic : i ≤ c := by omega
          have hML : Hid (M.length = n) := by show _ = _; have := S.out.1.len; have := HL.out; omega
          have CL : Hid (∀ k, k < (n - i) * 12 → (wr.cell? ⟨g, i * 12 + k, none⟩).isSome = true ∧ wr.frozen? ⟨g, i * 12 + k, none⟩ = false) := fun k hk => by
            obtain ⟨y, hy⟩ : ∃ y, M[i + k / 12]? = some y := ⟨_, List.getElem?_eq_getElem (by rw [hML.out]; omega)⟩
            obtain ⟨g', e', _, hc⟩ := S.out.2.1.cell hy
            injection e' with e'
            injection e' with e'
            subst e'
            have hl : k % 12 < (kE.cs y).length := by rw [kE.len]; omega
            obtain ⟨h7, h8⟩ := hc (k % 12) _ (List.getElem?_eq_getElem hl)
            rw [show (i + k / 12) * 12 + k % 12 = i * 12 + k by omega] at h7 h8
            exact ⟨by rw [h7]; rfl, h8⟩
          have FI : Hid (L.filter (fun x => !backB x) = M.take i) := by
            show _ = _
            rw [S.out.1.front]
            have : L.take j = L := List.take_of_length_le (by have := HL.out; omega)
            rw [this]
          have hclr := run_clearK wr 0 g (i * 12) (n - i) (c - i) (by omega) (fun k hk => (CL.out k hk).1) (fun k hk => (CL.out k hk).2)
          have R2 : Hid (kE.Row (wr.setCells g (i * 12) (kE.flat (List.replicate (n - i) default))) (.slice (some ⟨g, 0, none⟩) i c) (L.filter fun x => !backB x) ∧ Only [g] u (wr.setCells g (i * 12) (kE.flat (List.replicate (n - i) default)))) := by
            refine ⟨?_, S.out.2.2.trans (Only.setCells g _ (i * 12) wr) (fun k hk => .inl hk)⟩
            have h9 := S.out.2.1.cutN (p := i) (by rw [hML.out]; omega)
            rw [FI.out]
            exact h9.farN (i * 12) (by rw [List.length_take]; omega) _
          generalize wr.setCells g (i * 12) (kE.flat (List.replicate (n - i) default)) = W2 at *
          go_wp2_with fail
          go_ret
          exact ⟨i, rfl, R2.out.1, R2.out.2⟩

/-- slices.Clone of a row of calls. -/
theorem kClone (u : World) (A : Option Addr) (n c : Nat) (L : List Dn) (hA : A = none → n = 0) (hL : L.length = n) (hb : n ≤ 1000000) (h : kE.Src u A L) :
    Calls Try.prog 32 #[.slice A n c] u fun e w' => ∃ A2 c2, e = .returned (.slice A2 n c2) ∧ kE.Row w' (.slice A2 n c2) L ∧ (∀ k, (Value.slice A2 n c2).ownBlock = some k → u.heap.size ≤ k) ∧ Only [] u w' := by
  rcases A with _ | a
  · obtain rfl := hA rfl
    have hL0 : L = [] := List.length_eq_zero_iff.1 hL
    subst hL0
    have hnil := fun (W : World) => Lib.run_eql_slice_nil (P := Try.prog) W 53 41 none 0 c 0 0 Try.underlying53
    clear h
    go_enter Try.func32, Try.ntmps32
    go_wp2
    go_ret
    exact ⟨none, 0, rfl, El.Row.nil _, fun k hk => by simp [Value.ownBlock] at hk, Only.refl _ _⟩
  · have hnil := fun (W : World) => Lib.run_eql_slice_nil (P := Try.prog) W 53 41 (some a) n c 0 0 Try.underlying53
    have hr0 : kE.Row (u.alloc (.cells #[] 41)) (.slice (some ⟨u.heap.size, 0, none⟩) 0 0) [] :=
      ⟨by simp [El.flat], .inr ⟨u.heap.size, 0, _, rfl, Nat.zero_le _, heap_alloc_new u _, Nat.le_refl _, by unfold maxLen; omega, by simp, by simp [El.flat]⟩⟩
    have OA := Lib.hid (Only.alloc (Only.refl [] u) (.cells #[] 41))
    have HS := Lib.hid (h.only0 OA.out)
    have HR := Lib.hid hr0
    have HL := Lib.hid hL
    clear h hr0 hL
    go_enter Try.func32, Try.ntmps32
    go_upto_region 3 with fail
    go_wp2_with (at_builtin; refine El.wpList_append (E := kE) Try.underlying53 rfl (.tmp 5) (.tmp 6) rfl (.slice (some ⟨u.heap.size, 0, none⟩) 0 0) [] rfl HR.out (some a) n c L rfl HL.out HS.out n (by simp) (by omega) ?_)
    intro A2 c2 w2 h2 g2 l2
    have H2 := Lib.hid (And.intro h2 (And.intro g2 l2))
    clear h2 g2 l2
    go_wp2_with fail
    go_ret
    refine ⟨A2, c2, rfl, by have := H2.out.1; simpa using this, fun k hk => ?_, OA.out.grown H2.out.2.1 (fun k hk => .inr (by simp [Value.ownBlock] at hk; omega))⟩
    have := H2.out.2.2
    rw [hk] at this
    simp [Value.ownBlock] at this
    omega

end Go.Proofs.Ytaaolacfhdfagaa
