/-
  weighbridgelaw14.HistMost returns true for every input, and leaves its arguments as they were. No condition but that the arguments are values of their types.
-/
import Derived.Test.YtocokmjobbmodaaRows
import Derived.Test.YtocokmjobbmodaaHsW
import Derived.Test.YtocokmjobbmodaaHsX
import Derived.Test.YtocokmjobbmodaaHsO
import Derived.Test.YtocokmjobbmodaaHsT
import Derived.WalkKit
import Derived.ProofKit
import Derived.OpenShut
import Derived.ChangeOld
import Derived.Below
import Derived.Carry
namespace Go.Proofs.Ytocokmjobbmodaa.histMost
open Go.ChangeShapes Go.WideShapes Go.ChangeAt Go.RowKit
set_option linter.unusedVariables false
set_option linter.unusedSimpArgs false
set_option maxRecDepth 100000

set_option maxHeartbeats 8000000
theorem walk (a0 : Option Addr) (len0 cap0 : Nat) (z0 : Nat → Dn) (p0 : Nat → List Pk) (w : World) (w0 : InDns w a0 len0 z0) (q0 : ∀ k, k < len0 → InPk w (z0 k) (p0 k)) :
    Calls Try.prog 8 #[.slice a0 len0 cap0] w fun e w' => e = .returned (.bool true) ∧ Below w.heap.size w w' := by
  have ld := lLaid w a0 len0 cap0 z0 w0
  go_enter Try.func8, Try.ntmps8
  go_wp2_with fail
  refine ld.mono ?_
  rintro e W ⟨A2, n, c2, rfl, L, hfr, hl⟩
  have FR := Lib.hid hfr
  have LL := Lib.hid hl
  have LEN : Hid (L.length = n) := hfr.len
  have hb : n ≤ 40 := by have := hl.len; have := hfr.len; omega
  have DN : Hid (∀ V, Only [] W V → Dns V A2 L) := fun V o => hfr.dns.only0 o
  have k2 := Lib.hid (fun (V : World) (o : Only [] W V) => cMost A2 n c2 L V LEN.out (by omega) (DN.out V o))
  have B0 := heap_alloc_new W (.cells #[.bool false, .bool false, .bool false, .bool false] 46)
  have K0 : Hid (Only [] W (W.alloc (.cells #[.bool false, .bool false, .bool false, .bool false] 46)) ∧ ∀ V, Only [] (W.alloc (.cells #[.bool false, .bool false, .bool false, .bool false] 46)) V → ∀ j, j < 4 → V.cell? ⟨W.heap.size, j, none⟩ = some (.bool ((fun _ => false : Nat → Bool) j)) ∧ V.frozen? ⟨W.heap.size, j, none⟩ = false) := by
    refine ⟨(Only.refl [] W).alloc _, fun V o j hj => ?_⟩
    have hb := o.get B0 (by simp)
    refine ⟨?_, frozen_of hb j⟩
    rw [cell_of_row _ _ _ _ _ (0, 0) hb]
    match j, hj with
    | 0, _ => rfl
    | 1, _ => rfl
    | 2, _ => rfl
    | 3, _ => rfl
  have GE : Hid (W.heap.size ≤ W.heap.size) := Nat.le_refl _
  clear ld hfr hl B0
  go_wp2_with fail
  generalize W.alloc (.cells #[.bool false, .bool false, .bool false, .bool false] 46) = W1 at *
  obtain ⟨bo, hbo⟩ : ∃ b, W.heap.size = b := ⟨_, rfl⟩
  have GB : Hid (W.heap.size ≤ bo) := by show _ ≤ _; omega
  rw [hbo] at K0 ⊢
  clear hbo GE
  go_loopg [5, 6, 7] (n + 1) (fun gk sn sl si wr => ∃ (i m : Nat) (ln : Bool) (fo : Nat → Bool), sn = .int .i64 (m : Int) ∧ sl = .bool ln ∧ si = .int .i64 (i : Int) ∧ i ≤ n ∧ n + 1 ≤ gk + i ∧ Hid (seenN fo = m ∧ (∀ k, k < 4 → fo k = (L.take i).any (whoB k)) ∧ (ln = true ↔ LineP L i)) ∧ Hid (Only [] W wr ∧ ∀ V, Only [] wr V → ∀ j, j < 4 → V.cell? ⟨bo, j, none⟩ = some (.bool (fo j)) ∧ V.frozen? ⟨bo, j, none⟩ = false))
  case atStart => exact ⟨0, 0, true, _, rfl, rfl, rfl, by omega, by omega, ⟨rfl, fun k hk => by simp, ⟨fun _ i hi => absurd hi (by omega), fun _ => rfl⟩⟩, K0.out⟩
  case round =>
    obtain ⟨i, m, ln, fo, rfl, rfl, rfl, hi, hg, P, K⟩ := hrel
    clear K0
    by_cases hin : i < n
    · have h1 : (i : Int) < (n : Int) := by omega
      have d1 : decide ((i : Int) < (n : Int)) = true := decide_eq_true h1
      obtain ⟨xi, hxi⟩ : ∃ x, dns L i = x := ⟨_, rfl⟩
      obtain ⟨g, rfl, hci⟩ := (DN.out wr K.out.1).at_ (k := i) (by have := LEN.out; omega)
      rw [hxi] at hci
      have Hi := Lib.hid hxi
      have EL := (LL.out.el _ (dns_mem (xs := L) (k := i) (by have := LEN.out; omega))).1
      rw [hxi] at EL
      obtain ⟨kw, hkw⟩ : ∃ k : Nat, xi.who = (k : Int) := ⟨xi.who.toNat, by omega⟩
      have hk4 : kw < 4 := by omega
      have hk4' : (kw : Int) < 4 := by omega
      have hk4d : decide ((kw : Int) < 4) = true := decide_eq_true hk4'
      obtain ⟨x0, -, -, -, -, -, -, -, -, -, -, -⟩ := hci
      rw [hkw] at x0
      have HW := Lib.hid hkw
      obtain ⟨oc, of⟩ := K.out.2 wr (Only.refl [] wr) kw hk4
      have AT : Hid (∀ j, j < 4 → (L.take (i + 1)).any (whoB j) = (fo j || decide (j = kw))) := fun j hj => by
        rw [any_take_succ (by have := LEN.out; omega), ← P.out.2.1 j hj, Hi.out]
        congr 1
        simp only [whoB, HW.out]
        by_cases e : j = kw
        · subst e; simp
        · have : ((kw : Int) == (j : Int)) = false := by simp; omega
          simp [e, this]
      have LN : Hid (∀ b : Bool, (b = true ↔ (LineP L i ∧ ∀ k, k < i → aheadD (dns L i) (dns L k) = true ∨ aheadD (dns L k) (dns L i) = true)) → (b = true ↔ LineP L (i + 1))) := fun b hb => by
        rw [hb]
        constructor
        · rintro ⟨h1, h2⟩ i' hi' k hk
          by_cases e : i' = i
          · subst e; exact h2 k hk
          · exact h1 i' (by omega) k hk
        · intro h
          exact ⟨fun i' hi' => h i' (by omega), h i (by omega)⟩
      clear hxi EL hkw
      have wm : IntKind.i64.wrap ((m : Int) + 1) = (m : Int) + 1 := by have := seenN_le fo; have := P.out.1; rw [IntKind.wrap_i64]; omega
      have fin : ∃ (fo2 : Nat → Bool), True := ⟨fo, trivial⟩
      clear fin
      rcases hf : fo kw
      · have PN : Hid (seenN (updB fo kw true) = m + 1 ∧ ∀ j, j < 4 → updB fo kw true j = (L.take (i + 1)).any (whoB j)) := by
          refine ⟨by rw [seenN_upd hk4 hf, P.out.1], fun j hj => ?_⟩
          rw [AT.out j hj]
          unfold updB
          by_cases e : j = kw <;> simp [e]
        have K2 : Hid (Only [] W (wr.setCell ⟨bo, kw, none⟩ (.bool true)) ∧ ∀ V, Only [] (wr.setCell ⟨bo, kw, none⟩ (.bool true)) V → ∀ j, j < 4 → V.cell? ⟨bo, j, none⟩ = some (.bool (updB fo kw true j)) ∧ V.frozen? ⟨bo, j, none⟩ = false) := by
          have o : Only [bo] wr (wr.setCell ⟨bo, kw, none⟩ (.bool true)) := (Only.refl [bo] wr).setCell (.inl (by simp)) _
          refine ⟨K.out.1.setCell (.inr GB.out) _, fun V ov j hj => ?_⟩
          obtain ⟨q1, q2⟩ := K.out.2 wr (Only.refl [] wr) j hj
          have hlt : bo < (wr.setCell ⟨bo, kw, none⟩ (.bool true)).heap.size := Nat.lt_of_lt_of_le (World.block_lt_of_cell? _ _ q1) o.size
          refine ⟨ov.kp ?_, by rw [same_frozen (ov.block bo hlt (by simp)) j, World.frozen?_setCell]; exact q2⟩
          unfold updB
          by_cases e : j = kw
          · subst e
            rw [World.cell?_setCell_same' _ _ _ (by rw [q1]; rfl)]
            simp
          · rw [World.cell?_setCell_other _ _ _ _ (by intro h2; injection h2 with _ h2; exact e h2.symm), q1]
            simp [e]
        rw [hf] at oc
        clear hf
        go_wp2_with fail
        clear x0 oc of
        generalize wr.setCell ⟨bo, kw, none⟩ (.bool true) = W1 at *
        go_loopg [6, 8] (i + 1) (fun gk2 sl sk wr => ∃ (k : Nat) (lb : Bool), sl = .bool lb ∧ sk = .int .i64 (k : Int) ∧ k ≤ i ∧ i + 1 ≤ gk2 + k ∧ Hid (lb = true ↔ (LineP L i ∧ ∀ k', k' < k → aheadD (dns L i) (dns L k') = true ∨ aheadD (dns L k') (dns L i) = true)) ∧ Hid (Only [] W1 wr))
        case atStart => exact ⟨0, ln, rfl, rfl, by omega, by omega, ⟨fun h => ⟨P.out.2.2.1 h, fun k' h => absurd h (by omega)⟩, fun h => P.out.2.2.2 h.1⟩, Only.refl _ _⟩
        case round =>
          obtain ⟨k, lb, rfl, rfl, hk, hg2, LB, OK⟩ := hrel
          by_cases hki : k < i
          · have h2 : (k : Int) < (i : Int) := by omega
            have d2 : decide ((k : Int) < (i : Int)) = true := decide_eq_true h2
            have h3 : (k : Int) < (n : Int) := by omega
            obtain ⟨xk, hxk⟩ : ∃ x, dns L k = x := ⟨_, rfl⟩
            have Hk := Lib.hid hxk
            clear hxk
            obtain ⟨g', ge, hci⟩ := (DN.out wr (K2.out.1.trans' OK.out)).at_ (k := i) (by have := LEN.out; omega)
            injection ge with ge
            injection ge with ge
            subst ge
            rw [Hi.out] at hci
            obtain ⟨g', ge, hck⟩ := (DN.out wr (K2.out.1.trans' OK.out)).at_ (k := k) (by have := LEN.out; omega)
            injection ge with ge
            injection ge with ge
            subst ge
            rw [Hk.out] at hck
            have CEL : Hid (∀ V, Only [] wr V → (V.cell? ⟨g, i * 12, none⟩ = some (.int .i64 xi.who) ∧ V.cell? ⟨g, i * 12 + 1, none⟩ = some (.int .i64 xi.place) ∧ V.cell? ⟨g, i * 12 + 2, none⟩ = some (.int .i64 xi.op) ∧ V.cell? ⟨g, i * 12 + 3, none⟩ = some (.int .i64 xi.f) ∧ V.cell? ⟨g, i * 12 + 4, none⟩ = some (.int .i64 xi.a) ∧ V.cell? ⟨g, i * 12 + 5, none⟩ = some (.int .i64 xi.b) ∧ V.cell? ⟨g, i * 12 + 6, none⟩ = some (.int .i64 xi.e) ∧ V.cell? ⟨g, i * 12 + 7, none⟩ = some (.slice xi.A xi.m xi.c) ∧ V.cell? ⟨g, i * 12 + 8, none⟩ = some (.int .i64 xi.n) ∧ V.cell? ⟨g, i * 12 + 9, none⟩ = some (.int .u64 xi.v) ∧ V.cell? ⟨g, i * 12 + 10, none⟩ = some (.int .i64 xi.fr) ∧ V.cell? ⟨g, i * 12 + 11, none⟩ = some (.int .i64 xi.to)) ∧ (V.cell? ⟨g, k * 12, none⟩ = some (.int .i64 xk.who) ∧ V.cell? ⟨g, k * 12 + 1, none⟩ = some (.int .i64 xk.place) ∧ V.cell? ⟨g, k * 12 + 2, none⟩ = some (.int .i64 xk.op) ∧ V.cell? ⟨g, k * 12 + 3, none⟩ = some (.int .i64 xk.f) ∧ V.cell? ⟨g, k * 12 + 4, none⟩ = some (.int .i64 xk.a) ∧ V.cell? ⟨g, k * 12 + 5, none⟩ = some (.int .i64 xk.b) ∧ V.cell? ⟨g, k * 12 + 6, none⟩ = some (.int .i64 xk.e) ∧ V.cell? ⟨g, k * 12 + 7, none⟩ = some (.slice xk.A xk.m xk.c) ∧ V.cell? ⟨g, k * 12 + 8, none⟩ = some (.int .i64 xk.n) ∧ V.cell? ⟨g, k * 12 + 9, none⟩ = some (.int .u64 xk.v) ∧ V.cell? ⟨g, k * 12 + 10, none⟩ = some (.int .i64 xk.fr) ∧ V.cell? ⟨g, k * 12 + 11, none⟩ = some (.int .i64 xk.to))) := fun V o => ⟨hci.only0 o, hck.only0 o⟩
            clear hci hck
            have ah := Lib.hid (fun (V : World) => cAhead xi xk V)
            have ha := Lib.hid (fun (V : World) => cAhead xk xi V)
            have NX : Hid (∀ b : Bool, b = (lb && (aheadD xi xk || aheadD xk xi)) → (b = true ↔ (LineP L i ∧ ∀ k', k' < k + 1 → aheadD (dns L i) (dns L k') = true ∨ aheadD (dns L k') (dns L i) = true))) := fun b hb => by
              rw [hb, Bool.and_eq_true, LB.out, Bool.or_eq_true]
              constructor
              · rintro ⟨⟨q1, q2⟩, q3⟩
                refine ⟨q1, fun k' hk' => ?_⟩
                by_cases e : k' = k
                · subst e; rw [Hi.out, Hk.out]; exact q3
                · exact q2 k' (by omega)
              · rintro ⟨q1, q2⟩
                refine ⟨⟨q1, fun k' hk' => q2 k' (by omega)⟩, ?_⟩
                have := q2 k (by omega)
                rwa [Hi.out, Hk.out] at this
            go_upto_region 13 with fail
            rcases lb
            · clear ah ha
              refine wp_region_held_drew (S := (fun u' => (u'.cell? ⟨g, i * 12, none⟩ = some (.int .i64 xi.who) ∧ u'.cell? ⟨g, i * 12 + 1, none⟩ = some (.int .i64 xi.place) ∧ u'.cell? ⟨g, i * 12 + 2, none⟩ = some (.int .i64 xi.op) ∧ u'.cell? ⟨g, i * 12 + 3, none⟩ = some (.int .i64 xi.f) ∧ u'.cell? ⟨g, i * 12 + 4, none⟩ = some (.int .i64 xi.a) ∧ u'.cell? ⟨g, i * 12 + 5, none⟩ = some (.int .i64 xi.b) ∧ u'.cell? ⟨g, i * 12 + 6, none⟩ = some (.int .i64 xi.e) ∧ u'.cell? ⟨g, i * 12 + 7, none⟩ = some (.slice xi.A xi.m xi.c) ∧ u'.cell? ⟨g, i * 12 + 8, none⟩ = some (.int .i64 xi.n) ∧ u'.cell? ⟨g, i * 12 + 9, none⟩ = some (.int .u64 xi.v) ∧ u'.cell? ⟨g, i * 12 + 10, none⟩ = some (.int .i64 xi.fr) ∧ u'.cell? ⟨g, i * 12 + 11, none⟩ = some (.int .i64 xi.to)) ∧ (u'.cell? ⟨g, k * 12, none⟩ = some (.int .i64 xk.who) ∧ u'.cell? ⟨g, k * 12 + 1, none⟩ = some (.int .i64 xk.place) ∧ u'.cell? ⟨g, k * 12 + 2, none⟩ = some (.int .i64 xk.op) ∧ u'.cell? ⟨g, k * 12 + 3, none⟩ = some (.int .i64 xk.f) ∧ u'.cell? ⟨g, k * 12 + 4, none⟩ = some (.int .i64 xk.a) ∧ u'.cell? ⟨g, k * 12 + 5, none⟩ = some (.int .i64 xk.b) ∧ u'.cell? ⟨g, k * 12 + 6, none⟩ = some (.int .i64 xk.e) ∧ u'.cell? ⟨g, k * 12 + 7, none⟩ = some (.slice xk.A xk.m xk.c) ∧ u'.cell? ⟨g, k * 12 + 8, none⟩ = some (.int .i64 xk.n) ∧ u'.cell? ⟨g, k * 12 + 9, none⟩ = some (.int .u64 xk.v) ∧ u'.cell? ⟨g, k * 12 + 10, none⟩ = some (.int .i64 xk.fr) ∧ u'.cell? ⟨g, k * 12 + 11, none⟩ = some (.int .i64 xk.to)))) (by kernel_rfl) (CEL.out _ (Only.drew (Only.refl [] wr))) (fun hHeld => ?_)
              refine takeH (i := 0) (v := ?_) rfl (by kernel_rfl) (by kernel_rfl) (by kernel_rfl) (fun _ _ _ h => h) (Or.inl ⟨by rfl, ?_⟩) (by assumption) ?_
              rotate_left 1
              · (intro w hSw; (try dsimp only at hSw); go_simp; try (with_reducible rfl))
              try simp only [Act.put, List.setIfInBounds_toArray, List.set_cons_zero, List.set_cons_succ]
              refine takeH (i := 1) (v := ?_) rfl (by kernel_rfl) (by kernel_rfl) (by kernel_rfl) (fun _ _ _ h => h) (Or.inl ⟨by rfl, ?_⟩) (by assumption) ?_
              rotate_left 1
              · (intro w hSw; (try dsimp only at hSw); go_simp; try (with_reducible rfl))
              try simp only [Act.put, List.setIfInBounds_toArray, List.set_cons_zero, List.set_cons_succ]
              refine takeH (i := 2) (v := undef) rfl (by kernel_rfl) (by kernel_rfl) (by kernel_rfl) (fun _ _ _ h => h) (Or.inr ⟨by rfl, rfl⟩) (by assumption) ?_
              try simp only [Act.put, List.setIfInBounds_toArray, List.set_cons_zero, List.set_cons_succ]
              refine takeH (i := 3) (v := undef) rfl (by kernel_rfl) (by kernel_rfl) (by kernel_rfl) (fun _ _ _ h => h) (Or.inr ⟨by rfl, rfl⟩) (by assumption) ?_
              try simp only [Act.put, List.setIfInBounds_toArray, List.set_cons_zero, List.set_cons_succ]
              refine takeH (i := 4) (v := undef) rfl (by kernel_rfl) (by kernel_rfl) (by kernel_rfl) (fun _ _ _ h => h) (Or.inr ⟨by rfl, rfl⟩) (by assumption) ?_
              try simp only [Act.put, List.setIfInBounds_toArray, List.set_cons_zero, List.set_cons_succ]
              refine takeH (i := 5) (v := undef) rfl (by kernel_rfl) (by kernel_rfl) (by kernel_rfl) (fun _ _ _ h => h) (Or.inr ⟨by rfl, rfl⟩) (by assumption) ?_
              try simp only [Act.put, List.setIfInBounds_toArray, List.set_cons_zero, List.set_cons_succ]
              refine takeH (i := 6) (v := undef) rfl (by kernel_rfl) (by kernel_rfl) (by kernel_rfl) (fun _ _ _ h => h) (Or.inr ⟨by rfl, rfl⟩) (by assumption) ?_
              try simp only [Act.put, List.setIfInBounds_toArray, List.set_cons_zero, List.set_cons_succ]
              refine takeH (i := 7) (v := undef) rfl (by kernel_rfl) (by kernel_rfl) (by kernel_rfl) (fun _ _ _ h => h) (Or.inr ⟨by rfl, rfl⟩) (by assumption) ?_
              try simp only [Act.put, List.setIfInBounds_toArray, List.set_cons_zero, List.set_cons_succ]
              refine takeH (i := 8) (v := undef) rfl (by kernel_rfl) (by kernel_rfl) (by kernel_rfl) (fun _ _ _ h => h) (Or.inr ⟨by rfl, rfl⟩) (by assumption) ?_
              try simp only [Act.put, List.setIfInBounds_toArray, List.set_cons_zero, List.set_cons_succ]
              refine takeH (i := 9) (v := undef) rfl (by kernel_rfl) (by kernel_rfl) (by kernel_rfl) (fun _ _ _ h => h) (Or.inr ⟨by rfl, rfl⟩) (by assumption) ?_
              try simp only [Act.put, List.setIfInBounds_toArray, List.set_cons_zero, List.set_cons_succ]
              refine takeH (i := 10) (v := undef) rfl (by kernel_rfl) (by kernel_rfl) (by kernel_rfl) (fun _ _ _ h => h) (Or.inr ⟨by rfl, rfl⟩) (by assumption) ?_
              try simp only [Act.put, List.setIfInBounds_toArray, List.set_cons_zero, List.set_cons_succ]
              refine takeH (i := 11) (v := undef) rfl (by kernel_rfl) (by kernel_rfl) (by kernel_rfl) (fun _ _ _ h => h) (Or.inr ⟨by rfl, rfl⟩) (by assumption) ?_
              try simp only [Act.put, List.setIfInBounds_toArray, List.set_cons_zero, List.set_cons_succ]
              refine takeH (i := 12) (v := undef) rfl (by kernel_rfl) (by kernel_rfl) (by kernel_rfl) (fun _ _ _ h => h) (Or.inr ⟨by rfl, rfl⟩) (by assumption) ?_
              try simp only [Act.put, List.setIfInBounds_toArray, List.set_cons_zero, List.set_cons_succ]
              refine takeH (i := 13) (v := undef) rfl (by kernel_rfl) (by kernel_rfl) (by kernel_rfl) (fun _ _ _ h => h) (Or.inr ⟨by rfl, rfl⟩) (by assumption) ?_
              try simp only [Act.put, List.setIfInBounds_toArray, List.set_cons_zero, List.set_cons_succ]
              refine takeH (i := 14) (v := undef) rfl (by kernel_rfl) (by kernel_rfl) (by kernel_rfl) (fun _ _ _ h => h) (Or.inr ⟨by rfl, rfl⟩) (by assumption) ?_
              try simp only [Act.put, List.setIfInBounds_toArray, List.set_cons_zero, List.set_cons_succ]
              refine takeH (i := 15) (v := undef) rfl (by kernel_rfl) (by kernel_rfl) (by kernel_rfl) (fun _ _ _ h => h) (Or.inr ⟨by rfl, rfl⟩) (by assumption) ?_
              try simp only [Act.put, List.setIfInBounds_toArray, List.set_cons_zero, List.set_cons_succ]
              refine takeH (i := 16) (v := undef) rfl (by kernel_rfl) (by kernel_rfl) (by kernel_rfl) (fun _ _ _ h => h) (Or.inr ⟨by rfl, rfl⟩) (by assumption) ?_
              try simp only [Act.put, List.setIfInBounds_toArray, List.set_cons_zero, List.set_cons_succ]
              refine takeH (i := 17) (v := undef) rfl (by kernel_rfl) (by kernel_rfl) (by kernel_rfl) (fun _ _ _ h => h) (Or.inr ⟨by rfl, rfl⟩) (by assumption) ?_
              try simp only [Act.put, List.setIfInBounds_toArray, List.set_cons_zero, List.set_cons_succ]
              refine takeH (i := 18) (v := undef) rfl (by kernel_rfl) (by kernel_rfl) (by kernel_rfl) (fun _ _ _ h => h) (Or.inr ⟨by rfl, rfl⟩) (by assumption) ?_
              try simp only [Act.put, List.setIfInBounds_toArray, List.set_cons_zero, List.set_cons_succ]
              refine takeH (i := 19) (v := undef) rfl (by kernel_rfl) (by kernel_rfl) (by kernel_rfl) (fun _ _ _ h => h) (Or.inr ⟨by rfl, rfl⟩) (by assumption) ?_
              try simp only [Act.put, List.setIfInBounds_toArray, List.set_cons_zero, List.set_cons_succ]
              refine takeH (i := 20) (v := undef) rfl (by kernel_rfl) (by kernel_rfl) (by kernel_rfl) (fun _ _ _ h => h) (Or.inr ⟨by rfl, rfl⟩) (by assumption) ?_
              try simp only [Act.put, List.setIfInBounds_toArray, List.set_cons_zero, List.set_cons_succ]
              refine takeH (i := 21) (v := undef) rfl (by kernel_rfl) (by kernel_rfl) (by kernel_rfl) (fun _ _ _ h => h) (Or.inr ⟨by rfl, rfl⟩) (by assumption) ?_
              try simp only [Act.put, List.setIfInBounds_toArray, List.set_cons_zero, List.set_cons_succ]
              refine takeH (i := 22) (v := ?_) rfl (by kernel_rfl) (by kernel_rfl) (by kernel_rfl) (fun _ _ _ h => h) (Or.inl ⟨by rfl, ?_⟩) (by assumption) ?_
              rotate_left 1
              · (intro w hSw; (try dsimp only at hSw); go_simp; try (with_reducible rfl))
              try simp only [Act.put, List.setIfInBounds_toArray, List.set_cons_zero, List.set_cons_succ]
              refine takeH (i := 23) (v := ?_) rfl (by kernel_rfl) (by kernel_rfl) (by kernel_rfl) (fun _ _ _ h => h) (Or.inl ⟨by rfl, ?_⟩) (by assumption) ?_
              rotate_left 1
              · (intro w hSw; (try dsimp only at hSw); go_simp; try (with_reducible rfl))
              try simp only [Act.put, List.setIfInBounds_toArray, List.set_cons_zero, List.set_cons_succ]
              refine wpAnyH_done (by kernel_rfl) ?_ _
              have OZ : Hid (Only [] W1 wr.drew) := OK.out.trans' (Only.drew (Only.refl [] wr))
              clear CEL hHeld
              generalize wr.drew = v0 at *
              go_wp2_with fail
              go_roundg (i + 1 - (k + 1))
              case measure => omega
              case rel => exact ⟨k + 1, false, rfl, by simp, by omega, by omega, NX.out _ rfl, OZ.out⟩
            · rcases hx : aheadD xi xk
              · rw [hx] at ah
                rcases hy : aheadD xk xi
                · rw [hy] at ha
                  have BB : Hid (false = (true && (aheadD xi xk || aheadD xk xi))) := by show _ = _; rw [hx, hy]; rfl
                  clear hx hy
                  refine wp_region_held_drew (S := (fun u' => (u'.cell? ⟨g, i * 12, none⟩ = some (.int .i64 xi.who) ∧ u'.cell? ⟨g, i * 12 + 1, none⟩ = some (.int .i64 xi.place) ∧ u'.cell? ⟨g, i * 12 + 2, none⟩ = some (.int .i64 xi.op) ∧ u'.cell? ⟨g, i * 12 + 3, none⟩ = some (.int .i64 xi.f) ∧ u'.cell? ⟨g, i * 12 + 4, none⟩ = some (.int .i64 xi.a) ∧ u'.cell? ⟨g, i * 12 + 5, none⟩ = some (.int .i64 xi.b) ∧ u'.cell? ⟨g, i * 12 + 6, none⟩ = some (.int .i64 xi.e) ∧ u'.cell? ⟨g, i * 12 + 7, none⟩ = some (.slice xi.A xi.m xi.c) ∧ u'.cell? ⟨g, i * 12 + 8, none⟩ = some (.int .i64 xi.n) ∧ u'.cell? ⟨g, i * 12 + 9, none⟩ = some (.int .u64 xi.v) ∧ u'.cell? ⟨g, i * 12 + 10, none⟩ = some (.int .i64 xi.fr) ∧ u'.cell? ⟨g, i * 12 + 11, none⟩ = some (.int .i64 xi.to)) ∧ (u'.cell? ⟨g, k * 12, none⟩ = some (.int .i64 xk.who) ∧ u'.cell? ⟨g, k * 12 + 1, none⟩ = some (.int .i64 xk.place) ∧ u'.cell? ⟨g, k * 12 + 2, none⟩ = some (.int .i64 xk.op) ∧ u'.cell? ⟨g, k * 12 + 3, none⟩ = some (.int .i64 xk.f) ∧ u'.cell? ⟨g, k * 12 + 4, none⟩ = some (.int .i64 xk.a) ∧ u'.cell? ⟨g, k * 12 + 5, none⟩ = some (.int .i64 xk.b) ∧ u'.cell? ⟨g, k * 12 + 6, none⟩ = some (.int .i64 xk.e) ∧ u'.cell? ⟨g, k * 12 + 7, none⟩ = some (.slice xk.A xk.m xk.c) ∧ u'.cell? ⟨g, k * 12 + 8, none⟩ = some (.int .i64 xk.n) ∧ u'.cell? ⟨g, k * 12 + 9, none⟩ = some (.int .u64 xk.v) ∧ u'.cell? ⟨g, k * 12 + 10, none⟩ = some (.int .i64 xk.fr) ∧ u'.cell? ⟨g, k * 12 + 11, none⟩ = some (.int .i64 xk.to)))) (by kernel_rfl) (CEL.out _ (Only.drew (Only.refl [] wr))) (fun hHeld => ?_)
                  refine takeH (i := 0) (v := ?_) rfl (by kernel_rfl) (by kernel_rfl) (by kernel_rfl) (fun _ _ _ h => h) (Or.inl ⟨by rfl, ?_⟩) (by assumption) ?_
                  rotate_left 1
                  · (intro w hSw; (try dsimp only at hSw); go_simp; try (with_reducible rfl))
                  try simp only [Act.put, List.setIfInBounds_toArray, List.set_cons_zero, List.set_cons_succ]
                  refine takeH (i := 1) (v := ?_) rfl (by kernel_rfl) (by kernel_rfl) (by kernel_rfl) (fun _ _ _ h => h) (Or.inl ⟨by rfl, ?_⟩) (by assumption) ?_
                  rotate_left 1
                  · (intro w hSw; (try dsimp only at hSw); go_simp; try (with_reducible rfl))
                  try simp only [Act.put, List.setIfInBounds_toArray, List.set_cons_zero, List.set_cons_succ]
                  refine takeH (i := 2) (v := ?_) rfl (by kernel_rfl) (by kernel_rfl) (by kernel_rfl) (fun _ _ _ h => h) (Or.inl ⟨by rfl, ?_⟩) (by assumption) ?_
                  rotate_left 1
                  · (intro w hSw; (try dsimp only at hSw); go_simp; try (with_reducible rfl))
                  try simp only [Act.put, List.setIfInBounds_toArray, List.set_cons_zero, List.set_cons_succ]
                  refine takeH (i := 3) (v := ?_) rfl (by kernel_rfl) (by kernel_rfl) (by kernel_rfl) (fun _ _ _ h => h) (Or.inl ⟨by rfl, ?_⟩) (by assumption) ?_
                  rotate_left 1
                  · (intro w hSw; (try dsimp only at hSw); go_simp; try (with_reducible rfl))
                  try simp only [Act.put, List.setIfInBounds_toArray, List.set_cons_zero, List.set_cons_succ]
                  refine takeH (i := 4) (v := ?_) rfl (by kernel_rfl) (by kernel_rfl) (by kernel_rfl) (fun _ _ _ h => h) (Or.inl ⟨by rfl, ?_⟩) (by assumption) ?_
                  rotate_left 1
                  · (intro w hSw; (try dsimp only at hSw); go_simp; try (with_reducible rfl))
                  try simp only [Act.put, List.setIfInBounds_toArray, List.set_cons_zero, List.set_cons_succ]
                  refine takeH (i := 5) (v := ?_) rfl (by kernel_rfl) (by kernel_rfl) (by kernel_rfl) (fun _ _ _ h => h) (Or.inl ⟨by rfl, ?_⟩) (by assumption) ?_
                  rotate_left 1
                  · (intro w hSw; (try dsimp only at hSw); go_simp; try (with_reducible rfl))
                  try simp only [Act.put, List.setIfInBounds_toArray, List.set_cons_zero, List.set_cons_succ]
                  refine takeH (i := 6) (v := ?_) rfl (by kernel_rfl) (by kernel_rfl) (by kernel_rfl) (fun _ _ _ h => h) (Or.inl ⟨by rfl, ?_⟩) (by assumption) ?_
                  rotate_left 1
                  · (intro w hSw; (try dsimp only at hSw); go_simp; try (with_reducible rfl))
                  try simp only [Act.put, List.setIfInBounds_toArray, List.set_cons_zero, List.set_cons_succ]
                  refine takeH (i := 7) (v := ?_) rfl (by kernel_rfl) (by kernel_rfl) (by kernel_rfl) (fun _ _ _ h => h) (Or.inl ⟨by rfl, ?_⟩) (by assumption) ?_
                  rotate_left 1
                  · (intro w hSw; (try dsimp only at hSw); go_simp; try (with_reducible rfl))
                  try simp only [Act.put, List.setIfInBounds_toArray, List.set_cons_zero, List.set_cons_succ]
                  refine takeH (i := 8) (v := ?_) rfl (by kernel_rfl) (by kernel_rfl) (by kernel_rfl) (fun _ _ _ h => h) (Or.inl ⟨by rfl, ?_⟩) (by assumption) ?_
                  rotate_left 1
                  · (intro w hSw; (try dsimp only at hSw); go_simp; try (with_reducible rfl))
                  try simp only [Act.put, List.setIfInBounds_toArray, List.set_cons_zero, List.set_cons_succ]
                  refine takeH (i := 9) (v := ?_) rfl (by kernel_rfl) (by kernel_rfl) (by kernel_rfl) (fun _ _ _ h => h) (Or.inl ⟨by rfl, ?_⟩) (by assumption) ?_
                  rotate_left 1
                  · (intro w hSw; (try dsimp only at hSw); go_simp; try (with_reducible rfl))
                  try simp only [Act.put, List.setIfInBounds_toArray, List.set_cons_zero, List.set_cons_succ]
                  refine wpAnyH_ready (rs := [10]) (by kernel_rfl) (by simp) ?_
                  refine consH rfl (fun K hK => ?_) AllReadyH.nil
                  go_simp
                  refine (ah.out _).mono ?_
                  rintro e v10 ⟨rfl, o⟩
                  have O10 := Lib.hid ((Only.drew (Only.refl [] wr)).trans' o)
                  clear o
                  refine hK.out _ _ (CEL.out _ O10.out) (fun hHeld2 => ?_)
                  clear hK K hHeld
                  have hHeld := hHeld2
                  clear hHeld2
                  try simp only [Act.put, List.setIfInBounds_toArray, List.set_cons_zero, List.set_cons_succ]
                  refine takeH (i := 11) (v := ?_) rfl (by kernel_rfl) (by kernel_rfl) (by kernel_rfl) (fun _ _ _ h => h) (Or.inl ⟨by rfl, ?_⟩) (by assumption) ?_
                  rotate_left 1
                  · (intro w hSw; (try dsimp only at hSw); go_simp; try (with_reducible rfl))
                  try simp only [Act.put, List.setIfInBounds_toArray, List.set_cons_zero, List.set_cons_succ]
                  refine takeH (i := 12) (v := ?_) rfl (by kernel_rfl) (by kernel_rfl) (by kernel_rfl) (fun _ _ _ h => h) (Or.inl ⟨by rfl, ?_⟩) (by assumption) ?_
                  rotate_left 1
                  · (intro w hSw; (try dsimp only at hSw); go_simp; try (with_reducible rfl))
                  try simp only [Act.put, List.setIfInBounds_toArray, List.set_cons_zero, List.set_cons_succ]
                  refine takeH (i := 13) (v := ?_) rfl (by kernel_rfl) (by kernel_rfl) (by kernel_rfl) (fun _ _ _ h => h) (Or.inl ⟨by rfl, ?_⟩) (by assumption) ?_
                  rotate_left 1
                  · (intro w hSw; (try dsimp only at hSw); go_simp; try (with_reducible rfl))
                  try simp only [Act.put, List.setIfInBounds_toArray, List.set_cons_zero, List.set_cons_succ]
                  refine takeH (i := 14) (v := ?_) rfl (by kernel_rfl) (by kernel_rfl) (by kernel_rfl) (fun _ _ _ h => h) (Or.inl ⟨by rfl, ?_⟩) (by assumption) ?_
                  rotate_left 1
                  · (intro w hSw; (try dsimp only at hSw); go_simp; try (with_reducible rfl))
                  try simp only [Act.put, List.setIfInBounds_toArray, List.set_cons_zero, List.set_cons_succ]
                  refine takeH (i := 15) (v := ?_) rfl (by kernel_rfl) (by kernel_rfl) (by kernel_rfl) (fun _ _ _ h => h) (Or.inl ⟨by rfl, ?_⟩) (by assumption) ?_
                  rotate_left 1
                  · (intro w hSw; (try dsimp only at hSw); go_simp; try (with_reducible rfl))
                  try simp only [Act.put, List.setIfInBounds_toArray, List.set_cons_zero, List.set_cons_succ]
                  refine takeH (i := 16) (v := ?_) rfl (by kernel_rfl) (by kernel_rfl) (by kernel_rfl) (fun _ _ _ h => h) (Or.inl ⟨by rfl, ?_⟩) (by assumption) ?_
                  rotate_left 1
                  · (intro w hSw; (try dsimp only at hSw); go_simp; try (with_reducible rfl))
                  try simp only [Act.put, List.setIfInBounds_toArray, List.set_cons_zero, List.set_cons_succ]
                  refine takeH (i := 17) (v := ?_) rfl (by kernel_rfl) (by kernel_rfl) (by kernel_rfl) (fun _ _ _ h => h) (Or.inl ⟨by rfl, ?_⟩) (by assumption) ?_
                  rotate_left 1
                  · (intro w hSw; (try dsimp only at hSw); go_simp; try (with_reducible rfl))
                  try simp only [Act.put, List.setIfInBounds_toArray, List.set_cons_zero, List.set_cons_succ]
                  refine takeH (i := 18) (v := ?_) rfl (by kernel_rfl) (by kernel_rfl) (by kernel_rfl) (fun _ _ _ h => h) (Or.inl ⟨by rfl, ?_⟩) (by assumption) ?_
                  rotate_left 1
                  · (intro w hSw; (try dsimp only at hSw); go_simp; try (with_reducible rfl))
                  try simp only [Act.put, List.setIfInBounds_toArray, List.set_cons_zero, List.set_cons_succ]
                  refine takeH (i := 19) (v := ?_) rfl (by kernel_rfl) (by kernel_rfl) (by kernel_rfl) (fun _ _ _ h => h) (Or.inl ⟨by rfl, ?_⟩) (by assumption) ?_
                  rotate_left 1
                  · (intro w hSw; (try dsimp only at hSw); go_simp; try (with_reducible rfl))
                  try simp only [Act.put, List.setIfInBounds_toArray, List.set_cons_zero, List.set_cons_succ]
                  refine wpAnyH_ready (rs := [20]) (by kernel_rfl) (by simp) ?_
                  refine consH rfl (fun K hK => ?_) AllReadyH.nil
                  go_simp
                  refine (ha.out _).mono ?_
                  rintro e v20 ⟨rfl, o⟩
                  have O20 := Lib.hid (O10.out.trans' o)
                  clear o
                  refine hK.out _ _ (CEL.out _ O20.out) (fun hHeld2 => ?_)
                  clear hK K hHeld
                  have hHeld := hHeld2
                  clear hHeld2
                  try simp only [Act.put, List.setIfInBounds_toArray, List.set_cons_zero, List.set_cons_succ]
                  refine takeH (i := 21) (v := ?_) rfl (by kernel_rfl) (by kernel_rfl) (by kernel_rfl) (fun _ _ _ h => h) (Or.inl ⟨by rfl, ?_⟩) (by assumption) ?_
                  rotate_left 1
                  · (intro w hSw; (try dsimp only at hSw); go_simp; try (with_reducible rfl))
                  try simp only [Act.put, List.setIfInBounds_toArray, List.set_cons_zero, List.set_cons_succ]
                  refine takeH (i := 22) (v := ?_) rfl (by kernel_rfl) (by kernel_rfl) (by kernel_rfl) (fun _ _ _ h => h) (Or.inl ⟨by rfl, ?_⟩) (by assumption) ?_
                  rotate_left 1
                  · (intro w hSw; (try dsimp only at hSw); go_simp; try (with_reducible rfl))
                  try simp only [Act.put, List.setIfInBounds_toArray, List.set_cons_zero, List.set_cons_succ]
                  refine takeH (i := 23) (v := ?_) rfl (by kernel_rfl) (by kernel_rfl) (by kernel_rfl) (fun _ _ _ h => h) (Or.inl ⟨by rfl, ?_⟩) (by assumption) ?_
                  rotate_left 1
                  · (intro w hSw; (try dsimp only at hSw); go_simp; try (with_reducible rfl))
                  try simp only [Act.put, List.setIfInBounds_toArray, List.set_cons_zero, List.set_cons_succ]
                  refine wpAnyH_done (by kernel_rfl) ?_ _
                  have OZ : Hid (Only [] W1 v20) := OK.out.trans' O20.out
                  clear CEL hHeld
                  generalize v20 = v0 at *
                  go_wp2_with fail
                  go_roundg (i + 1 - (k + 1))
                  case measure => omega
                  case rel => exact ⟨k + 1, false, rfl, by simp, by omega, by omega, NX.out _ BB.out, OZ.out⟩
                · rw [hy] at ha
                  have BB : Hid (true = (true && (aheadD xi xk || aheadD xk xi))) := by show _ = _; rw [hx, hy]; rfl
                  clear hx hy
                  refine wp_region_held_drew (S := (fun u' => (u'.cell? ⟨g, i * 12, none⟩ = some (.int .i64 xi.who) ∧ u'.cell? ⟨g, i * 12 + 1, none⟩ = some (.int .i64 xi.place) ∧ u'.cell? ⟨g, i * 12 + 2, none⟩ = some (.int .i64 xi.op) ∧ u'.cell? ⟨g, i * 12 + 3, none⟩ = some (.int .i64 xi.f) ∧ u'.cell? ⟨g, i * 12 + 4, none⟩ = some (.int .i64 xi.a) ∧ u'.cell? ⟨g, i * 12 + 5, none⟩ = some (.int .i64 xi.b) ∧ u'.cell? ⟨g, i * 12 + 6, none⟩ = some (.int .i64 xi.e) ∧ u'.cell? ⟨g, i * 12 + 7, none⟩ = some (.slice xi.A xi.m xi.c) ∧ u'.cell? ⟨g, i * 12 + 8, none⟩ = some (.int .i64 xi.n) ∧ u'.cell? ⟨g, i * 12 + 9, none⟩ = some (.int .u64 xi.v) ∧ u'.cell? ⟨g, i * 12 + 10, none⟩ = some (.int .i64 xi.fr) ∧ u'.cell? ⟨g, i * 12 + 11, none⟩ = some (.int .i64 xi.to)) ∧ (u'.cell? ⟨g, k * 12, none⟩ = some (.int .i64 xk.who) ∧ u'.cell? ⟨g, k * 12 + 1, none⟩ = some (.int .i64 xk.place) ∧ u'.cell? ⟨g, k * 12 + 2, none⟩ = some (.int .i64 xk.op) ∧ u'.cell? ⟨g, k * 12 + 3, none⟩ = some (.int .i64 xk.f) ∧ u'.cell? ⟨g, k * 12 + 4, none⟩ = some (.int .i64 xk.a) ∧ u'.cell? ⟨g, k * 12 + 5, none⟩ = some (.int .i64 xk.b) ∧ u'.cell? ⟨g, k * 12 + 6, none⟩ = some (.int .i64 xk.e) ∧ u'.cell? ⟨g, k * 12 + 7, none⟩ = some (.slice xk.A xk.m xk.c) ∧ u'.cell? ⟨g, k * 12 + 8, none⟩ = some (.int .i64 xk.n) ∧ u'.cell? ⟨g, k * 12 + 9, none⟩ = some (.int .u64 xk.v) ∧ u'.cell? ⟨g, k * 12 + 10, none⟩ = some (.int .i64 xk.fr) ∧ u'.cell? ⟨g, k * 12 + 11, none⟩ = some (.int .i64 xk.to)))) (by kernel_rfl) (CEL.out _ (Only.drew (Only.refl [] wr))) (fun hHeld => ?_)
                  refine takeH (i := 0) (v := ?_) rfl (by kernel_rfl) (by kernel_rfl) (by kernel_rfl) (fun _ _ _ h => h) (Or.inl ⟨by rfl, ?_⟩) (by assumption) ?_
                  rotate_left 1
                  · (intro w hSw; (try dsimp only at hSw); go_simp; try (with_reducible rfl))
                  try simp only [Act.put, List.setIfInBounds_toArray, List.set_cons_zero, List.set_cons_succ]
                  refine takeH (i := 1) (v := ?_) rfl (by kernel_rfl) (by kernel_rfl) (by kernel_rfl) (fun _ _ _ h => h) (Or.inl ⟨by rfl, ?_⟩) (by assumption) ?_
                  rotate_left 1
                  · (intro w hSw; (try dsimp only at hSw); go_simp; try (with_reducible rfl))
                  try simp only [Act.put, List.setIfInBounds_toArray, List.set_cons_zero, List.set_cons_succ]
                  refine takeH (i := 2) (v := ?_) rfl (by kernel_rfl) (by kernel_rfl) (by kernel_rfl) (fun _ _ _ h => h) (Or.inl ⟨by rfl, ?_⟩) (by assumption) ?_
                  rotate_left 1
                  · (intro w hSw; (try dsimp only at hSw); go_simp; try (with_reducible rfl))
                  try simp only [Act.put, List.setIfInBounds_toArray, List.set_cons_zero, List.set_cons_succ]
                  refine takeH (i := 3) (v := ?_) rfl (by kernel_rfl) (by kernel_rfl) (by kernel_rfl) (fun _ _ _ h => h) (Or.inl ⟨by rfl, ?_⟩) (by assumption) ?_
                  rotate_left 1
                  · (intro w hSw; (try dsimp only at hSw); go_simp; try (with_reducible rfl))
                  try simp only [Act.put, List.setIfInBounds_toArray, List.set_cons_zero, List.set_cons_succ]
                  refine takeH (i := 4) (v := ?_) rfl (by kernel_rfl) (by kernel_rfl) (by kernel_rfl) (fun _ _ _ h => h) (Or.inl ⟨by rfl, ?_⟩) (by assumption) ?_
                  rotate_left 1
                  · (intro w hSw; (try dsimp only at hSw); go_simp; try (with_reducible rfl))
                  try simp only [Act.put, List.setIfInBounds_toArray, List.set_cons_zero, List.set_cons_succ]
                  refine takeH (i := 5) (v := ?_) rfl (by kernel_rfl) (by kernel_rfl) (by kernel_rfl) (fun _ _ _ h => h) (Or.inl ⟨by rfl, ?_⟩) (by assumption) ?_
                  rotate_left 1
                  · (intro w hSw; (try dsimp only at hSw); go_simp; try (with_reducible rfl))
                  try simp only [Act.put, List.setIfInBounds_toArray, List.set_cons_zero, List.set_cons_succ]
                  refine takeH (i := 6) (v := ?_) rfl (by kernel_rfl) (by kernel_rfl) (by kernel_rfl) (fun _ _ _ h => h) (Or.inl ⟨by rfl, ?_⟩) (by assumption) ?_
                  rotate_left 1
                  · (intro w hSw; (try dsimp only at hSw); go_simp; try (with_reducible rfl))
                  try simp only [Act.put, List.setIfInBounds_toArray, List.set_cons_zero, List.set_cons_succ]
                  refine takeH (i := 7) (v := ?_) rfl (by kernel_rfl) (by kernel_rfl) (by kernel_rfl) (fun _ _ _ h => h) (Or.inl ⟨by rfl, ?_⟩) (by assumption) ?_
                  rotate_left 1
                  · (intro w hSw; (try dsimp only at hSw); go_simp; try (with_reducible rfl))
                  try simp only [Act.put, List.setIfInBounds_toArray, List.set_cons_zero, List.set_cons_succ]
                  refine takeH (i := 8) (v := ?_) rfl (by kernel_rfl) (by kernel_rfl) (by kernel_rfl) (fun _ _ _ h => h) (Or.inl ⟨by rfl, ?_⟩) (by assumption) ?_
                  rotate_left 1
                  · (intro w hSw; (try dsimp only at hSw); go_simp; try (with_reducible rfl))
                  try simp only [Act.put, List.setIfInBounds_toArray, List.set_cons_zero, List.set_cons_succ]
                  refine takeH (i := 9) (v := ?_) rfl (by kernel_rfl) (by kernel_rfl) (by kernel_rfl) (fun _ _ _ h => h) (Or.inl ⟨by rfl, ?_⟩) (by assumption) ?_
                  rotate_left 1
                  · (intro w hSw; (try dsimp only at hSw); go_simp; try (with_reducible rfl))
                  try simp only [Act.put, List.setIfInBounds_toArray, List.set_cons_zero, List.set_cons_succ]
                  refine wpAnyH_ready (rs := [10]) (by kernel_rfl) (by simp) ?_
                  refine consH rfl (fun K hK => ?_) AllReadyH.nil
                  go_simp
                  refine (ah.out _).mono ?_
                  rintro e v10 ⟨rfl, o⟩
                  have O10 := Lib.hid ((Only.drew (Only.refl [] wr)).trans' o)
                  clear o
                  refine hK.out _ _ (CEL.out _ O10.out) (fun hHeld2 => ?_)
                  clear hK K hHeld
                  have hHeld := hHeld2
                  clear hHeld2
                  try simp only [Act.put, List.setIfInBounds_toArray, List.set_cons_zero, List.set_cons_succ]
                  refine takeH (i := 11) (v := ?_) rfl (by kernel_rfl) (by kernel_rfl) (by kernel_rfl) (fun _ _ _ h => h) (Or.inl ⟨by rfl, ?_⟩) (by assumption) ?_
                  rotate_left 1
                  · (intro w hSw; (try dsimp only at hSw); go_simp; try (with_reducible rfl))
                  try simp only [Act.put, List.setIfInBounds_toArray, List.set_cons_zero, List.set_cons_succ]
                  refine takeH (i := 12) (v := ?_) rfl (by kernel_rfl) (by kernel_rfl) (by kernel_rfl) (fun _ _ _ h => h) (Or.inl ⟨by rfl, ?_⟩) (by assumption) ?_
                  rotate_left 1
                  · (intro w hSw; (try dsimp only at hSw); go_simp; try (with_reducible rfl))
                  try simp only [Act.put, List.setIfInBounds_toArray, List.set_cons_zero, List.set_cons_succ]
                  refine takeH (i := 13) (v := ?_) rfl (by kernel_rfl) (by kernel_rfl) (by kernel_rfl) (fun _ _ _ h => h) (Or.inl ⟨by rfl, ?_⟩) (by assumption) ?_
                  rotate_left 1
                  · (intro w hSw; (try dsimp only at hSw); go_simp; try (with_reducible rfl))
                  try simp only [Act.put, List.setIfInBounds_toArray, List.set_cons_zero, List.set_cons_succ]
                  refine takeH (i := 14) (v := ?_) rfl (by kernel_rfl) (by kernel_rfl) (by kernel_rfl) (fun _ _ _ h => h) (Or.inl ⟨by rfl, ?_⟩) (by assumption) ?_
                  rotate_left 1
                  · (intro w hSw; (try dsimp only at hSw); go_simp; try (with_reducible rfl))
                  try simp only [Act.put, List.setIfInBounds_toArray, List.set_cons_zero, List.set_cons_succ]
                  refine takeH (i := 15) (v := ?_) rfl (by kernel_rfl) (by kernel_rfl) (by kernel_rfl) (fun _ _ _ h => h) (Or.inl ⟨by rfl, ?_⟩) (by assumption) ?_
                  rotate_left 1
                  · (intro w hSw; (try dsimp only at hSw); go_simp; try (with_reducible rfl))
                  try simp only [Act.put, List.setIfInBounds_toArray, List.set_cons_zero, List.set_cons_succ]
                  refine takeH (i := 16) (v := ?_) rfl (by kernel_rfl) (by kernel_rfl) (by kernel_rfl) (fun _ _ _ h => h) (Or.inl ⟨by rfl, ?_⟩) (by assumption) ?_
                  rotate_left 1
                  · (intro w hSw; (try dsimp only at hSw); go_simp; try (with_reducible rfl))
                  try simp only [Act.put, List.setIfInBounds_toArray, List.set_cons_zero, List.set_cons_succ]
                  refine takeH (i := 17) (v := ?_) rfl (by kernel_rfl) (by kernel_rfl) (by kernel_rfl) (fun _ _ _ h => h) (Or.inl ⟨by rfl, ?_⟩) (by assumption) ?_
                  rotate_left 1
                  · (intro w hSw; (try dsimp only at hSw); go_simp; try (with_reducible rfl))
                  try simp only [Act.put, List.setIfInBounds_toArray, List.set_cons_zero, List.set_cons_succ]
                  refine takeH (i := 18) (v := ?_) rfl (by kernel_rfl) (by kernel_rfl) (by kernel_rfl) (fun _ _ _ h => h) (Or.inl ⟨by rfl, ?_⟩) (by assumption) ?_
                  rotate_left 1
                  · (intro w hSw; (try dsimp only at hSw); go_simp; try (with_reducible rfl))
                  try simp only [Act.put, List.setIfInBounds_toArray, List.set_cons_zero, List.set_cons_succ]
                  refine takeH (i := 19) (v := ?_) rfl (by kernel_rfl) (by kernel_rfl) (by kernel_rfl) (fun _ _ _ h => h) (Or.inl ⟨by rfl, ?_⟩) (by assumption) ?_
                  rotate_left 1
                  · (intro w hSw; (try dsimp only at hSw); go_simp; try (with_reducible rfl))
                  try simp only [Act.put, List.setIfInBounds_toArray, List.set_cons_zero, List.set_cons_succ]
                  refine wpAnyH_ready (rs := [20]) (by kernel_rfl) (by simp) ?_
                  refine consH rfl (fun K hK => ?_) AllReadyH.nil
                  go_simp
                  refine (ha.out _).mono ?_
                  rintro e v20 ⟨rfl, o⟩
                  have O20 := Lib.hid (O10.out.trans' o)
                  clear o
                  refine hK.out _ _ (CEL.out _ O20.out) (fun hHeld2 => ?_)
                  clear hK K hHeld
                  have hHeld := hHeld2
                  clear hHeld2
                  try simp only [Act.put, List.setIfInBounds_toArray, List.set_cons_zero, List.set_cons_succ]
                  refine takeH (i := 21) (v := ?_) rfl (by kernel_rfl) (by kernel_rfl) (by kernel_rfl) (fun _ _ _ h => h) (Or.inl ⟨by rfl, ?_⟩) (by assumption) ?_
                  rotate_left 1
                  · (intro w hSw; (try dsimp only at hSw); go_simp; try (with_reducible rfl))
                  try simp only [Act.put, List.setIfInBounds_toArray, List.set_cons_zero, List.set_cons_succ]
                  refine takeH (i := 22) (v := ?_) rfl (by kernel_rfl) (by kernel_rfl) (by kernel_rfl) (fun _ _ _ h => h) (Or.inl ⟨by rfl, ?_⟩) (by assumption) ?_
                  rotate_left 1
                  · (intro w hSw; (try dsimp only at hSw); go_simp; try (with_reducible rfl))
                  try simp only [Act.put, List.setIfInBounds_toArray, List.set_cons_zero, List.set_cons_succ]
                  refine takeH (i := 23) (v := ?_) rfl (by kernel_rfl) (by kernel_rfl) (by kernel_rfl) (fun _ _ _ h => h) (Or.inl ⟨by rfl, ?_⟩) (by assumption) ?_
                  rotate_left 1
                  · (intro w hSw; (try dsimp only at hSw); go_simp; try (with_reducible rfl))
                  try simp only [Act.put, List.setIfInBounds_toArray, List.set_cons_zero, List.set_cons_succ]
                  refine wpAnyH_done (by kernel_rfl) ?_ _
                  have OZ : Hid (Only [] W1 v20) := OK.out.trans' O20.out
                  clear CEL hHeld
                  generalize v20 = v0 at *
                  go_wp2_with fail
                  go_roundg (i + 1 - (k + 1))
                  case measure => omega
                  case rel => exact ⟨k + 1, true, rfl, by simp, by omega, by omega, NX.out _ BB.out, OZ.out⟩
              · rw [hx] at ah
                clear ha
                have BB : Hid (true = (true && (aheadD xi xk || aheadD xk xi))) := by show _ = _; rw [hx]; rfl
                clear hx
                refine wp_region_held_drew (S := (fun u' => (u'.cell? ⟨g, i * 12, none⟩ = some (.int .i64 xi.who) ∧ u'.cell? ⟨g, i * 12 + 1, none⟩ = some (.int .i64 xi.place) ∧ u'.cell? ⟨g, i * 12 + 2, none⟩ = some (.int .i64 xi.op) ∧ u'.cell? ⟨g, i * 12 + 3, none⟩ = some (.int .i64 xi.f) ∧ u'.cell? ⟨g, i * 12 + 4, none⟩ = some (.int .i64 xi.a) ∧ u'.cell? ⟨g, i * 12 + 5, none⟩ = some (.int .i64 xi.b) ∧ u'.cell? ⟨g, i * 12 + 6, none⟩ = some (.int .i64 xi.e) ∧ u'.cell? ⟨g, i * 12 + 7, none⟩ = some (.slice xi.A xi.m xi.c) ∧ u'.cell? ⟨g, i * 12 + 8, none⟩ = some (.int .i64 xi.n) ∧ u'.cell? ⟨g, i * 12 + 9, none⟩ = some (.int .u64 xi.v) ∧ u'.cell? ⟨g, i * 12 + 10, none⟩ = some (.int .i64 xi.fr) ∧ u'.cell? ⟨g, i * 12 + 11, none⟩ = some (.int .i64 xi.to)) ∧ (u'.cell? ⟨g, k * 12, none⟩ = some (.int .i64 xk.who) ∧ u'.cell? ⟨g, k * 12 + 1, none⟩ = some (.int .i64 xk.place) ∧ u'.cell? ⟨g, k * 12 + 2, none⟩ = some (.int .i64 xk.op) ∧ u'.cell? ⟨g, k * 12 + 3, none⟩ = some (.int .i64 xk.f) ∧ u'.cell? ⟨g, k * 12 + 4, none⟩ = some (.int .i64 xk.a) ∧ u'.cell? ⟨g, k * 12 + 5, none⟩ = some (.int .i64 xk.b) ∧ u'.cell? ⟨g, k * 12 + 6, none⟩ = some (.int .i64 xk.e) ∧ u'.cell? ⟨g, k * 12 + 7, none⟩ = some (.slice xk.A xk.m xk.c) ∧ u'.cell? ⟨g, k * 12 + 8, none⟩ = some (.int .i64 xk.n) ∧ u'.cell? ⟨g, k * 12 + 9, none⟩ = some (.int .u64 xk.v) ∧ u'.cell? ⟨g, k * 12 + 10, none⟩ = some (.int .i64 xk.fr) ∧ u'.cell? ⟨g, k * 12 + 11, none⟩ = some (.int .i64 xk.to)))) (by kernel_rfl) (CEL.out _ (Only.drew (Only.refl [] wr))) (fun hHeld => ?_)
                refine takeH (i := 0) (v := ?_) rfl (by kernel_rfl) (by kernel_rfl) (by kernel_rfl) (fun _ _ _ h => h) (Or.inl ⟨by rfl, ?_⟩) (by assumption) ?_
                rotate_left 1
                · (intro w hSw; (try dsimp only at hSw); go_simp; try (with_reducible rfl))
                try simp only [Act.put, List.setIfInBounds_toArray, List.set_cons_zero, List.set_cons_succ]
                refine takeH (i := 1) (v := ?_) rfl (by kernel_rfl) (by kernel_rfl) (by kernel_rfl) (fun _ _ _ h => h) (Or.inl ⟨by rfl, ?_⟩) (by assumption) ?_
                rotate_left 1
                · (intro w hSw; (try dsimp only at hSw); go_simp; try (with_reducible rfl))
                try simp only [Act.put, List.setIfInBounds_toArray, List.set_cons_zero, List.set_cons_succ]
                refine takeH (i := 2) (v := ?_) rfl (by kernel_rfl) (by kernel_rfl) (by kernel_rfl) (fun _ _ _ h => h) (Or.inl ⟨by rfl, ?_⟩) (by assumption) ?_
                rotate_left 1
                · (intro w hSw; (try dsimp only at hSw); go_simp; try (with_reducible rfl))
                try simp only [Act.put, List.setIfInBounds_toArray, List.set_cons_zero, List.set_cons_succ]
                refine takeH (i := 3) (v := ?_) rfl (by kernel_rfl) (by kernel_rfl) (by kernel_rfl) (fun _ _ _ h => h) (Or.inl ⟨by rfl, ?_⟩) (by assumption) ?_
                rotate_left 1
                · (intro w hSw; (try dsimp only at hSw); go_simp; try (with_reducible rfl))
                try simp only [Act.put, List.setIfInBounds_toArray, List.set_cons_zero, List.set_cons_succ]
                refine takeH (i := 4) (v := ?_) rfl (by kernel_rfl) (by kernel_rfl) (by kernel_rfl) (fun _ _ _ h => h) (Or.inl ⟨by rfl, ?_⟩) (by assumption) ?_
                rotate_left 1
                · (intro w hSw; (try dsimp only at hSw); go_simp; try (with_reducible rfl))
                try simp only [Act.put, List.setIfInBounds_toArray, List.set_cons_zero, List.set_cons_succ]
                refine takeH (i := 5) (v := ?_) rfl (by kernel_rfl) (by kernel_rfl) (by kernel_rfl) (fun _ _ _ h => h) (Or.inl ⟨by rfl, ?_⟩) (by assumption) ?_
                rotate_left 1
                · (intro w hSw; (try dsimp only at hSw); go_simp; try (with_reducible rfl))
                try simp only [Act.put, List.setIfInBounds_toArray, List.set_cons_zero, List.set_cons_succ]
                refine takeH (i := 6) (v := ?_) rfl (by kernel_rfl) (by kernel_rfl) (by kernel_rfl) (fun _ _ _ h => h) (Or.inl ⟨by rfl, ?_⟩) (by assumption) ?_
                rotate_left 1
                · (intro w hSw; (try dsimp only at hSw); go_simp; try (with_reducible rfl))
                try simp only [Act.put, List.setIfInBounds_toArray, List.set_cons_zero, List.set_cons_succ]
                refine takeH (i := 7) (v := ?_) rfl (by kernel_rfl) (by kernel_rfl) (by kernel_rfl) (fun _ _ _ h => h) (Or.inl ⟨by rfl, ?_⟩) (by assumption) ?_
                rotate_left 1
                · (intro w hSw; (try dsimp only at hSw); go_simp; try (with_reducible rfl))
                try simp only [Act.put, List.setIfInBounds_toArray, List.set_cons_zero, List.set_cons_succ]
                refine takeH (i := 8) (v := ?_) rfl (by kernel_rfl) (by kernel_rfl) (by kernel_rfl) (fun _ _ _ h => h) (Or.inl ⟨by rfl, ?_⟩) (by assumption) ?_
                rotate_left 1
                · (intro w hSw; (try dsimp only at hSw); go_simp; try (with_reducible rfl))
                try simp only [Act.put, List.setIfInBounds_toArray, List.set_cons_zero, List.set_cons_succ]
                refine takeH (i := 9) (v := ?_) rfl (by kernel_rfl) (by kernel_rfl) (by kernel_rfl) (fun _ _ _ h => h) (Or.inl ⟨by rfl, ?_⟩) (by assumption) ?_
                rotate_left 1
                · (intro w hSw; (try dsimp only at hSw); go_simp; try (with_reducible rfl))
                try simp only [Act.put, List.setIfInBounds_toArray, List.set_cons_zero, List.set_cons_succ]
                refine wpAnyH_ready (rs := [10]) (by kernel_rfl) (by simp) ?_
                refine consH rfl (fun K hK => ?_) AllReadyH.nil
                go_simp
                refine (ah.out _).mono ?_
                rintro e v10 ⟨rfl, o⟩
                have O10 := Lib.hid ((Only.drew (Only.refl [] wr)).trans' o)
                clear o
                refine hK.out _ _ (CEL.out _ O10.out) (fun hHeld2 => ?_)
                clear hK K hHeld
                have hHeld := hHeld2
                clear hHeld2
                try simp only [Act.put, List.setIfInBounds_toArray, List.set_cons_zero, List.set_cons_succ]
                refine takeH (i := 11) (v := ?_) rfl (by kernel_rfl) (by kernel_rfl) (by kernel_rfl) (fun _ _ _ h => h) (Or.inl ⟨by rfl, ?_⟩) (by assumption) ?_
                rotate_left 1
                · (intro w hSw; (try dsimp only at hSw); go_simp; try (with_reducible rfl))
                try simp only [Act.put, List.setIfInBounds_toArray, List.set_cons_zero, List.set_cons_succ]
                refine takeH (i := 12) (v := undef) rfl (by kernel_rfl) (by kernel_rfl) (by kernel_rfl) (fun _ _ _ h => h) (Or.inr ⟨by rfl, rfl⟩) (by assumption) ?_
                try simp only [Act.put, List.setIfInBounds_toArray, List.set_cons_zero, List.set_cons_succ]
                refine takeH (i := 13) (v := undef) rfl (by kernel_rfl) (by kernel_rfl) (by kernel_rfl) (fun _ _ _ h => h) (Or.inr ⟨by rfl, rfl⟩) (by assumption) ?_
                try simp only [Act.put, List.setIfInBounds_toArray, List.set_cons_zero, List.set_cons_succ]
                refine takeH (i := 14) (v := undef) rfl (by kernel_rfl) (by kernel_rfl) (by kernel_rfl) (fun _ _ _ h => h) (Or.inr ⟨by rfl, rfl⟩) (by assumption) ?_
                try simp only [Act.put, List.setIfInBounds_toArray, List.set_cons_zero, List.set_cons_succ]
                refine takeH (i := 15) (v := undef) rfl (by kernel_rfl) (by kernel_rfl) (by kernel_rfl) (fun _ _ _ h => h) (Or.inr ⟨by rfl, rfl⟩) (by assumption) ?_
                try simp only [Act.put, List.setIfInBounds_toArray, List.set_cons_zero, List.set_cons_succ]
                refine takeH (i := 16) (v := undef) rfl (by kernel_rfl) (by kernel_rfl) (by kernel_rfl) (fun _ _ _ h => h) (Or.inr ⟨by rfl, rfl⟩) (by assumption) ?_
                try simp only [Act.put, List.setIfInBounds_toArray, List.set_cons_zero, List.set_cons_succ]
                refine takeH (i := 17) (v := undef) rfl (by kernel_rfl) (by kernel_rfl) (by kernel_rfl) (fun _ _ _ h => h) (Or.inr ⟨by rfl, rfl⟩) (by assumption) ?_
                try simp only [Act.put, List.setIfInBounds_toArray, List.set_cons_zero, List.set_cons_succ]
                refine takeH (i := 18) (v := undef) rfl (by kernel_rfl) (by kernel_rfl) (by kernel_rfl) (fun _ _ _ h => h) (Or.inr ⟨by rfl, rfl⟩) (by assumption) ?_
                try simp only [Act.put, List.setIfInBounds_toArray, List.set_cons_zero, List.set_cons_succ]
                refine takeH (i := 19) (v := undef) rfl (by kernel_rfl) (by kernel_rfl) (by kernel_rfl) (fun _ _ _ h => h) (Or.inr ⟨by rfl, rfl⟩) (by assumption) ?_
                try simp only [Act.put, List.setIfInBounds_toArray, List.set_cons_zero, List.set_cons_succ]
                refine takeH (i := 20) (v := undef) rfl (by kernel_rfl) (by kernel_rfl) (by kernel_rfl) (fun _ _ _ h => h) (Or.inr ⟨by rfl, rfl⟩) (by assumption) ?_
                try simp only [Act.put, List.setIfInBounds_toArray, List.set_cons_zero, List.set_cons_succ]
                refine takeH (i := 21) (v := ?_) rfl (by kernel_rfl) (by kernel_rfl) (by kernel_rfl) (fun _ _ _ h => h) (Or.inl ⟨by rfl, ?_⟩) (by assumption) ?_
                rotate_left 1
                · (intro w hSw; (try dsimp only at hSw); go_simp; try (with_reducible rfl))
                try simp only [Act.put, List.setIfInBounds_toArray, List.set_cons_zero, List.set_cons_succ]
                refine takeH (i := 22) (v := ?_) rfl (by kernel_rfl) (by kernel_rfl) (by kernel_rfl) (fun _ _ _ h => h) (Or.inl ⟨by rfl, ?_⟩) (by assumption) ?_
                rotate_left 1
                · (intro w hSw; (try dsimp only at hSw); go_simp; try (with_reducible rfl))
                try simp only [Act.put, List.setIfInBounds_toArray, List.set_cons_zero, List.set_cons_succ]
                refine takeH (i := 23) (v := ?_) rfl (by kernel_rfl) (by kernel_rfl) (by kernel_rfl) (fun _ _ _ h => h) (Or.inl ⟨by rfl, ?_⟩) (by assumption) ?_
                rotate_left 1
                · (intro w hSw; (try dsimp only at hSw); go_simp; try (with_reducible rfl))
                try simp only [Act.put, List.setIfInBounds_toArray, List.set_cons_zero, List.set_cons_succ]
                refine wpAnyH_done (by kernel_rfl) ?_ _
                have OZ : Hid (Only [] W1 v10) := OK.out.trans' O10.out
                clear CEL hHeld
                generalize v10 = v0 at *
                go_wp2_with fail
                go_roundg (i + 1 - (k + 1))
                case measure => omega
                case rel => exact ⟨k + 1, true, rfl, by simp, by omega, by omega, NX.out _ BB.out, OZ.out⟩
          · have h2 : ¬ ((k : Int) < (i : Int)) := by omega
            have d2 : decide ((k : Int) < (i : Int)) = false := decide_eq_false h2
            obtain rfl : k = i := by omega
            have K5 : Hid (Only [] W wr ∧ ∀ V, Only [] wr V → ∀ j, j < 4 → V.cell? ⟨bo, j, none⟩ = some (.bool ((updB fo kw true) j)) ∧ V.frozen? ⟨bo, j, none⟩ = false) := ⟨K2.out.1.trans' OK.out, fun V o => K2.out.2 V (OK.out.trans' o)⟩
            have L5 : Hid (lb = true ↔ LineP L (k + 1)) := LN.out lb LB.out
            go_wp2_with fail
            go_roundg (n + 1 - (k + 1))
            case measure => omega
            case rel => exact ⟨k + 1, m + 1, lb, (updB fo kw true), by simp, rfl, by simp, by omega, by omega, ⟨PN.out.1, PN.out.2, L5.out⟩, K5.out⟩
      · have PN : Hid (seenN fo = m ∧ ∀ j, j < 4 → fo j = (L.take (i + 1)).any (whoB j)) := by
          refine ⟨P.out.1, fun j hj => ?_⟩
          rw [AT.out j hj]
          by_cases e : j = kw
          · subst e; rw [hf]; rfl
          · simp [e]
        have K2 := K
        rw [hf] at oc
        clear hf
        go_wp2_with fail
        clear x0 oc of
        generalize wr = W1 at *
        go_loopg [6, 8] (i + 1) (fun gk2 sl sk wr => ∃ (k : Nat) (lb : Bool), sl = .bool lb ∧ sk = .int .i64 (k : Int) ∧ k ≤ i ∧ i + 1 ≤ gk2 + k ∧ Hid (lb = true ↔ (LineP L i ∧ ∀ k', k' < k → aheadD (dns L i) (dns L k') = true ∨ aheadD (dns L k') (dns L i) = true)) ∧ Hid (Only [] W1 wr))
        case atStart => exact ⟨0, ln, rfl, rfl, by omega, by omega, ⟨fun h => ⟨P.out.2.2.1 h, fun k' h => absurd h (by omega)⟩, fun h => P.out.2.2.2 h.1⟩, Only.refl _ _⟩
        case round =>
          obtain ⟨k, lb, rfl, rfl, hk, hg2, LB, OK⟩ := hrel
          by_cases hki : k < i
          · have h2 : (k : Int) < (i : Int) := by omega
            have d2 : decide ((k : Int) < (i : Int)) = true := decide_eq_true h2
            have h3 : (k : Int) < (n : Int) := by omega
            obtain ⟨xk, hxk⟩ : ∃ x, dns L k = x := ⟨_, rfl⟩
            have Hk := Lib.hid hxk
            clear hxk
            obtain ⟨g', ge, hci⟩ := (DN.out wr (K2.out.1.trans' OK.out)).at_ (k := i) (by have := LEN.out; omega)
            injection ge with ge
            injection ge with ge
            subst ge
            rw [Hi.out] at hci
            obtain ⟨g', ge, hck⟩ := (DN.out wr (K2.out.1.trans' OK.out)).at_ (k := k) (by have := LEN.out; omega)
            injection ge with ge
            injection ge with ge
            subst ge
            rw [Hk.out] at hck
            have CEL : Hid (∀ V, Only [] wr V → (V.cell? ⟨g, i * 12, none⟩ = some (.int .i64 xi.who) ∧ V.cell? ⟨g, i * 12 + 1, none⟩ = some (.int .i64 xi.place) ∧ V.cell? ⟨g, i * 12 + 2, none⟩ = some (.int .i64 xi.op) ∧ V.cell? ⟨g, i * 12 + 3, none⟩ = some (.int .i64 xi.f) ∧ V.cell? ⟨g, i * 12 + 4, none⟩ = some (.int .i64 xi.a) ∧ V.cell? ⟨g, i * 12 + 5, none⟩ = some (.int .i64 xi.b) ∧ V.cell? ⟨g, i * 12 + 6, none⟩ = some (.int .i64 xi.e) ∧ V.cell? ⟨g, i * 12 + 7, none⟩ = some (.slice xi.A xi.m xi.c) ∧ V.cell? ⟨g, i * 12 + 8, none⟩ = some (.int .i64 xi.n) ∧ V.cell? ⟨g, i * 12 + 9, none⟩ = some (.int .u64 xi.v) ∧ V.cell? ⟨g, i * 12 + 10, none⟩ = some (.int .i64 xi.fr) ∧ V.cell? ⟨g, i * 12 + 11, none⟩ = some (.int .i64 xi.to)) ∧ (V.cell? ⟨g, k * 12, none⟩ = some (.int .i64 xk.who) ∧ V.cell? ⟨g, k * 12 + 1, none⟩ = some (.int .i64 xk.place) ∧ V.cell? ⟨g, k * 12 + 2, none⟩ = some (.int .i64 xk.op) ∧ V.cell? ⟨g, k * 12 + 3, none⟩ = some (.int .i64 xk.f) ∧ V.cell? ⟨g, k * 12 + 4, none⟩ = some (.int .i64 xk.a) ∧ V.cell? ⟨g, k * 12 + 5, none⟩ = some (.int .i64 xk.b) ∧ V.cell? ⟨g, k * 12 + 6, none⟩ = some (.int .i64 xk.e) ∧ V.cell? ⟨g, k * 12 + 7, none⟩ = some (.slice xk.A xk.m xk.c) ∧ V.cell? ⟨g, k * 12 + 8, none⟩ = some (.int .i64 xk.n) ∧ V.cell? ⟨g, k * 12 + 9, none⟩ = some (.int .u64 xk.v) ∧ V.cell? ⟨g, k * 12 + 10, none⟩ = some (.int .i64 xk.fr) ∧ V.cell? ⟨g, k * 12 + 11, none⟩ = some (.int .i64 xk.to))) := fun V o => ⟨hci.only0 o, hck.only0 o⟩
            clear hci hck
            have ah := Lib.hid (fun (V : World) => cAhead xi xk V)
            have ha := Lib.hid (fun (V : World) => cAhead xk xi V)
            have NX : Hid (∀ b : Bool, b = (lb && (aheadD xi xk || aheadD xk xi)) → (b = true ↔ (LineP L i ∧ ∀ k', k' < k + 1 → aheadD (dns L i) (dns L k') = true ∨ aheadD (dns L k') (dns L i) = true))) := fun b hb => by
              rw [hb, Bool.and_eq_true, LB.out, Bool.or_eq_true]
              constructor
              · rintro ⟨⟨q1, q2⟩, q3⟩
                refine ⟨q1, fun k' hk' => ?_⟩
                by_cases e : k' = k
                · subst e; rw [Hi.out, Hk.out]; exact q3
                · exact q2 k' (by omega)
              · rintro ⟨q1, q2⟩
                refine ⟨⟨q1, fun k' hk' => q2 k' (by omega)⟩, ?_⟩
                have := q2 k (by omega)
                rwa [Hi.out, Hk.out] at this
            go_upto_region 13 with fail
            rcases lb
            · clear ah ha
              refine wp_region_held_drew (S := (fun u' => (u'.cell? ⟨g, i * 12, none⟩ = some (.int .i64 xi.who) ∧ u'.cell? ⟨g, i * 12 + 1, none⟩ = some (.int .i64 xi.place) ∧ u'.cell? ⟨g, i * 12 + 2, none⟩ = some (.int .i64 xi.op) ∧ u'.cell? ⟨g, i * 12 + 3, none⟩ = some (.int .i64 xi.f) ∧ u'.cell? ⟨g, i * 12 + 4, none⟩ = some (.int .i64 xi.a) ∧ u'.cell? ⟨g, i * 12 + 5, none⟩ = some (.int .i64 xi.b) ∧ u'.cell? ⟨g, i * 12 + 6, none⟩ = some (.int .i64 xi.e) ∧ u'.cell? ⟨g, i * 12 + 7, none⟩ = some (.slice xi.A xi.m xi.c) ∧ u'.cell? ⟨g, i * 12 + 8, none⟩ = some (.int .i64 xi.n) ∧ u'.cell? ⟨g, i * 12 + 9, none⟩ = some (.int .u64 xi.v) ∧ u'.cell? ⟨g, i * 12 + 10, none⟩ = some (.int .i64 xi.fr) ∧ u'.cell? ⟨g, i * 12 + 11, none⟩ = some (.int .i64 xi.to)) ∧ (u'.cell? ⟨g, k * 12, none⟩ = some (.int .i64 xk.who) ∧ u'.cell? ⟨g, k * 12 + 1, none⟩ = some (.int .i64 xk.place) ∧ u'.cell? ⟨g, k * 12 + 2, none⟩ = some (.int .i64 xk.op) ∧ u'.cell? ⟨g, k * 12 + 3, none⟩ = some (.int .i64 xk.f) ∧ u'.cell? ⟨g, k * 12 + 4, none⟩ = some (.int .i64 xk.a) ∧ u'.cell? ⟨g, k * 12 + 5, none⟩ = some (.int .i64 xk.b) ∧ u'.cell? ⟨g, k * 12 + 6, none⟩ = some (.int .i64 xk.e) ∧ u'.cell? ⟨g, k * 12 + 7, none⟩ = some (.slice xk.A xk.m xk.c) ∧ u'.cell? ⟨g, k * 12 + 8, none⟩ = some (.int .i64 xk.n) ∧ u'.cell? ⟨g, k * 12 + 9, none⟩ = some (.int .u64 xk.v) ∧ u'.cell? ⟨g, k * 12 + 10, none⟩ = some (.int .i64 xk.fr) ∧ u'.cell? ⟨g, k * 12 + 11, none⟩ = some (.int .i64 xk.to)))) (by kernel_rfl) (CEL.out _ (Only.drew (Only.refl [] wr))) (fun hHeld => ?_)
              refine takeH (i := 0) (v := ?_) rfl (by kernel_rfl) (by kernel_rfl) (by kernel_rfl) (fun _ _ _ h => h) (Or.inl ⟨by rfl, ?_⟩) (by assumption) ?_
              rotate_left 1
              · (intro w hSw; (try dsimp only at hSw); go_simp; try (with_reducible rfl))
              try simp only [Act.put, List.setIfInBounds_toArray, List.set_cons_zero, List.set_cons_succ]
              refine takeH (i := 1) (v := ?_) rfl (by kernel_rfl) (by kernel_rfl) (by kernel_rfl) (fun _ _ _ h => h) (Or.inl ⟨by rfl, ?_⟩) (by assumption) ?_
              rotate_left 1
              · (intro w hSw; (try dsimp only at hSw); go_simp; try (with_reducible rfl))
              try simp only [Act.put, List.setIfInBounds_toArray, List.set_cons_zero, List.set_cons_succ]
              refine takeH (i := 2) (v := undef) rfl (by kernel_rfl) (by kernel_rfl) (by kernel_rfl) (fun _ _ _ h => h) (Or.inr ⟨by rfl, rfl⟩) (by assumption) ?_
              try simp only [Act.put, List.setIfInBounds_toArray, List.set_cons_zero, List.set_cons_succ]
              refine takeH (i := 3) (v := undef) rfl (by kernel_rfl) (by kernel_rfl) (by kernel_rfl) (fun _ _ _ h => h) (Or.inr ⟨by rfl, rfl⟩) (by assumption) ?_
              try simp only [Act.put, List.setIfInBounds_toArray, List.set_cons_zero, List.set_cons_succ]
              refine takeH (i := 4) (v := undef) rfl (by kernel_rfl) (by kernel_rfl) (by kernel_rfl) (fun _ _ _ h => h) (Or.inr ⟨by rfl, rfl⟩) (by assumption) ?_
              try simp only [Act.put, List.setIfInBounds_toArray, List.set_cons_zero, List.set_cons_succ]
              refine takeH (i := 5) (v := undef) rfl (by kernel_rfl) (by kernel_rfl) (by kernel_rfl) (fun _ _ _ h => h) (Or.inr ⟨by rfl, rfl⟩) (by assumption) ?_
              try simp only [Act.put, List.setIfInBounds_toArray, List.set_cons_zero, List.set_cons_succ]
              refine takeH (i := 6) (v := undef) rfl (by kernel_rfl) (by kernel_rfl) (by kernel_rfl) (fun _ _ _ h => h) (Or.inr ⟨by rfl, rfl⟩) (by assumption) ?_
              try simp only [Act.put, List.setIfInBounds_toArray, List.set_cons_zero, List.set_cons_succ]
              refine takeH (i := 7) (v := undef) rfl (by kernel_rfl) (by kernel_rfl) (by kernel_rfl) (fun _ _ _ h => h) (Or.inr ⟨by rfl, rfl⟩) (by assumption) ?_
              try simp only [Act.put, List.setIfInBounds_toArray, List.set_cons_zero, List.set_cons_succ]
              refine takeH (i := 8) (v := undef) rfl (by kernel_rfl) (by kernel_rfl) (by kernel_rfl) (fun _ _ _ h => h) (Or.inr ⟨by rfl, rfl⟩) (by assumption) ?_
              try simp only [Act.put, List.setIfInBounds_toArray, List.set_cons_zero, List.set_cons_succ]
              refine takeH (i := 9) (v := undef) rfl (by kernel_rfl) (by kernel_rfl) (by kernel_rfl) (fun _ _ _ h => h) (Or.inr ⟨by rfl, rfl⟩) (by assumption) ?_
              try simp only [Act.put, List.setIfInBounds_toArray, List.set_cons_zero, List.set_cons_succ]
              refine takeH (i := 10) (v := undef) rfl (by kernel_rfl) (by kernel_rfl) (by kernel_rfl) (fun _ _ _ h => h) (Or.inr ⟨by rfl, rfl⟩) (by assumption) ?_
              try simp only [Act.put, List.setIfInBounds_toArray, List.set_cons_zero, List.set_cons_succ]
              refine takeH (i := 11) (v := undef) rfl (by kernel_rfl) (by kernel_rfl) (by kernel_rfl) (fun _ _ _ h => h) (Or.inr ⟨by rfl, rfl⟩) (by assumption) ?_
              try simp only [Act.put, List.setIfInBounds_toArray, List.set_cons_zero, List.set_cons_succ]
              refine takeH (i := 12) (v := undef) rfl (by kernel_rfl) (by kernel_rfl) (by kernel_rfl) (fun _ _ _ h => h) (Or.inr ⟨by rfl, rfl⟩) (by assumption) ?_
              try simp only [Act.put, List.setIfInBounds_toArray, List.set_cons_zero, List.set_cons_succ]
              refine takeH (i := 13) (v := undef) rfl (by kernel_rfl) (by kernel_rfl) (by kernel_rfl) (fun _ _ _ h => h) (Or.inr ⟨by rfl, rfl⟩) (by assumption) ?_
              try simp only [Act.put, List.setIfInBounds_toArray, List.set_cons_zero, List.set_cons_succ]
              refine takeH (i := 14) (v := undef) rfl (by kernel_rfl) (by kernel_rfl) (by kernel_rfl) (fun _ _ _ h => h) (Or.inr ⟨by rfl, rfl⟩) (by assumption) ?_
              try simp only [Act.put, List.setIfInBounds_toArray, List.set_cons_zero, List.set_cons_succ]
              refine takeH (i := 15) (v := undef) rfl (by kernel_rfl) (by kernel_rfl) (by kernel_rfl) (fun _ _ _ h => h) (Or.inr ⟨by rfl, rfl⟩) (by assumption) ?_
              try simp only [Act.put, List.setIfInBounds_toArray, List.set_cons_zero, List.set_cons_succ]
              refine takeH (i := 16) (v := undef) rfl (by kernel_rfl) (by kernel_rfl) (by kernel_rfl) (fun _ _ _ h => h) (Or.inr ⟨by rfl, rfl⟩) (by assumption) ?_
              try simp only [Act.put, List.setIfInBounds_toArray, List.set_cons_zero, List.set_cons_succ]
              refine takeH (i := 17) (v := undef) rfl (by kernel_rfl) (by kernel_rfl) (by kernel_rfl) (fun _ _ _ h => h) (Or.inr ⟨by rfl, rfl⟩) (by assumption) ?_
              try simp only [Act.put, List.setIfInBounds_toArray, List.set_cons_zero, List.set_cons_succ]
              refine takeH (i := 18) (v := undef) rfl (by kernel_rfl) (by kernel_rfl) (by kernel_rfl) (fun _ _ _ h => h) (Or.inr ⟨by rfl, rfl⟩) (by assumption) ?_
              try simp only [Act.put, List.setIfInBounds_toArray, List.set_cons_zero, List.set_cons_succ]
              refine takeH (i := 19) (v := undef) rfl (by kernel_rfl) (by kernel_rfl) (by kernel_rfl) (fun _ _ _ h => h) (Or.inr ⟨by rfl, rfl⟩) (by assumption) ?_
              try simp only [Act.put, List.setIfInBounds_toArray, List.set_cons_zero, List.set_cons_succ]
              refine takeH (i := 20) (v := undef) rfl (by kernel_rfl) (by kernel_rfl) (by kernel_rfl) (fun _ _ _ h => h) (Or.inr ⟨by rfl, rfl⟩) (by assumption) ?_
              try simp only [Act.put, List.setIfInBounds_toArray, List.set_cons_zero, List.set_cons_succ]
              refine takeH (i := 21) (v := undef) rfl (by kernel_rfl) (by kernel_rfl) (by kernel_rfl) (fun _ _ _ h => h) (Or.inr ⟨by rfl, rfl⟩) (by assumption) ?_
              try simp only [Act.put, List.setIfInBounds_toArray, List.set_cons_zero, List.set_cons_succ]
              refine takeH (i := 22) (v := ?_) rfl (by kernel_rfl) (by kernel_rfl) (by kernel_rfl) (fun _ _ _ h => h) (Or.inl ⟨by rfl, ?_⟩) (by assumption) ?_
              rotate_left 1
              · (intro w hSw; (try dsimp only at hSw); go_simp; try (with_reducible rfl))
              try simp only [Act.put, List.setIfInBounds_toArray, List.set_cons_zero, List.set_cons_succ]
              refine takeH (i := 23) (v := ?_) rfl (by kernel_rfl) (by kernel_rfl) (by kernel_rfl) (fun _ _ _ h => h) (Or.inl ⟨by rfl, ?_⟩) (by assumption) ?_
              rotate_left 1
              · (intro w hSw; (try dsimp only at hSw); go_simp; try (with_reducible rfl))
              try simp only [Act.put, List.setIfInBounds_toArray, List.set_cons_zero, List.set_cons_succ]
              refine wpAnyH_done (by kernel_rfl) ?_ _
              have OZ : Hid (Only [] W1 wr.drew) := OK.out.trans' (Only.drew (Only.refl [] wr))
              clear CEL hHeld
              generalize wr.drew = v0 at *
              go_wp2_with fail
              go_roundg (i + 1 - (k + 1))
              case measure => omega
              case rel => exact ⟨k + 1, false, rfl, by simp, by omega, by omega, NX.out _ rfl, OZ.out⟩
            · rcases hx : aheadD xi xk
              · rw [hx] at ah
                rcases hy : aheadD xk xi
                · rw [hy] at ha
                  have BB : Hid (false = (true && (aheadD xi xk || aheadD xk xi))) := by show _ = _; rw [hx, hy]; rfl
                  clear hx hy
                  refine wp_region_held_drew (S := (fun u' => (u'.cell? ⟨g, i * 12, none⟩ = some (.int .i64 xi.who) ∧ u'.cell? ⟨g, i * 12 + 1, none⟩ = some (.int .i64 xi.place) ∧ u'.cell? ⟨g, i * 12 + 2, none⟩ = some (.int .i64 xi.op) ∧ u'.cell? ⟨g, i * 12 + 3, none⟩ = some (.int .i64 xi.f) ∧ u'.cell? ⟨g, i * 12 + 4, none⟩ = some (.int .i64 xi.a) ∧ u'.cell? ⟨g, i * 12 + 5, none⟩ = some (.int .i64 xi.b) ∧ u'.cell? ⟨g, i * 12 + 6, none⟩ = some (.int .i64 xi.e) ∧ u'.cell? ⟨g, i * 12 + 7, none⟩ = some (.slice xi.A xi.m xi.c) ∧ u'.cell? ⟨g, i * 12 + 8, none⟩ = some (.int .i64 xi.n) ∧ u'.cell? ⟨g, i * 12 + 9, none⟩ = some (.int .u64 xi.v) ∧ u'.cell? ⟨g, i * 12 + 10, none⟩ = some (.int .i64 xi.fr) ∧ u'.cell? ⟨g, i * 12 + 11, none⟩ = some (.int .i64 xi.to)) ∧ (u'.cell? ⟨g, k * 12, none⟩ = some (.int .i64 xk.who) ∧ u'.cell? ⟨g, k * 12 + 1, none⟩ = some (.int .i64 xk.place) ∧ u'.cell? ⟨g, k * 12 + 2, none⟩ = some (.int .i64 xk.op) ∧ u'.cell? ⟨g, k * 12 + 3, none⟩ = some (.int .i64 xk.f) ∧ u'.cell? ⟨g, k * 12 + 4, none⟩ = some (.int .i64 xk.a) ∧ u'.cell? ⟨g, k * 12 + 5, none⟩ = some (.int .i64 xk.b) ∧ u'.cell? ⟨g, k * 12 + 6, none⟩ = some (.int .i64 xk.e) ∧ u'.cell? ⟨g, k * 12 + 7, none⟩ = some (.slice xk.A xk.m xk.c) ∧ u'.cell? ⟨g, k * 12 + 8, none⟩ = some (.int .i64 xk.n) ∧ u'.cell? ⟨g, k * 12 + 9, none⟩ = some (.int .u64 xk.v) ∧ u'.cell? ⟨g, k * 12 + 10, none⟩ = some (.int .i64 xk.fr) ∧ u'.cell? ⟨g, k * 12 + 11, none⟩ = some (.int .i64 xk.to)))) (by kernel_rfl) (CEL.out _ (Only.drew (Only.refl [] wr))) (fun hHeld => ?_)
                  refine takeH (i := 0) (v := ?_) rfl (by kernel_rfl) (by kernel_rfl) (by kernel_rfl) (fun _ _ _ h => h) (Or.inl ⟨by rfl, ?_⟩) (by assumption) ?_
                  rotate_left 1
                  · (intro w hSw; (try dsimp only at hSw); go_simp; try (with_reducible rfl))
                  try simp only [Act.put, List.setIfInBounds_toArray, List.set_cons_zero, List.set_cons_succ]
                  refine takeH (i := 1) (v := ?_) rfl (by kernel_rfl) (by kernel_rfl) (by kernel_rfl) (fun _ _ _ h => h) (Or.inl ⟨by rfl, ?_⟩) (by assumption) ?_
                  rotate_left 1
                  · (intro w hSw; (try dsimp only at hSw); go_simp; try (with_reducible rfl))
                  try simp only [Act.put, List.setIfInBounds_toArray, List.set_cons_zero, List.set_cons_succ]
                  refine takeH (i := 2) (v := ?_) rfl (by kernel_rfl) (by kernel_rfl) (by kernel_rfl) (fun _ _ _ h => h) (Or.inl ⟨by rfl, ?_⟩) (by assumption) ?_
                  rotate_left 1
                  · (intro w hSw; (try dsimp only at hSw); go_simp; try (with_reducible rfl))
                  try simp only [Act.put, List.setIfInBounds_toArray, List.set_cons_zero, List.set_cons_succ]
                  refine takeH (i := 3) (v := ?_) rfl (by kernel_rfl) (by kernel_rfl) (by kernel_rfl) (fun _ _ _ h => h) (Or.inl ⟨by rfl, ?_⟩) (by assumption) ?_
                  rotate_left 1
                  · (intro w hSw; (try dsimp only at hSw); go_simp; try (with_reducible rfl))
                  try simp only [Act.put, List.setIfInBounds_toArray, List.set_cons_zero, List.set_cons_succ]
                  refine takeH (i := 4) (v := ?_) rfl (by kernel_rfl) (by kernel_rfl) (by kernel_rfl) (fun _ _ _ h => h) (Or.inl ⟨by rfl, ?_⟩) (by assumption) ?_
                  rotate_left 1
                  · (intro w hSw; (try dsimp only at hSw); go_simp; try (with_reducible rfl))
                  try simp only [Act.put, List.setIfInBounds_toArray, List.set_cons_zero, List.set_cons_succ]
                  refine takeH (i := 5) (v := ?_) rfl (by kernel_rfl) (by kernel_rfl) (by kernel_rfl) (fun _ _ _ h => h) (Or.inl ⟨by rfl, ?_⟩) (by assumption) ?_
                  rotate_left 1
                  · (intro w hSw; (try dsimp only at hSw); go_simp; try (with_reducible rfl))
                  try simp only [Act.put, List.setIfInBounds_toArray, List.set_cons_zero, List.set_cons_succ]
                  refine takeH (i := 6) (v := ?_) rfl (by kernel_rfl) (by kernel_rfl) (by kernel_rfl) (fun _ _ _ h => h) (Or.inl ⟨by rfl, ?_⟩) (by assumption) ?_
                  rotate_left 1
                  · (intro w hSw; (try dsimp only at hSw); go_simp; try (with_reducible rfl))
                  try simp only [Act.put, List.setIfInBounds_toArray, List.set_cons_zero, List.set_cons_succ]
                  refine takeH (i := 7) (v := ?_) rfl (by kernel_rfl) (by kernel_rfl) (by kernel_rfl) (fun _ _ _ h => h) (Or.inl ⟨by rfl, ?_⟩) (by assumption) ?_
                  rotate_left 1
                  · (intro w hSw; (try dsimp only at hSw); go_simp; try (with_reducible rfl))
                  try simp only [Act.put, List.setIfInBounds_toArray, List.set_cons_zero, List.set_cons_succ]
                  refine takeH (i := 8) (v := ?_) rfl (by kernel_rfl) (by kernel_rfl) (by kernel_rfl) (fun _ _ _ h => h) (Or.inl ⟨by rfl, ?_⟩) (by assumption) ?_
                  rotate_left 1
                  · (intro w hSw; (try dsimp only at hSw); go_simp; try (with_reducible rfl))
                  try simp only [Act.put, List.setIfInBounds_toArray, List.set_cons_zero, List.set_cons_succ]
                  refine takeH (i := 9) (v := ?_) rfl (by kernel_rfl) (by kernel_rfl) (by kernel_rfl) (fun _ _ _ h => h) (Or.inl ⟨by rfl, ?_⟩) (by assumption) ?_
                  rotate_left 1
                  · (intro w hSw; (try dsimp only at hSw); go_simp; try (with_reducible rfl))
                  try simp only [Act.put, List.setIfInBounds_toArray, List.set_cons_zero, List.set_cons_succ]
                  refine wpAnyH_ready (rs := [10]) (by kernel_rfl) (by simp) ?_
                  refine consH rfl (fun K hK => ?_) AllReadyH.nil
                  go_simp
                  refine (ah.out _).mono ?_
                  rintro e v10 ⟨rfl, o⟩
                  have O10 := Lib.hid ((Only.drew (Only.refl [] wr)).trans' o)
                  clear o
                  refine hK.out _ _ (CEL.out _ O10.out) (fun hHeld2 => ?_)
                  clear hK K hHeld
                  have hHeld := hHeld2
                  clear hHeld2
                  try simp only [Act.put, List.setIfInBounds_toArray, List.set_cons_zero, List.set_cons_succ]
                  refine takeH (i := 11) (v := ?_) rfl (by kernel_rfl) (by kernel_rfl) (by kernel_rfl) (fun _ _ _ h => h) (Or.inl ⟨by rfl, ?_⟩) (by assumption) ?_
                  rotate_left 1
                  · (intro w hSw; (try dsimp only at hSw); go_simp; try (with_reducible rfl))
                  try simp only [Act.put, List.setIfInBounds_toArray, List.set_cons_zero, List.set_cons_succ]
                  refine takeH (i := 12) (v := ?_) rfl (by kernel_rfl) (by kernel_rfl) (by kernel_rfl) (fun _ _ _ h => h) (Or.inl ⟨by rfl, ?_⟩) (by assumption) ?_
                  rotate_left 1
                  · (intro w hSw; (try dsimp only at hSw); go_simp; try (with_reducible rfl))
                  try simp only [Act.put, List.setIfInBounds_toArray, List.set_cons_zero, List.set_cons_succ]
                  refine takeH (i := 13) (v := ?_) rfl (by kernel_rfl) (by kernel_rfl) (by kernel_rfl) (fun _ _ _ h => h) (Or.inl ⟨by rfl, ?_⟩) (by assumption) ?_
                  rotate_left 1
                  · (intro w hSw; (try dsimp only at hSw); go_simp; try (with_reducible rfl))
                  try simp only [Act.put, List.setIfInBounds_toArray, List.set_cons_zero, List.set_cons_succ]
                  refine takeH (i := 14) (v := ?_) rfl (by kernel_rfl) (by kernel_rfl) (by kernel_rfl) (fun _ _ _ h => h) (Or.inl ⟨by rfl, ?_⟩) (by assumption) ?_
                  rotate_left 1
                  · (intro w hSw; (try dsimp only at hSw); go_simp; try (with_reducible rfl))
                  try simp only [Act.put, List.setIfInBounds_toArray, List.set_cons_zero, List.set_cons_succ]
                  refine takeH (i := 15) (v := ?_) rfl (by kernel_rfl) (by kernel_rfl) (by kernel_rfl) (fun _ _ _ h => h) (Or.inl ⟨by rfl, ?_⟩) (by assumption) ?_
                  rotate_left 1
                  · (intro w hSw; (try dsimp only at hSw); go_simp; try (with_reducible rfl))
                  try simp only [Act.put, List.setIfInBounds_toArray, List.set_cons_zero, List.set_cons_succ]
                  refine takeH (i := 16) (v := ?_) rfl (by kernel_rfl) (by kernel_rfl) (by kernel_rfl) (fun _ _ _ h => h) (Or.inl ⟨by rfl, ?_⟩) (by assumption) ?_
                  rotate_left 1
                  · (intro w hSw; (try dsimp only at hSw); go_simp; try (with_reducible rfl))
                  try simp only [Act.put, List.setIfInBounds_toArray, List.set_cons_zero, List.set_cons_succ]
                  refine takeH (i := 17) (v := ?_) rfl (by kernel_rfl) (by kernel_rfl) (by kernel_rfl) (fun _ _ _ h => h) (Or.inl ⟨by rfl, ?_⟩) (by assumption) ?_
                  rotate_left 1
                  · (intro w hSw; (try dsimp only at hSw); go_simp; try (with_reducible rfl))
                  try simp only [Act.put, List.setIfInBounds_toArray, List.set_cons_zero, List.set_cons_succ]
                  refine takeH (i := 18) (v := ?_) rfl (by kernel_rfl) (by kernel_rfl) (by kernel_rfl) (fun _ _ _ h => h) (Or.inl ⟨by rfl, ?_⟩) (by assumption) ?_
                  rotate_left 1
                  · (intro w hSw; (try dsimp only at hSw); go_simp; try (with_reducible rfl))
                  try simp only [Act.put, List.setIfInBounds_toArray, List.set_cons_zero, List.set_cons_succ]
                  refine takeH (i := 19) (v := ?_) rfl (by kernel_rfl) (by kernel_rfl) (by kernel_rfl) (fun _ _ _ h => h) (Or.inl ⟨by rfl, ?_⟩) (by assumption) ?_
                  rotate_left 1
                  · (intro w hSw; (try dsimp only at hSw); go_simp; try (with_reducible rfl))
                  try simp only [Act.put, List.setIfInBounds_toArray, List.set_cons_zero, List.set_cons_succ]
                  refine wpAnyH_ready (rs := [20]) (by kernel_rfl) (by simp) ?_
                  refine consH rfl (fun K hK => ?_) AllReadyH.nil
                  go_simp
                  refine (ha.out _).mono ?_
                  rintro e v20 ⟨rfl, o⟩
                  have O20 := Lib.hid (O10.out.trans' o)
                  clear o
                  refine hK.out _ _ (CEL.out _ O20.out) (fun hHeld2 => ?_)
                  clear hK K hHeld
                  have hHeld := hHeld2
                  clear hHeld2
                  try simp only [Act.put, List.setIfInBounds_toArray, List.set_cons_zero, List.set_cons_succ]
                  refine takeH (i := 21) (v := ?_) rfl (by kernel_rfl) (by kernel_rfl) (by kernel_rfl) (fun _ _ _ h => h) (Or.inl ⟨by rfl, ?_⟩) (by assumption) ?_
                  rotate_left 1
                  · (intro w hSw; (try dsimp only at hSw); go_simp; try (with_reducible rfl))
                  try simp only [Act.put, List.setIfInBounds_toArray, List.set_cons_zero, List.set_cons_succ]
                  refine takeH (i := 22) (v := ?_) rfl (by kernel_rfl) (by kernel_rfl) (by kernel_rfl) (fun _ _ _ h => h) (Or.inl ⟨by rfl, ?_⟩) (by assumption) ?_
                  rotate_left 1
                  · (intro w hSw; (try dsimp only at hSw); go_simp; try (with_reducible rfl))
                  try simp only [Act.put, List.setIfInBounds_toArray, List.set_cons_zero, List.set_cons_succ]
                  refine takeH (i := 23) (v := ?_) rfl (by kernel_rfl) (by kernel_rfl) (by kernel_rfl) (fun _ _ _ h => h) (Or.inl ⟨by rfl, ?_⟩) (by assumption) ?_
                  rotate_left 1
                  · (intro w hSw; (try dsimp only at hSw); go_simp; try (with_reducible rfl))
                  try simp only [Act.put, List.setIfInBounds_toArray, List.set_cons_zero, List.set_cons_succ]
                  refine wpAnyH_done (by kernel_rfl) ?_ _
                  have OZ : Hid (Only [] W1 v20) := OK.out.trans' O20.out
                  clear CEL hHeld
                  generalize v20 = v0 at *
                  go_wp2_with fail
                  go_roundg (i + 1 - (k + 1))
                  case measure => omega
                  case rel => exact ⟨k + 1, false, rfl, by simp, by omega, by omega, NX.out _ BB.out, OZ.out⟩
                · rw [hy] at ha
                  have BB : Hid (true = (true && (aheadD xi xk || aheadD xk xi))) := by show _ = _; rw [hx, hy]; rfl
                  clear hx hy
                  refine wp_region_held_drew (S := (fun u' => (u'.cell? ⟨g, i * 12, none⟩ = some (.int .i64 xi.who) ∧ u'.cell? ⟨g, i * 12 + 1, none⟩ = some (.int .i64 xi.place) ∧ u'.cell? ⟨g, i * 12 + 2, none⟩ = some (.int .i64 xi.op) ∧ u'.cell? ⟨g, i * 12 + 3, none⟩ = some (.int .i64 xi.f) ∧ u'.cell? ⟨g, i * 12 + 4, none⟩ = some (.int .i64 xi.a) ∧ u'.cell? ⟨g, i * 12 + 5, none⟩ = some (.int .i64 xi.b) ∧ u'.cell? ⟨g, i * 12 + 6, none⟩ = some (.int .i64 xi.e) ∧ u'.cell? ⟨g, i * 12 + 7, none⟩ = some (.slice xi.A xi.m xi.c) ∧ u'.cell? ⟨g, i * 12 + 8, none⟩ = some (.int .i64 xi.n) ∧ u'.cell? ⟨g, i * 12 + 9, none⟩ = some (.int .u64 xi.v) ∧ u'.cell? ⟨g, i * 12 + 10, none⟩ = some (.int .i64 xi.fr) ∧ u'.cell? ⟨g, i * 12 + 11, none⟩ = some (.int .i64 xi.to)) ∧ (u'.cell? ⟨g, k * 12, none⟩ = some (.int .i64 xk.who) ∧ u'.cell? ⟨g, k * 12 + 1, none⟩ = some (.int .i64 xk.place) ∧ u'.cell? ⟨g, k * 12 + 2, none⟩ = some (.int .i64 xk.op) ∧ u'.cell? ⟨g, k * 12 + 3, none⟩ = some (.int .i64 xk.f) ∧ u'.cell? ⟨g, k * 12 + 4, none⟩ = some (.int .i64 xk.a) ∧ u'.cell? ⟨g, k * 12 + 5, none⟩ = some (.int .i64 xk.b) ∧ u'.cell? ⟨g, k * 12 + 6, none⟩ = some (.int .i64 xk.e) ∧ u'.cell? ⟨g, k * 12 + 7, none⟩ = some (.slice xk.A xk.m xk.c) ∧ u'.cell? ⟨g, k * 12 + 8, none⟩ = some (.int .i64 xk.n) ∧ u'.cell? ⟨g, k * 12 + 9, none⟩ = some (.int .u64 xk.v) ∧ u'.cell? ⟨g, k * 12 + 10, none⟩ = some (.int .i64 xk.fr) ∧ u'.cell? ⟨g, k * 12 + 11, none⟩ = some (.int .i64 xk.to)))) (by kernel_rfl) (CEL.out _ (Only.drew (Only.refl [] wr))) (fun hHeld => ?_)
                  refine takeH (i := 0) (v := ?_) rfl (by kernel_rfl) (by kernel_rfl) (by kernel_rfl) (fun _ _ _ h => h) (Or.inl ⟨by rfl, ?_⟩) (by assumption) ?_
                  rotate_left 1
                  · (intro w hSw; (try dsimp only at hSw); go_simp; try (with_reducible rfl))
                  try simp only [Act.put, List.setIfInBounds_toArray, List.set_cons_zero, List.set_cons_succ]
                  refine takeH (i := 1) (v := ?_) rfl (by kernel_rfl) (by kernel_rfl) (by kernel_rfl) (fun _ _ _ h => h) (Or.inl ⟨by rfl, ?_⟩) (by assumption) ?_
                  rotate_left 1
                  · (intro w hSw; (try dsimp only at hSw); go_simp; try (with_reducible rfl))
                  try simp only [Act.put, List.setIfInBounds_toArray, List.set_cons_zero, List.set_cons_succ]
                  refine takeH (i := 2) (v := ?_) rfl (by kernel_rfl) (by kernel_rfl) (by kernel_rfl) (fun _ _ _ h => h) (Or.inl ⟨by rfl, ?_⟩) (by assumption) ?_
                  rotate_left 1
                  · (intro w hSw; (try dsimp only at hSw); go_simp; try (with_reducible rfl))
                  try simp only [Act.put, List.setIfInBounds_toArray, List.set_cons_zero, List.set_cons_succ]
                  refine takeH (i := 3) (v := ?_) rfl (by kernel_rfl) (by kernel_rfl) (by kernel_rfl) (fun _ _ _ h => h) (Or.inl ⟨by rfl, ?_⟩) (by assumption) ?_
                  rotate_left 1
                  · (intro w hSw; (try dsimp only at hSw); go_simp; try (with_reducible rfl))
                  try simp only [Act.put, List.setIfInBounds_toArray, List.set_cons_zero, List.set_cons_succ]
                  refine takeH (i := 4) (v := ?_) rfl (by kernel_rfl) (by kernel_rfl) (by kernel_rfl) (fun _ _ _ h => h) (Or.inl ⟨by rfl, ?_⟩) (by assumption) ?_
                  rotate_left 1
                  · (intro w hSw; (try dsimp only at hSw); go_simp; try (with_reducible rfl))
                  try simp only [Act.put, List.setIfInBounds_toArray, List.set_cons_zero, List.set_cons_succ]
                  refine takeH (i := 5) (v := ?_) rfl (by kernel_rfl) (by kernel_rfl) (by kernel_rfl) (fun _ _ _ h => h) (Or.inl ⟨by rfl, ?_⟩) (by assumption) ?_
                  rotate_left 1
                  · (intro w hSw; (try dsimp only at hSw); go_simp; try (with_reducible rfl))
                  try simp only [Act.put, List.setIfInBounds_toArray, List.set_cons_zero, List.set_cons_succ]
                  refine takeH (i := 6) (v := ?_) rfl (by kernel_rfl) (by kernel_rfl) (by kernel_rfl) (fun _ _ _ h => h) (Or.inl ⟨by rfl, ?_⟩) (by assumption) ?_
                  rotate_left 1
                  · (intro w hSw; (try dsimp only at hSw); go_simp; try (with_reducible rfl))
                  try simp only [Act.put, List.setIfInBounds_toArray, List.set_cons_zero, List.set_cons_succ]
                  refine takeH (i := 7) (v := ?_) rfl (by kernel_rfl) (by kernel_rfl) (by kernel_rfl) (fun _ _ _ h => h) (Or.inl ⟨by rfl, ?_⟩) (by assumption) ?_
                  rotate_left 1
                  · (intro w hSw; (try dsimp only at hSw); go_simp; try (with_reducible rfl))
                  try simp only [Act.put, List.setIfInBounds_toArray, List.set_cons_zero, List.set_cons_succ]
                  refine takeH (i := 8) (v := ?_) rfl (by kernel_rfl) (by kernel_rfl) (by kernel_rfl) (fun _ _ _ h => h) (Or.inl ⟨by rfl, ?_⟩) (by assumption) ?_
                  rotate_left 1
                  · (intro w hSw; (try dsimp only at hSw); go_simp; try (with_reducible rfl))
                  try simp only [Act.put, List.setIfInBounds_toArray, List.set_cons_zero, List.set_cons_succ]
                  refine takeH (i := 9) (v := ?_) rfl (by kernel_rfl) (by kernel_rfl) (by kernel_rfl) (fun _ _ _ h => h) (Or.inl ⟨by rfl, ?_⟩) (by assumption) ?_
                  rotate_left 1
                  · (intro w hSw; (try dsimp only at hSw); go_simp; try (with_reducible rfl))
                  try simp only [Act.put, List.setIfInBounds_toArray, List.set_cons_zero, List.set_cons_succ]
                  refine wpAnyH_ready (rs := [10]) (by kernel_rfl) (by simp) ?_
                  refine consH rfl (fun K hK => ?_) AllReadyH.nil
                  go_simp
                  refine (ah.out _).mono ?_
                  rintro e v10 ⟨rfl, o⟩
                  have O10 := Lib.hid ((Only.drew (Only.refl [] wr)).trans' o)
                  clear o
                  refine hK.out _ _ (CEL.out _ O10.out) (fun hHeld2 => ?_)
                  clear hK K hHeld
                  have hHeld := hHeld2
                  clear hHeld2
                  try simp only [Act.put, List.setIfInBounds_toArray, List.set_cons_zero, List.set_cons_succ]
                  refine takeH (i := 11) (v := ?_) rfl (by kernel_rfl) (by kernel_rfl) (by kernel_rfl) (fun _ _ _ h => h) (Or.inl ⟨by rfl, ?_⟩) (by assumption) ?_
                  rotate_left 1
                  · (intro w hSw; (try dsimp only at hSw); go_simp; try (with_reducible rfl))
                  try simp only [Act.put, List.setIfInBounds_toArray, List.set_cons_zero, List.set_cons_succ]
                  refine takeH (i := 12) (v := ?_) rfl (by kernel_rfl) (by kernel_rfl) (by kernel_rfl) (fun _ _ _ h => h) (Or.inl ⟨by rfl, ?_⟩) (by assumption) ?_
                  rotate_left 1
                  · (intro w hSw; (try dsimp only at hSw); go_simp; try (with_reducible rfl))
                  try simp only [Act.put, List.setIfInBounds_toArray, List.set_cons_zero, List.set_cons_succ]
                  refine takeH (i := 13) (v := ?_) rfl (by kernel_rfl) (by kernel_rfl) (by kernel_rfl) (fun _ _ _ h => h) (Or.inl ⟨by rfl, ?_⟩) (by assumption) ?_
                  rotate_left 1
                  · (intro w hSw; (try dsimp only at hSw); go_simp; try (with_reducible rfl))
                  try simp only [Act.put, List.setIfInBounds_toArray, List.set_cons_zero, List.set_cons_succ]
                  refine takeH (i := 14) (v := ?_) rfl (by kernel_rfl) (by kernel_rfl) (by kernel_rfl) (fun _ _ _ h => h) (Or.inl ⟨by rfl, ?_⟩) (by assumption) ?_
                  rotate_left 1
                  · (intro w hSw; (try dsimp only at hSw); go_simp; try (with_reducible rfl))
                  try simp only [Act.put, List.setIfInBounds_toArray, List.set_cons_zero, List.set_cons_succ]
                  refine takeH (i := 15) (v := ?_) rfl (by kernel_rfl) (by kernel_rfl) (by kernel_rfl) (fun _ _ _ h => h) (Or.inl ⟨by rfl, ?_⟩) (by assumption) ?_
                  rotate_left 1
                  · (intro w hSw; (try dsimp only at hSw); go_simp; try (with_reducible rfl))
                  try simp only [Act.put, List.setIfInBounds_toArray, List.set_cons_zero, List.set_cons_succ]
                  refine takeH (i := 16) (v := ?_) rfl (by kernel_rfl) (by kernel_rfl) (by kernel_rfl) (fun _ _ _ h => h) (Or.inl ⟨by rfl, ?_⟩) (by assumption) ?_
                  rotate_left 1
                  · (intro w hSw; (try dsimp only at hSw); go_simp; try (with_reducible rfl))
                  try simp only [Act.put, List.setIfInBounds_toArray, List.set_cons_zero, List.set_cons_succ]
                  refine takeH (i := 17) (v := ?_) rfl (by kernel_rfl) (by kernel_rfl) (by kernel_rfl) (fun _ _ _ h => h) (Or.inl ⟨by rfl, ?_⟩) (by assumption) ?_
                  rotate_left 1
                  · (intro w hSw; (try dsimp only at hSw); go_simp; try (with_reducible rfl))
                  try simp only [Act.put, List.setIfInBounds_toArray, List.set_cons_zero, List.set_cons_succ]
                  refine takeH (i := 18) (v := ?_) rfl (by kernel_rfl) (by kernel_rfl) (by kernel_rfl) (fun _ _ _ h => h) (Or.inl ⟨by rfl, ?_⟩) (by assumption) ?_
                  rotate_left 1
                  · (intro w hSw; (try dsimp only at hSw); go_simp; try (with_reducible rfl))
                  try simp only [Act.put, List.setIfInBounds_toArray, List.set_cons_zero, List.set_cons_succ]
                  refine takeH (i := 19) (v := ?_) rfl (by kernel_rfl) (by kernel_rfl) (by kernel_rfl) (fun _ _ _ h => h) (Or.inl ⟨by rfl, ?_⟩) (by assumption) ?_
                  rotate_left 1
                  · (intro w hSw; (try dsimp only at hSw); go_simp; try (with_reducible rfl))
                  try simp only [Act.put, List.setIfInBounds_toArray, List.set_cons_zero, List.set_cons_succ]
                  refine wpAnyH_ready (rs := [20]) (by kernel_rfl) (by simp) ?_
                  refine consH rfl (fun K hK => ?_) AllReadyH.nil
                  go_simp
                  refine (ha.out _).mono ?_
                  rintro e v20 ⟨rfl, o⟩
                  have O20 := Lib.hid (O10.out.trans' o)
                  clear o
                  refine hK.out _ _ (CEL.out _ O20.out) (fun hHeld2 => ?_)
                  clear hK K hHeld
                  have hHeld := hHeld2
                  clear hHeld2
                  try simp only [Act.put, List.setIfInBounds_toArray, List.set_cons_zero, List.set_cons_succ]
                  refine takeH (i := 21) (v := ?_) rfl (by kernel_rfl) (by kernel_rfl) (by kernel_rfl) (fun _ _ _ h => h) (Or.inl ⟨by rfl, ?_⟩) (by assumption) ?_
                  rotate_left 1
                  · (intro w hSw; (try dsimp only at hSw); go_simp; try (with_reducible rfl))
                  try simp only [Act.put, List.setIfInBounds_toArray, List.set_cons_zero, List.set_cons_succ]
                  refine takeH (i := 22) (v := ?_) rfl (by kernel_rfl) (by kernel_rfl) (by kernel_rfl) (fun _ _ _ h => h) (Or.inl ⟨by rfl, ?_⟩) (by assumption) ?_
                  rotate_left 1
                  · (intro w hSw; (try dsimp only at hSw); go_simp; try (with_reducible rfl))
                  try simp only [Act.put, List.setIfInBounds_toArray, List.set_cons_zero, List.set_cons_succ]
                  refine takeH (i := 23) (v := ?_) rfl (by kernel_rfl) (by kernel_rfl) (by kernel_rfl) (fun _ _ _ h => h) (Or.inl ⟨by rfl, ?_⟩) (by assumption) ?_
                  rotate_left 1
                  · (intro w hSw; (try dsimp only at hSw); go_simp; try (with_reducible rfl))
                  try simp only [Act.put, List.setIfInBounds_toArray, List.set_cons_zero, List.set_cons_succ]
                  refine wpAnyH_done (by kernel_rfl) ?_ _
                  have OZ : Hid (Only [] W1 v20) := OK.out.trans' O20.out
                  clear CEL hHeld
                  generalize v20 = v0 at *
                  go_wp2_with fail
                  go_roundg (i + 1 - (k + 1))
                  case measure => omega
                  case rel => exact ⟨k + 1, true, rfl, by simp, by omega, by omega, NX.out _ BB.out, OZ.out⟩
              · rw [hx] at ah
                clear ha
                have BB : Hid (true = (true && (aheadD xi xk || aheadD xk xi))) := by show _ = _; rw [hx]; rfl
                clear hx
                refine wp_region_held_drew (S := (fun u' => (u'.cell? ⟨g, i * 12, none⟩ = some (.int .i64 xi.who) ∧ u'.cell? ⟨g, i * 12 + 1, none⟩ = some (.int .i64 xi.place) ∧ u'.cell? ⟨g, i * 12 + 2, none⟩ = some (.int .i64 xi.op) ∧ u'.cell? ⟨g, i * 12 + 3, none⟩ = some (.int .i64 xi.f) ∧ u'.cell? ⟨g, i * 12 + 4, none⟩ = some (.int .i64 xi.a) ∧ u'.cell? ⟨g, i * 12 + 5, none⟩ = some (.int .i64 xi.b) ∧ u'.cell? ⟨g, i * 12 + 6, none⟩ = some (.int .i64 xi.e) ∧ u'.cell? ⟨g, i * 12 + 7, none⟩ = some (.slice xi.A xi.m xi.c) ∧ u'.cell? ⟨g, i * 12 + 8, none⟩ = some (.int .i64 xi.n) ∧ u'.cell? ⟨g, i * 12 + 9, none⟩ = some (.int .u64 xi.v) ∧ u'.cell? ⟨g, i * 12 + 10, none⟩ = some (.int .i64 xi.fr) ∧ u'.cell? ⟨g, i * 12 + 11, none⟩ = some (.int .i64 xi.to)) ∧ (u'.cell? ⟨g, k * 12, none⟩ = some (.int .i64 xk.who) ∧ u'.cell? ⟨g, k * 12 + 1, none⟩ = some (.int .i64 xk.place) ∧ u'.cell? ⟨g, k * 12 + 2, none⟩ = some (.int .i64 xk.op) ∧ u'.cell? ⟨g, k * 12 + 3, none⟩ = some (.int .i64 xk.f) ∧ u'.cell? ⟨g, k * 12 + 4, none⟩ = some (.int .i64 xk.a) ∧ u'.cell? ⟨g, k * 12 + 5, none⟩ = some (.int .i64 xk.b) ∧ u'.cell? ⟨g, k * 12 + 6, none⟩ = some (.int .i64 xk.e) ∧ u'.cell? ⟨g, k * 12 + 7, none⟩ = some (.slice xk.A xk.m xk.c) ∧ u'.cell? ⟨g, k * 12 + 8, none⟩ = some (.int .i64 xk.n) ∧ u'.cell? ⟨g, k * 12 + 9, none⟩ = some (.int .u64 xk.v) ∧ u'.cell? ⟨g, k * 12 + 10, none⟩ = some (.int .i64 xk.fr) ∧ u'.cell? ⟨g, k * 12 + 11, none⟩ = some (.int .i64 xk.to)))) (by kernel_rfl) (CEL.out _ (Only.drew (Only.refl [] wr))) (fun hHeld => ?_)
                refine takeH (i := 0) (v := ?_) rfl (by kernel_rfl) (by kernel_rfl) (by kernel_rfl) (fun _ _ _ h => h) (Or.inl ⟨by rfl, ?_⟩) (by assumption) ?_
                rotate_left 1
                · (intro w hSw; (try dsimp only at hSw); go_simp; try (with_reducible rfl))
                try simp only [Act.put, List.setIfInBounds_toArray, List.set_cons_zero, List.set_cons_succ]
                refine takeH (i := 1) (v := ?_) rfl (by kernel_rfl) (by kernel_rfl) (by kernel_rfl) (fun _ _ _ h => h) (Or.inl ⟨by rfl, ?_⟩) (by assumption) ?_
                rotate_left 1
                · (intro w hSw; (try dsimp only at hSw); go_simp; try (with_reducible rfl))
                try simp only [Act.put, List.setIfInBounds_toArray, List.set_cons_zero, List.set_cons_succ]
                refine takeH (i := 2) (v := ?_) rfl (by kernel_rfl) (by kernel_rfl) (by kernel_rfl) (fun _ _ _ h => h) (Or.inl ⟨by rfl, ?_⟩) (by assumption) ?_
                rotate_left 1
                · (intro w hSw; (try dsimp only at hSw); go_simp; try (with_reducible rfl))
                try simp only [Act.put, List.setIfInBounds_toArray, List.set_cons_zero, List.set_cons_succ]
                refine takeH (i := 3) (v := ?_) rfl (by kernel_rfl) (by kernel_rfl) (by kernel_rfl) (fun _ _ _ h => h) (Or.inl ⟨by rfl, ?_⟩) (by assumption) ?_
                rotate_left 1
                · (intro w hSw; (try dsimp only at hSw); go_simp; try (with_reducible rfl))
                try simp only [Act.put, List.setIfInBounds_toArray, List.set_cons_zero, List.set_cons_succ]
                refine takeH (i := 4) (v := ?_) rfl (by kernel_rfl) (by kernel_rfl) (by kernel_rfl) (fun _ _ _ h => h) (Or.inl ⟨by rfl, ?_⟩) (by assumption) ?_
                rotate_left 1
                · (intro w hSw; (try dsimp only at hSw); go_simp; try (with_reducible rfl))
                try simp only [Act.put, List.setIfInBounds_toArray, List.set_cons_zero, List.set_cons_succ]
                refine takeH (i := 5) (v := ?_) rfl (by kernel_rfl) (by kernel_rfl) (by kernel_rfl) (fun _ _ _ h => h) (Or.inl ⟨by rfl, ?_⟩) (by assumption) ?_
                rotate_left 1
                · (intro w hSw; (try dsimp only at hSw); go_simp; try (with_reducible rfl))
                try simp only [Act.put, List.setIfInBounds_toArray, List.set_cons_zero, List.set_cons_succ]
                refine takeH (i := 6) (v := ?_) rfl (by kernel_rfl) (by kernel_rfl) (by kernel_rfl) (fun _ _ _ h => h) (Or.inl ⟨by rfl, ?_⟩) (by assumption) ?_
                rotate_left 1
                · (intro w hSw; (try dsimp only at hSw); go_simp; try (with_reducible rfl))
                try simp only [Act.put, List.setIfInBounds_toArray, List.set_cons_zero, List.set_cons_succ]
                refine takeH (i := 7) (v := ?_) rfl (by kernel_rfl) (by kernel_rfl) (by kernel_rfl) (fun _ _ _ h => h) (Or.inl ⟨by rfl, ?_⟩) (by assumption) ?_
                rotate_left 1
                · (intro w hSw; (try dsimp only at hSw); go_simp; try (with_reducible rfl))
                try simp only [Act.put, List.setIfInBounds_toArray, List.set_cons_zero, List.set_cons_succ]
                refine takeH (i := 8) (v := ?_) rfl (by kernel_rfl) (by kernel_rfl) (by kernel_rfl) (fun _ _ _ h => h) (Or.inl ⟨by rfl, ?_⟩) (by assumption) ?_
                rotate_left 1
                · (intro w hSw; (try dsimp only at hSw); go_simp; try (with_reducible rfl))
                try simp only [Act.put, List.setIfInBounds_toArray, List.set_cons_zero, List.set_cons_succ]
                refine takeH (i := 9) (v := ?_) rfl (by kernel_rfl) (by kernel_rfl) (by kernel_rfl) (fun _ _ _ h => h) (Or.inl ⟨by rfl, ?_⟩) (by assumption) ?_
                rotate_left 1
                · (intro w hSw; (try dsimp only at hSw); go_simp; try (with_reducible rfl))
                try simp only [Act.put, List.setIfInBounds_toArray, List.set_cons_zero, List.set_cons_succ]
                refine wpAnyH_ready (rs := [10]) (by kernel_rfl) (by simp) ?_
                refine consH rfl (fun K hK => ?_) AllReadyH.nil
                go_simp
                refine (ah.out _).mono ?_
                rintro e v10 ⟨rfl, o⟩
                have O10 := Lib.hid ((Only.drew (Only.refl [] wr)).trans' o)
                clear o
                refine hK.out _ _ (CEL.out _ O10.out) (fun hHeld2 => ?_)
                clear hK K hHeld
                have hHeld := hHeld2
                clear hHeld2
                try simp only [Act.put, List.setIfInBounds_toArray, List.set_cons_zero, List.set_cons_succ]
                refine takeH (i := 11) (v := ?_) rfl (by kernel_rfl) (by kernel_rfl) (by kernel_rfl) (fun _ _ _ h => h) (Or.inl ⟨by rfl, ?_⟩) (by assumption) ?_
                rotate_left 1
                · (intro w hSw; (try dsimp only at hSw); go_simp; try (with_reducible rfl))
                try simp only [Act.put, List.setIfInBounds_toArray, List.set_cons_zero, List.set_cons_succ]
                refine takeH (i := 12) (v := undef) rfl (by kernel_rfl) (by kernel_rfl) (by kernel_rfl) (fun _ _ _ h => h) (Or.inr ⟨by rfl, rfl⟩) (by assumption) ?_
                try simp only [Act.put, List.setIfInBounds_toArray, List.set_cons_zero, List.set_cons_succ]
                refine takeH (i := 13) (v := undef) rfl (by kernel_rfl) (by kernel_rfl) (by kernel_rfl) (fun _ _ _ h => h) (Or.inr ⟨by rfl, rfl⟩) (by assumption) ?_
                try simp only [Act.put, List.setIfInBounds_toArray, List.set_cons_zero, List.set_cons_succ]
                refine takeH (i := 14) (v := undef) rfl (by kernel_rfl) (by kernel_rfl) (by kernel_rfl) (fun _ _ _ h => h) (Or.inr ⟨by rfl, rfl⟩) (by assumption) ?_
                try simp only [Act.put, List.setIfInBounds_toArray, List.set_cons_zero, List.set_cons_succ]
                refine takeH (i := 15) (v := undef) rfl (by kernel_rfl) (by kernel_rfl) (by kernel_rfl) (fun _ _ _ h => h) (Or.inr ⟨by rfl, rfl⟩) (by assumption) ?_
                try simp only [Act.put, List.setIfInBounds_toArray, List.set_cons_zero, List.set_cons_succ]
                refine takeH (i := 16) (v := undef) rfl (by kernel_rfl) (by kernel_rfl) (by kernel_rfl) (fun _ _ _ h => h) (Or.inr ⟨by rfl, rfl⟩) (by assumption) ?_
                try simp only [Act.put, List.setIfInBounds_toArray, List.set_cons_zero, List.set_cons_succ]
                refine takeH (i := 17) (v := undef) rfl (by kernel_rfl) (by kernel_rfl) (by kernel_rfl) (fun _ _ _ h => h) (Or.inr ⟨by rfl, rfl⟩) (by assumption) ?_
                try simp only [Act.put, List.setIfInBounds_toArray, List.set_cons_zero, List.set_cons_succ]
                refine takeH (i := 18) (v := undef) rfl (by kernel_rfl) (by kernel_rfl) (by kernel_rfl) (fun _ _ _ h => h) (Or.inr ⟨by rfl, rfl⟩) (by assumption) ?_
                try simp only [Act.put, List.setIfInBounds_toArray, List.set_cons_zero, List.set_cons_succ]
                refine takeH (i := 19) (v := undef) rfl (by kernel_rfl) (by kernel_rfl) (by kernel_rfl) (fun _ _ _ h => h) (Or.inr ⟨by rfl, rfl⟩) (by assumption) ?_
                try simp only [Act.put, List.setIfInBounds_toArray, List.set_cons_zero, List.set_cons_succ]
                refine takeH (i := 20) (v := undef) rfl (by kernel_rfl) (by kernel_rfl) (by kernel_rfl) (fun _ _ _ h => h) (Or.inr ⟨by rfl, rfl⟩) (by assumption) ?_
                try simp only [Act.put, List.setIfInBounds_toArray, List.set_cons_zero, List.set_cons_succ]
                refine takeH (i := 21) (v := ?_) rfl (by kernel_rfl) (by kernel_rfl) (by kernel_rfl) (fun _ _ _ h => h) (Or.inl ⟨by rfl, ?_⟩) (by assumption) ?_
                rotate_left 1
                · (intro w hSw; (try dsimp only at hSw); go_simp; try (with_reducible rfl))
                try simp only [Act.put, List.setIfInBounds_toArray, List.set_cons_zero, List.set_cons_succ]
                refine takeH (i := 22) (v := ?_) rfl (by kernel_rfl) (by kernel_rfl) (by kernel_rfl) (fun _ _ _ h => h) (Or.inl ⟨by rfl, ?_⟩) (by assumption) ?_
                rotate_left 1
                · (intro w hSw; (try dsimp only at hSw); go_simp; try (with_reducible rfl))
                try simp only [Act.put, List.setIfInBounds_toArray, List.set_cons_zero, List.set_cons_succ]
                refine takeH (i := 23) (v := ?_) rfl (by kernel_rfl) (by kernel_rfl) (by kernel_rfl) (fun _ _ _ h => h) (Or.inl ⟨by rfl, ?_⟩) (by assumption) ?_
                rotate_left 1
                · (intro w hSw; (try dsimp only at hSw); go_simp; try (with_reducible rfl))
                try simp only [Act.put, List.setIfInBounds_toArray, List.set_cons_zero, List.set_cons_succ]
                refine wpAnyH_done (by kernel_rfl) ?_ _
                have OZ : Hid (Only [] W1 v10) := OK.out.trans' O10.out
                clear CEL hHeld
                generalize v10 = v0 at *
                go_wp2_with fail
                go_roundg (i + 1 - (k + 1))
                case measure => omega
                case rel => exact ⟨k + 1, true, rfl, by simp, by omega, by omega, NX.out _ BB.out, OZ.out⟩
          · have h2 : ¬ ((k : Int) < (i : Int)) := by omega
            have d2 : decide ((k : Int) < (i : Int)) = false := decide_eq_false h2
            obtain rfl : k = i := by omega
            have K5 : Hid (Only [] W wr ∧ ∀ V, Only [] wr V → ∀ j, j < 4 → V.cell? ⟨bo, j, none⟩ = some (.bool (fo j)) ∧ V.frozen? ⟨bo, j, none⟩ = false) := ⟨K2.out.1.trans' OK.out, fun V o => K2.out.2 V (OK.out.trans' o)⟩
            have L5 : Hid (lb = true ↔ LineP L (k + 1)) := LN.out lb LB.out
            go_wp2_with fail
            go_roundg (n + 1 - (k + 1))
            case measure => omega
            case rel => exact ⟨k + 1, m, lb, fo, by simp, rfl, by simp, by omega, by omega, ⟨PN.out.1, PN.out.2, L5.out⟩, K5.out⟩
    · have h1 : ¬ ((i : Int) < (n : Int)) := by omega
      have d1 : decide ((i : Int) < (n : Int)) = false := decide_eq_false h1
      obtain rfl : i = n := by omega
      have TK : Hid (L.take i = L) := List.take_of_length_le (by have := LEN.out; omega)
      have k3 := k2.out wr K.out.1
      have HM : Hid (mostL L ≤ m) := by
        show _ ≤ _
        have h1 := LL.out.most_le
        rw [← P.out.1]
        rwa [seenN_congr (g := fun k => L.any (whoB k)) (fun k hk => by rw [P.out.2.1 k hk, TK.out])]
      have HE : Hid (i = 0 → mostL L = 0) := fun e => by
        have : L = [] := List.length_eq_zero_iff.1 (by have := LEN.out; omega)
        rw [this]; rfl
      have HP : Hid (0 < i → 1 ≤ mostL L) := fun e => LL.out.most_pos (by have := LEN.out; omega)
      have HO : Hid (0 < i → (mostL L = 1 ↔ ln = true)) := fun e => by
        rw [LL.out.most_one (by have := LEN.out; omega), P.out.2.2, LEN.out]
      generalize mostL L = mm at *
      have c1 : ((mm : Nat) : Int) ≤ (m : Int) := by have := HM.out; omega
      have c2' : decide (((mm : Nat) : Int) ≤ (m : Int)) = true := decide_eq_true c1
      have c3 : mm ≤ m := HM.out
      have c4 : decide (mm ≤ m) = true := decide_eq_true c3
      go_wp2_with fail
      refine k3.mono ?_
      rintro e w5 ⟨rfl, o5⟩
      have O5 := Lib.hid (K.out.1.trans' o5)
      have k6 := lAwake w5
      clear k3 o5
      by_cases hz : i = 0
      · have e1 : ((i : Int) == 0) = true := by simp [hz]
        have e2 : ((mm : Int) == 0) = true := by simp [HE.out hz]
        clear hz
        go_wp2_with fail
        refine k6.mono ?_
        rintro e w6 ⟨rfl, o6⟩
        have O6 := Lib.hid (FR.out.only.trans' (O5.out.trans' o6))
        clear k6 o6
        go_wp2_with fail
        go_ret
        exact ⟨rfl, O6.out.toBelow⟩
      · have e1 : ((i : Int) == 0) = false := by simp [hz]
        have e2 : ((mm : Int) == 0) = false := by have := HP.out (by omega); simp; omega
        have e3 : ((mm : Int) == 1) = ln := by
          have := HO.out (by omega)
          rcases ln
          · simp at this ⊢; omega
          · simp at this ⊢; omega
        clear hz
        go_wp2_with fail
        refine k6.mono ?_
        rintro e w6 ⟨rfl, o6⟩
        have O6 := Lib.hid (FR.out.only.trans' (O5.out.trans' o6))
        clear k6 o6
        go_wp2_with fail
        go_ret
        exact ⟨by simp, O6.out.toBelow⟩

/-! ### The step from the walk to the statement -/
set_option maxRecDepth 100000 in
theorem contract (H : Type) (enc : TypeId × Value → H) (W : World) (base : Nat) (args : Array Value) (ds gs : List (DataW H)) (before : List MemPlace)
    (hval0 : ∀ (j : Nat) t v, Try.f8.params[j]? = some t → args[j]? = some v → Value.okWide Try.prog W .any base t v)
    (hW : DataW.Whole enc Try.prog Try.f8.params.toList Rows.histMostSpec.vars false W args.toList ds gs before) :
    Calls Try.prog 8 args W fun e W' => ∃ v, e = .returned v ∧ Rows.histMostSpec.post enc Try.prog Try.f8 false true false false W args v W' := by
  have hval : ∀ (j : Nat) t v, Try.f8.params[j]? = some t → args[j]? = some v → Value.okWide Try.prog W .any base t v := hval0
  have hW' := hW
  obtain ⟨p, q, hA0, hV, rfl, hfz, hnd⟩ := hW
  have hA : DataW.TrodAll enc Try.prog W 0 (fun _ => true) true Try.f8.params.toList args.toList ds p := hA0
  rw [Try.params8] at hA hval
  obtain ⟨v0, vs0, d0, ds0, pl0, ql0, hargs, rfl, rfl, h0, r0⟩ := trodAll_cons hA
  obtain ⟨rfl, rfl, rfl⟩ := trodAll_nil r0
  obtain rfl : args = #[v0] := by cases args; simp_all
  obtain ⟨rfl, rfl⟩ := trodVars_none hV
  obtain ⟨a0, len0, cap0, rfl⟩ := okWide_slice Try.underlying22 (hval 0 22 v0 rfl rfl)
  have k0 := h0
  have lt0 : ∀ x ∈ pl0, x.block < W.heap.size := by obtain ⟨m, hm⟩ := k0; exact DataW.trod_lt m _ _ _ hm
  obtain ⟨z0, p0, w0, q0, sb0⟩ : ∃ (z : Nat → Dn) (p : Nat → List Pk), InDns W a0 len0 z ∧ (∀ k, k < len0 → InPk W (z k) (p k)) ∧ ∀ k, k < len0 → (z k).m ≤ Rows.uptoBulk d0 := by
    obtain ⟨fuel, hf⟩ := h0
    exact open_dones hf
  clear hA0 hval0
  refine (walk a0 len0 cap0 z0 p0 W w0 q0).mono fun e W' ⟨he, bel⟩ => ?_
  subst he
  exact ⟨_, rfl, _, _, _, [], _, [], hW', trodAll_mk1 (shut_bool Try.underlying4 _), (trodAll_cons_mk (Below.trod laidOut (by kernel_rfl) (of_decide_eq_true (by kernel_rfl)) k0 bel lt0) trodAll_mk0), rfl, bel.frame _, fun h => by cases h⟩

set_option maxRecDepth 100000 in
theorem lifted (os : Os) (started : os.Started) (H : Type) (enc : TypeId × Value → H) :
    ReturnsInHanded {} Try.checked os 8 .any (Rows.histMostSpec.pre6 enc Try.prog Try.f8 Rows.histMostRow.domain false) (Rows.histMostSpec.post enc Try.prog Try.f8 false true false false) := by
  refine returnsInHanded_of_change (C := Try.checked) own started (by kernel_rfl) Try.func8
    (ChangeSpec.witness6 (enc := enc) (C := Try.checked) false ⟨#[], #[.slice none 0 0], []⟩ 8 (by kernel_rfl) (by kernel_rfl) (by kernel_rfl) (by kernel_rfl)) ?_
  intro W base args ds gs before hval0 hW hcnd _
  exact contract H enc W base args ds gs before hval0 hW
theorem over : Rows.histMostRow.holds Try.pinned (OpenSpec.ofChange Rows.histMostSpec) :=
  OpenClaim.holds_of_wide 8 Try.f8 rfl rfl rfl rfl rfl rfl rfl ⟨rfl, rfl, rfl, rfl, rfl⟩ rfl rfl rfl rfl rfl (by kernel_rfl) Try.func8 (by kernel_rfl)
    (of_decide_eq_true (by kernel_rfl)) (by unfold Func.isWrapper; first | (rw [if_pos (by decide +kernel)]; kernel_rfl) | (rw [if_neg (by decide +kernel)]; exact ⟨rfl, rfl⟩))
    (fun os started H enc _ => lifted os started H enc)

/-- The statement. -/
theorem proved : Rows.HistMostSaid := over
#print axioms proved
end Go.Proofs.Ytocokmjobbmodaa.histMost
