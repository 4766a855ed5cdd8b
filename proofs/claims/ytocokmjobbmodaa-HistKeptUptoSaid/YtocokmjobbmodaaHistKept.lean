/-
  weighbridgelaw14.HistKept returns true for every input, and leaves its arguments as they were. Where what they hold is of bulk at most 1048576 (the bound of the statement).
-/
import Derived.Test.YtocokmjobbmodaaRows
import Derived.Test.YtocokmjobbmodaaHsW
import Derived.Test.YtocokmjobbmodaaHsZ
import Derived.Test.YtocokmjobbmodaaHsKc
import Derived.Test.YtocokmjobbmodaaHsKd
import Derived.Test.YtocokmjobbmodaaHsF
import Derived.Test.YtocokmjobbmodaaHsG
import Derived.Test.YtocokmjobbmodaaHsM
import Derived.WalkKit
import Derived.ProofKit
import Derived.OpenShut
import Derived.ChangeOld
import Derived.Below
import Derived.Carry
import Derived.JoinedCond
namespace Go.Proofs.Ytocokmjobbmodaa.histKept
open Go.ChangeShapes Go.WideShapes Go.ChangeAt Go.RowKit
set_option linter.unusedVariables false
set_option linter.unusedSimpArgs false
set_option maxRecDepth 100000

set_option maxHeartbeats 8000000
theorem walk (a0 : Option Addr) (len0 cap0 : Nat) (z0 : Nat → Dn) (p0 : Nat → List Pk) (w : World) (w0 : InDns w a0 len0 z0) (q0 : ∀ k, k < len0 → InPk w (z0 k) (p0 k)) (s0 : ∀ k, k < len0 → (z0 k).m ≤ 1048576) :
    Calls Try.prog 9 #[.slice a0 len0 cap0] w fun e w' => e = .returned (.bool true) ∧ Below w.heap.size w w' := by
  have sm := Lib.hid (fun (V : World) (o : Only [] w V) => lSome V a0 len0 cap0 z0 (w0.only0 o))
  go_enter Try.func9, Try.ntmps9
  go_wp2_with fail
  refine (sm.out w (Only.refl [] w)).mono ?_
  rintro e W1 ⟨A1, c1, rfl, h1⟩
  have F1 := Lib.hid h1
  clear h1
  go_wp2_with fail
  refine (sm.out W1 F1.out.only).mono ?_
  rintro e W2 ⟨A2, c2, rfl, h2⟩
  have F2 := Lib.hid h2
  have LEN : Hid ((someL z0 len0).length = min len0 40 ∧ min len0 40 ≤ 64) := ⟨someL_len _ _, by omega⟩
  have QL : Hid (AbsL w (someL z0 len0) (someA z0 p0 len0) ∧ (someA z0 p0 len0).length = min len0 40) := ⟨some_abs q0, someA_len _ _ _⟩
  have QM : Hid ((∀ a ∈ someA z0 p0 len0, a.2.length ≤ 1048576) ∧ ∀ x ∈ someL z0 len0, x.m ≤ 1048576) := ⟨someA_m w q0 s0, someL_m s0⟩
  clear sm h2 q0 s0 w0
  generalize someL z0 len0 = L at *
  generalize someA z0 p0 len0 = qs at *
  generalize min len0 40 = n at *
  have PM : Hid ((∀ b ∈ partsL qs, b.2.length ≤ 1048576) ∧ (partsL qs).length ≤ 100000000) := ⟨partsL_m QM.out.1, by have := partsL_len QM.out.1; have := QL.out.2; have := LEN.out.2; omega⟩
  have k1 := Lib.hid (lAwake W2)
  have hn64 : n ≤ 64 := LEN.out.2
  go_wp2_with fail
  refine k1.out.mono ?_
  rintro e V0 ⟨rfl, o1⟩
  have HR : Hid (dE.Row V0 (.slice A1 n c1) L) := (F1.out.row.only0 F2.out.only).only0 o1
  have GR : Hid (Dns V0 A2 L) := F2.out.dns.only0 o1
  have OW : Hid (Only [] w V0) := (F1.out.only.trans' F2.out.only).trans' o1
  have NE : Hid (∀ g, A1 = some ⟨g, 0, none⟩ → w.heap.size ≤ g ∧ A2 ≠ some ⟨g, 0, none⟩) := fun g e => ⟨F1.out.new g (by rw [e]; rfl), fun e2 => by
    have x1 := F1.out.row.lt (g := g) (by rw [e]; rfl)
    have x2 := F2.out.new g (by rw [e2]; rfl)
    omega⟩
  have po := Lib.hid (fun (A : Option Addr) (m c : Nat) (ps : List Pk) (V : World) (h1 : ps.length = m) (h2 : m ≤ 1048576) (h3 : pE.Src V A ps) => pOwn A m c ps ⟨0, 0, 7⟩ V h1 h2 h3)
  dsimp only at po
  clear k1 o1 F1 F2
  go_wp2_with fail
  go_loopg [5] (n + 1) (fun gk si wr => ∃ (i : Nat) (M : List Dn), si = .int .i64 (i : Int) ∧ i ≤ n ∧ n + 1 ≤ gk + i ∧ Hid (dE.Row wr (.slice A1 n c1) M ∧ OwnL wr ⟨0, 0, 7⟩ L M qs i ∧ (∃ S, Only S V0 wr ∧ ∀ k ∈ S, A1 = some ⟨k, 0, none⟩)))
  case atStart => exact ⟨0, L, rfl, by omega, by omega, HR.out, OwnL.start _ _ _ _, [], Only.refl [] V0, by simp⟩
  case round =>
    obtain ⟨i, M, rfl, hi, hg, R⟩ := hrel
    clear HR
    have XW : Hid (Only [] w wr ∧ Dns wr A2 L ∧ M.length = n) := by
      obtain ⟨r1, r2, S, o, hS⟩ := R.out
      exact ⟨OW.out.trans o (fun k hk => .inr (NE.out k (hS k hk)).1), GR.out.only o (fun g e hk => (NE.out g (hS g hk)).2 e), r1.lenOf⟩
    by_cases hin : i < n
    · have h1 : (i : Int) < (n : Int) := by omega
      obtain ⟨x, a, hx, ha, ax⟩ := QL.out.1.get (k := i) (by have := QL.out.2; omega)
      have AX := Lib.hid (And.intro hx (And.intro ha ax))
      have MX : Hid (M[i]? = some x) := by show _ = _; rw [R.out.2.1.rest i (Nat.le_refl i)]; exact hx
      rcases R.out.1.addr with rfl | ⟨g1, rfl⟩
      · exfalso
        have h9 := (R.out.1.nilOf rfl).2
        have := XW.out.2.2
        rw [h9] at this
        simp at this
        omega
      obtain ⟨g2, rfl, hc⟩ := XW.out.2.1 i x hx
      obtain ⟨-, -, -, -, -, -, -, x7, -, -, -, -⟩ := hc
      have p1 := Lib.hid (po.out x.A x.m x.c a.2 wr ax.len.symm (by rw [ax.len]; exact QM.out.1 a (List.mem_of_getElem? ha)) (ax.src.only0 XW.out.1))
      clear hx ha ax po
      go_wp2_with fail
      refine p1.out.mono ?_
      rintro e w5 ⟨g, rfl, r5, o5, hge⟩
      obtain ⟨c7, f7⟩ := row_cells (R.out.1.only0 o5) (k := i) (by have := XW.out.2.2; omega) 7 (by decide)
      obtain ⟨u7, c7⟩ := Option.isSome_iff_exists.1 c7
      have R5 := Lib.hid (And.intro r5 o5)
      clear p1 r5 o5 hge x7
      go_wp2_with fail
      go_roundg (n + 1 - (i + 1))
      case measure => omega
      case rel =>
        obtain ⟨r1, r2, S, o, hS⟩ := R.out
        obtain ⟨hx, ha, ax⟩ := AX.out
        refine ⟨i + 1, M.set i { x with A := some ⟨g, 0, none⟩, m := x.m, c := x.m + 3 }, by simp, by omega, by omega, (r1.only0 R5.out.2).setOne i 7 x _ _ MX.out (by decide) rfl, (r2.only0 R5.out.2).step (r1.only0 R5.out.2) hx ha ax.str ax.len R5.out.1, g1 :: S, ?_, ?_⟩
        · exact ((o.mono (T := g1 :: S) (fun k hk => .inl (by simp [hk]))).trans R5.out.2 (fun k hk => by simp at hk)).setCell (.inl (by simp)) _
        · intro k hk
          rcases List.mem_cons.1 hk with rfl | hk
          · rfl
          · exact hS k hk
    · obtain rfl : i = n := by omega
      have h2 : ¬ ((i : Int) < (i : Int)) := by omega
      have h3 : decide ((i : Int) < (i : Int)) = false := decide_eq_false h2
      have OWN : Hid (OwnL wr ⟨0, 0, 7⟩ L M qs i) := R.out.2.1
      have AM : Hid (AbsL wr M qs ∧ AbsL wr L qs) := ⟨R.out.2.1.abs LEN.out.1.symm (QL.out.2.trans LEN.out.1.symm), QL.out.1.only0 XW.out.1⟩
      have MM : Hid (∀ x ∈ M, x.m ≤ 1048576) := AM.out.1.small QM.out.1
      have HX : Hid (Dns wr A1 M ∧ Dns wr A2 L ∧ M.length = i) := ⟨Dns.of_row rfl R.out.1, XW.out.2⟩
      have OX : Hid (Only [] w wr) := XW.out.1
      clear po XW R GR OW NE
      generalize wr = X at *
      have kP := Lib.hid (fun (V : World) (o : Only [] X V) => cParts A1 i c1 M qs V HX.out.2.2 LEN.out.2 (HX.out.1.only0 o) (AM.out.1.only0 o) MM.out)
      have kR := Lib.hid (fun (V : World) (o : Only [] X V) => cRight A1 i c1 M V HX.out.2.2 (by have := LEN.out.2; omega) (HX.out.1.only0 o))
      have kM := Lib.hid (fun (V : World) (o : Only [] X V) => cMost A1 i c1 M V HX.out.2.2 (by have := LEN.out.2; omega) (HX.out.1.only0 o))
      have kS := Lib.hid (fun (V : World) (o : Only [] X V) => dSame V A1 A2 i c1 c2 M L qs QL.out.2 (by have := LEN.out.2; omega) QM.out.1 (HX.out.1.only0 o) (HX.out.2.1.only0 o) (AM.out.1.only0 o) (AM.out.2.only0 o))
      have kr := Lib.hid (fun (V : World) (o : Only [] X V) => rParts A2 i c2 L qs V LEN.out.1 LEN.out.2 (HX.out.2.1.only0 o) (AM.out.2.only0 o) QM.out.2)
      generalize rightB M = bR at *
      generalize mostL M = nM at *
      go_wp2_with fail
      refine (kP.out X (Only.refl [] X)).mono ?_
      rintro e Y ⟨A3, q, c3, rfl, R3, d3⟩
      have D3 := Lib.hid d3
      have E9 : (partsL qs).length = q := by rw [← d3.rw_.len, d3.fr.len]
      have E3 : Hid ((partsL qs).length = q ∧ q ≤ 100000000) := ⟨E9, by have := PM.out.2; omega⟩
      have hq9 : q ≤ 100000000 := E3.out.2
      clear E9
      clear d3
      have EL : Hid (∀ (k : Nat) (x : Dn), R3[k]? = some x → x.m ≤ 1048576 ∧ Wr X.heap.size Y x.A x.m ∧ ∀ g : Nat, x.A = some ⟨g, 0, none⟩ → A3 ≠ some ⟨g, 0, none⟩) := fun k x hx => by
        obtain ⟨a, ha⟩ : ∃ a, (partsL qs)[k]? = some a := ⟨_, List.getElem?_eq_getElem (by rw [← D3.out.rw_.len]; exact (List.getElem?_eq_some_iff.1 hx).1)⟩
        have pr := D3.out.rw_.at_ k x a hx ha
        refine ⟨by rw [pr.abs.len]; exact PM.out.1 a (List.mem_of_getElem? ha), pr.wr, fun g e e3 => ?_⟩
        obtain ⟨cs, hb⟩ := D3.out.fr.row.typ (g := g) (by rw [e3]; rfl)
        exact pr.row.ne hb (by decide) g (by rw [e]; rfl) rfl
      go_wp2_with fail
      go_loopg [7] (q + 1) (fun gk si wr => ∃ p : Nat, si = .int .i64 (p : Int) ∧ p ≤ q ∧ q + 1 ≤ gk + p ∧ Hid (dE.Row wr (.slice A3 q c3) R3 ∧ (∀ (k : Nat) (x : Dn), R3[k]? = some x → Wr X.heap.size wr x.A x.m) ∧ Only [] X wr))
      case atStart => exact ⟨0, rfl, by omega, by omega, D3.out.fr.row, fun k x hx => (EL.out k x hx).2.1, D3.out.fr.only⟩
      case round =>
        obtain ⟨p, rfl, hp, hg, R⟩ := hrel
        by_cases hpq : p < q
        · have h1 : (p : Int) < (q : Int) := by omega
          obtain ⟨x, hx⟩ : ∃ x, R3[p]? = some x := ⟨_, List.getElem?_eq_getElem (by have := D3.out.fr.len; omega)⟩
          have HXP := Lib.hid hx
          obtain ⟨g3, rfl, hc⟩ := (Dns.of_row (E := dE) rfl R.out.1) p x hx
          obtain ⟨-, -, -, -, -, -, -, x7, -, -, -, -⟩ := hc
          have sp := Lib.hid (pSpoil X.heap.size x.A x.m x.c wr (EL.out p x hx).1 (R.out.2.1 p x hx))
          clear hx
          go_wp2_with fail
          refine sp.out.mono ?_
          rintro e w5 ⟨rfl, s5⟩
          have S5 := Lib.hid s5
          clear sp s5 x7
          go_wp2_with fail
          go_roundg (q + 1 - (p + 1))
          case measure => omega
          case rel =>
            obtain ⟨r1, r2, r3⟩ := R.out
            obtain ⟨⟨S, o, hS⟩, sw⟩ := S5.out
            refine ⟨p + 1, by simp, by omega, by omega, r1.only o (fun b hb hk => ?_), fun k y hy => sw _ _ _ (r2 k y hy), r3.trans o (fun k hk => .inr ?_)⟩
            · have e9 : b = g3 := by
                have : (Value.slice (some ⟨g3, 0, none⟩) q c3).ownBlock = some g3 := rfl
                rw [this] at hb
                injection hb with hb
                exact hb.symm
              exact (EL.out p x HXP.out).2.2 b (hS b hk).1 (by rw [e9])
            · obtain ⟨g9, e9, hB, _⟩ := r2 p x HXP.out (hS k hk).2
              rw [(hS k hk).1] at e9
              injection e9 with e9
              injection e9 with e9
              subst e9
              exact hB
        · obtain rfl : p = q := by omega
          have h2 : ¬ ((p : Int) < (p : Int)) := by omega
          have h3 : decide ((p : Int) < (p : Int)) = false := decide_eq_false h2
          have ks := Lib.hid (kSpoil A3 p c3 R3 wr E3.out.2 R.out.1)
          go_wp2_with fail
          refine ks.out.mono ?_
          rintro e Z1 ⟨rfl, S, o, hS⟩
          have O1 : Hid (Only [] X Z1) := R.out.2.2.trans o (fun k hk => .inr (D3.out.fr.new k (by rw [hS k hk]; rfl)))
          clear ks o hS R D3 E3 EL
          go_wp2_with fail
          refine (kR.out Z1 O1.out).mono ?_
          rintro e Z2 ⟨rfl, o2⟩
          have O2 := Lib.hid (O1.out.trans' o2)
          clear o2 kR
          go_wp2_with fail
          refine (kM.out Z2 O2.out).mono ?_
          rintro e Z3 ⟨rfl, o3⟩
          have O3 := Lib.hid (O2.out.trans' o3)
          clear o3 kM
          go_wp2_with fail
          generalize i = i0 at *
          go_loopg [8] (i0 + 1) (fun gk si wr => ∃ k : Nat, si = .int .i64 (k : Int) ∧ k ≤ i0 ∧ i0 + 1 ≤ gk + k ∧ Hid (Only [] X wr))
          case atStart => exact ⟨0, rfl, by omega, by omega, O3.out⟩
          case round =>
            obtain ⟨i, rfl, hi, hg, O⟩ := hrel
            by_cases hin : i < i0
            · have h1 : (i : Int) < (i0 : Int) := by omega
              obtain ⟨x, a, hx, ha, ax⟩ := AM.out.2.get (k := i) (by have := QL.out.2; omega)
              obtain ⟨y, a', hy, ha', ay⟩ := AM.out.1.get (k := i) (by have := QL.out.2; omega)
              rw [ha] at ha'
              injection ha' with ha'
              subst ha'
              obtain ⟨g1, rfl, hc1⟩ := HX.out.1 i y hy
              obtain ⟨g2, rfl, hc2⟩ := HX.out.2.1 i x hx
              obtain ⟨d1, d2, d3, g, d4, d5⟩ := OWN.out.done i y a hin hy ha
              obtain ⟨-, -, -, -, -, -, -, y7, -, -, -, -⟩ := hc1
              obtain ⟨-, -, -, -, -, -, -, x7, -, -, -, -⟩ := hc2
              have s2 := ax.src
              rw [d2, d3, d4] at y7
              rw [ax.len] at x7
              obtain ⟨xA, hxA⟩ : ∃ A, x.A = A := ⟨_, rfl⟩
              obtain ⟨xc, hxc⟩ : ∃ c, x.c = c := ⟨_, rfl⟩
              rw [hxA] at s2
              rw [hxA, hxc] at x7
              have hml := QM.out.1 a (List.mem_of_getElem? ha)
              have CEL : Hid (∀ V, Only [] wr V → V.cell? ⟨g1, i * 12 + 7, none⟩ = some (.slice (some ⟨g, 0, none⟩) a.2.length (a.2.length + 3)) ∧ V.cell? ⟨g2, i * 12 + 7, none⟩ = some (.slice xA a.2.length xc)) := fun V o => ⟨(O.out.trans' o).kp y7, (O.out.trans' o).kp x7⟩
              have kk := Lib.hid (fun (V : World) (o : Only [] wr V) => pKept g a.2.length a.2 xA xc ⟨0, 0, 7⟩ V rfl hml (d5.only0 (O.out.trans' o)) (s2.only0 (O.out.trans' o)))
              dsimp only at kk
              clear hx ha ax hy ay d1 d2 d3 d4 d5 y7 x7 s2 hxA hxc hml
              generalize a.2.length = m at *
              go_upto_region 19 with fail
              refine wp_region_held_drew (S := (fun V => V.cell? ⟨g1, i * 12 + 7, none⟩ = some (.slice (some ⟨g, 0, none⟩) m (m + 3)) ∧ V.cell? ⟨g2, i * 12 + 7, none⟩ = some (.slice xA m xc))) (by kernel_rfl) (CEL.out _ ((Only.refl [] wr).drew)) (fun hHeld => ?_)
              refine takeH (i := 0) (v := ?_) rfl (by kernel_rfl) (by kernel_rfl) (by kernel_rfl) (fun _ _ _ h => h) (Or.inl ⟨by rfl, ?_⟩) (by assumption) ?_
              rotate_left 1
              · (intro w hSw; (try dsimp only at hSw); go_simp; try (with_reducible rfl))
              try simp only [Act.put, List.setIfInBounds_toArray, List.set_cons_zero, List.set_cons_succ]
              refine takeH (i := 1) (v := ?_) rfl (by kernel_rfl) (by kernel_rfl) (by kernel_rfl) (fun _ _ _ h => h) (Or.inl ⟨by rfl, ?_⟩) (by assumption) ?_
              rotate_left 1
              · (intro w hSw; (try dsimp only at hSw); go_simp; try (with_reducible rfl))
              try simp only [Act.put, List.setIfInBounds_toArray, List.set_cons_zero, List.set_cons_succ]
              refine takeH (i := 2) (v := ?_) rfl (by kernel_rfl) (by kernel_rfl) (by kernel_rfl) (fun _ _ _ h => h) (Or.inl ⟨by rfl, ?_⟩) (by assumption) ?_
              rotate_left 1
              · (intro w hSw; (try dsimp only at hSw); go_simp; try (with_reducible rfl))
              try simp only [Act.put, List.setIfInBounds_toArray, List.set_cons_zero, List.set_cons_succ]
              refine takeH (i := 3) (v := ?_) rfl (by kernel_rfl) (by kernel_rfl) (by kernel_rfl) (fun _ _ _ h => h) (Or.inl ⟨by rfl, ?_⟩) (by assumption) ?_
              rotate_left 1
              · (intro w hSw; (try dsimp only at hSw); go_simp; try (with_reducible rfl))
              try simp only [Act.put, List.setIfInBounds_toArray, List.set_cons_zero, List.set_cons_succ]
              refine takeH (i := 4) (v := ?_) rfl (by kernel_rfl) (by kernel_rfl) (by kernel_rfl) (fun _ _ _ h => h) (Or.inl ⟨by rfl, ?_⟩) (by assumption) ?_
              rotate_left 1
              · (intro w hSw; (try dsimp only at hSw); go_simp; try (with_reducible rfl))
              try simp only [Act.put, List.setIfInBounds_toArray, List.set_cons_zero, List.set_cons_succ]
              refine takeH (i := 5) (v := ?_) rfl (by kernel_rfl) (by kernel_rfl) (by kernel_rfl) (fun _ _ _ h => h) (Or.inl ⟨by rfl, ?_⟩) (by assumption) ?_
              rotate_left 1
              · (intro w hSw; (try dsimp only at hSw); go_simp; try (with_reducible rfl))
              try simp only [Act.put, List.setIfInBounds_toArray, List.set_cons_zero, List.set_cons_succ]
              refine takeH (i := 6) (v := ?_) rfl (by kernel_rfl) (by kernel_rfl) (by kernel_rfl) (fun _ _ _ h => h) (Or.inl ⟨by rfl, ?_⟩) (by assumption) ?_
              rotate_left 1
              · (intro w hSw; (try dsimp only at hSw); go_simp; try (with_reducible rfl))
              try simp only [Act.put, List.setIfInBounds_toArray, List.set_cons_zero, List.set_cons_succ]
              refine takeH (i := 7) (v := ?_) rfl (by kernel_rfl) (by kernel_rfl) (by kernel_rfl) (fun _ _ _ h => h) (Or.inl ⟨by rfl, ?_⟩) (by assumption) ?_
              rotate_left 1
              · (intro w hSw; (try dsimp only at hSw); go_simp; try (with_reducible rfl))
              try simp only [Act.put, List.setIfInBounds_toArray, List.set_cons_zero, List.set_cons_succ]
              refine takeH (i := 8) (v := ?_) rfl (by kernel_rfl) (by kernel_rfl) (by kernel_rfl) (fun _ _ _ h => h) (Or.inl ⟨by rfl, ?_⟩) (by assumption) ?_
              rotate_left 1
              · (intro w hSw; (try dsimp only at hSw); go_simp; try (with_reducible rfl))
              try simp only [Act.put, List.setIfInBounds_toArray, List.set_cons_zero, List.set_cons_succ]
              refine takeH (i := 9) (v := ?_) rfl (by kernel_rfl) (by kernel_rfl) (by kernel_rfl) (fun _ _ _ h => h) (Or.inl ⟨by rfl, ?_⟩) (by assumption) ?_
              rotate_left 1
              · (intro w hSw; (try dsimp only at hSw); go_simp; try (with_reducible rfl))
              try simp only [Act.put, List.setIfInBounds_toArray, List.set_cons_zero, List.set_cons_succ]
              refine takeH (i := 10) (v := ?_) rfl (by kernel_rfl) (by kernel_rfl) (by kernel_rfl) (fun _ _ _ h => h) (Or.inl ⟨by rfl, ?_⟩) (by assumption) ?_
              rotate_left 1
              · (intro w hSw; (try dsimp only at hSw); go_simp; try (with_reducible rfl))
              try simp only [Act.put, List.setIfInBounds_toArray, List.set_cons_zero, List.set_cons_succ]
              refine takeH (i := 11) (v := ?_) rfl (by kernel_rfl) (by kernel_rfl) (by kernel_rfl) (fun _ _ _ h => h) (Or.inl ⟨by rfl, ?_⟩) (by assumption) ?_
              rotate_left 1
              · (intro w hSw; (try dsimp only at hSw); go_simp; try (with_reducible rfl))
              try simp only [Act.put, List.setIfInBounds_toArray, List.set_cons_zero, List.set_cons_succ]
              refine takeH (i := 12) (v := ?_) rfl (by kernel_rfl) (by kernel_rfl) (by kernel_rfl) (fun _ _ _ h => h) (Or.inl ⟨by rfl, ?_⟩) (by assumption) ?_
              rotate_left 1
              · (intro w hSw; (try dsimp only at hSw); go_simp; try (with_reducible rfl))
              try simp only [Act.put, List.setIfInBounds_toArray, List.set_cons_zero, List.set_cons_succ]
              refine wpAnyH_ready (rs := [13]) (by kernel_rfl) (by simp) ?_
              refine consH rfl (fun K hK => ?_) AllReadyH.nil
              go_simp
              refine (kk.out _ ((Only.refl [] wr).drew)).mono ?_
              rintro e w5 ⟨rfl, o5⟩
              have O5 := Lib.hid ((Only.drew (Only.refl [] wr)).trans' o5)
              clear o5
              refine hK.out _ _ (CEL.out _ O5.out) (fun hHeld2 => ?_)
              clear hK K hHeld
              have hHeld := hHeld2
              clear hHeld2
              try simp only [Act.put, List.setIfInBounds_toArray, List.set_cons_zero, List.set_cons_succ]
              refine takeH (i := 14) (v := ?_) rfl (by kernel_rfl) (by kernel_rfl) (by kernel_rfl) (fun _ _ _ h => h) (Or.inl ⟨by rfl, ?_⟩) (by assumption) ?_
              rotate_left 1
              · (intro w hSw; (try dsimp only at hSw); go_simp; try (with_reducible rfl))
              try simp only [Act.put, List.setIfInBounds_toArray, List.set_cons_zero, List.set_cons_succ]
              refine wpAnyH_done (by kernel_rfl) ?_ _
              have O6 : Hid (Only [] X w5) := O.out.trans' O5.out
              clear CEL kk
              go_wp2_with fail
              go_roundg (i0 + 1 - (i + 1))
              case measure => omega
              case rel => exact ⟨i + 1, by simp, by omega, by omega, O6.out⟩
            · obtain rfl : i = i0 := by omega
              have h2 : ¬ ((i : Int) < (i : Int)) := by omega
              have h3 : decide ((i : Int) < (i : Int)) = false := decide_eq_false h2
              go_wp2_with fail
              refine (kS.out wr O.out).mono ?_
              rintro e Y1 ⟨rfl, o⟩
              have P1 := Lib.hid (O.out.trans' o)
              clear o kS
              go_wp2_with fail
              refine (kP.out Y1 P1.out).mono ?_
              rintro e Y2 ⟨B3, r3, f3, rfl, T3, d3⟩
              have D3 := Lib.hid d3
              have P2 : Hid (Only [] X Y2) := P1.out.trans' d3.fr.only
              clear kP d3
              go_wp2_with fail
              refine (kr.out Y2 P2.out).mono ?_
              rintro e Y3 ⟨B4, r4, f4, rfl, T4, d4⟩
              have E3 : Hid ((partsL qs).length = r3) := by show _ = _; rw [← D3.out.rw_.len, D3.out.fr.len]
              obtain rfl : r4 = r3 := by rw [← E3.out, ← d4.rw_.len, d4.fr.len]
              have P3 : Hid (Only [] X Y3) := P2.out.trans' d4.fr.only
              have k5 := dSame Y3 B3 B4 r4 f3 f4 T3 T4 (partsL qs) E3.out (by have := PM.out.2; have := E3.out; omega) PM.out.1 (D3.out.fr.dns.only0 d4.fr.only) d4.fr.dns (D3.out.rw_.abs.only0 d4.fr.only) d4.rw_.abs
              clear kr d4
              go_wp2_with fail
              refine k5.mono ?_
              rintro e Y4 ⟨rfl, o4⟩
              have OF := Lib.hid (OX.out.trans' (P3.out.trans' o4))
              clear k5 o4
              go_wp2_with fail
              go_ret
              exact ⟨rfl, OF.out.toBelow⟩

/-! ### The step from the walk to the statement -/
set_option maxRecDepth 100000 in
theorem contract (H : Type) (enc : TypeId × Value → H) (W : World) (base : Nat) (args : Array Value) (ds gs : List (DataW H)) (before : List MemPlace)
    (hval0 : ∀ (j : Nat) t v, Try.f9.params[j]? = some t → args[j]? = some v → Value.okWide Try.prog W .any base t v)
    (hW : DataW.Whole enc Try.prog Try.f9.params.toList Rows.histKeptSpec.vars false W args.toList ds gs before) (hk : Rows.uptoSmall H (ds ++ gs) = true) :
    Calls Try.prog 9 args W fun e W' => ∃ v, e = .returned v ∧ Rows.histKeptSpec.post enc Try.prog Try.f9 false true false false W args v W' := by
  have hval : ∀ (j : Nat) t v, Try.f9.params[j]? = some t → args[j]? = some v → Value.okWide Try.prog W .any base t v := hval0
  have hW' := hW
  obtain ⟨p, q, hA0, hV, rfl, hfz, hnd⟩ := hW
  have hA : DataW.TrodAll enc Try.prog W 0 (fun _ => true) true Try.f9.params.toList args.toList ds p := hA0
  rw [Try.params9] at hA hval
  obtain ⟨v0, vs0, d0, ds0, pl0, ql0, hargs, rfl, rfl, h0, r0⟩ := trodAll_cons hA
  obtain ⟨rfl, rfl, rfl⟩ := trodAll_nil r0
  obtain rfl : args = #[v0] := by cases args; simp_all
  obtain ⟨rfl, rfl⟩ := trodVars_none hV
  have hkb : Rows.uptoBulkAll [d0] ≤ 1048576 := of_decide_eq_true (by simpa [Rows.uptoSmall] using hk)
  obtain ⟨a0, len0, cap0, rfl⟩ := okWide_slice Try.underlying22 (hval 0 22 v0 rfl rfl)
  have k0 := h0
  have lt0 : ∀ x ∈ pl0, x.block < W.heap.size := by obtain ⟨m, hm⟩ := k0; exact DataW.trod_lt m _ _ _ hm
  obtain ⟨z0, p0, w0, q0, sb0⟩ : ∃ (z : Nat → Dn) (p : Nat → List Pk), InDns W a0 len0 z ∧ (∀ k, k < len0 → InPk W (z k) (p k)) ∧ ∀ k, k < len0 → (z k).m ≤ Rows.uptoBulk d0 := by
    obtain ⟨fuel, hf⟩ := h0
    exact open_dones hf
  have s0 : ∀ k, k < len0 → (z0 k).m ≤ 1048576 := fun k hk => Nat.le_trans (sb0 k hk) (Nat.le_trans (bulk_part (by simp)) hkb)
  clear hA0 hval0
  refine (walk a0 len0 cap0 z0 p0 W w0 q0 s0).mono fun e W' ⟨he, bel⟩ => ?_
  subst he
  exact ⟨_, rfl, _, _, _, [], _, [], hW', trodAll_mk1 (shut_bool Try.underlying4 _), (trodAll_cons_mk (Below.trod laidOut (by kernel_rfl) (of_decide_eq_true (by kernel_rfl)) k0 bel lt0) trodAll_mk0), rfl, bel.frame _, fun h => by cases h⟩

set_option maxRecDepth 100000 in
theorem lifted (os : Os) (started : os.Started) (H : Type) (enc : TypeId × Value → H) (F : Stop.Interp) :
    ReturnsInHanded {} Try.checked os 9 .any ((Rows.OpenSpec.upto Rows.histKeptSpec).pre6 enc Try.prog Try.f9 Rows.histKeptUptoRow.domain false) (((Rows.OpenSpec.upto Rows.histKeptSpec).at F).post enc Try.prog Try.f9 false true false false) := by
  refine returnsInHanded_of_cond (C := Try.checked) (s := Rows.OpenSpec.upto Rows.histKeptSpec) (k := Rows.uptoSmall) rfl own started (by kernel_rfl) Try.func9
    (OpenSpec.witness (enc := enc) (C := Try.checked) (s := Rows.OpenSpec.upto Rows.histKeptSpec) (k := Rows.uptoSmall) rfl false ⟨#[], #[.slice none 0 0], []⟩ 8 (by kernel_rfl) (by kernel_rfl) (by kernel_rfl)
      (x := ([.nil], [], [])) (by kernel_rfl) rfl (by kernel_rfl)) ?_
  intro W base args ds gs before hval0 hW _ hk _
  exact contract H enc W base args ds gs before hval0 hW hk
/-- The statement. -/
theorem proved : Rows.HistKeptUptoSaid :=
  OpenClaim.holds_of_cond 9 Try.f9 rfl rfl rfl rfl rfl rfl rfl ⟨rfl, rfl, rfl, rfl, rfl⟩ rfl rfl rfl rfl rfl (by kernel_rfl) Try.func9 (by kernel_rfl)
    (of_decide_eq_true (by kernel_rfl)) (by unfold Func.isWrapper; first | (rw [if_pos (by decide +kernel)]; kernel_rfl) | (rw [if_neg (by decide +kernel)]; exact ⟨rfl, rfl⟩))
    (fun os started H enc _ F => lifted os started H enc F)
#print axioms proved
end Go.Proofs.Ytocokmjobbmodaa.histKept
