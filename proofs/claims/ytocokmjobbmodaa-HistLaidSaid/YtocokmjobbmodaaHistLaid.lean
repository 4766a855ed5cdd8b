/-
  weighbridgelaw14.HistLaid returns true for every input, and leaves its arguments as they were. No condition but that the arguments are values of their types.
-/
import Derived.Test.YtocokmjobbmodaaRows
import Derived.Test.YtocokmjobbmodaaHsW
import Derived.Test.YtocokmjobbmodaaHsX
import Derived.Test.YtocokmjobbmodaaHsI
import Derived.Test.YtocokmjobbmodaaHsH
import Derived.Test.YtocokmjobbmodaaHsO
import Derived.Test.YtocokmjobbmodaaHsU
import Derived.WalkKit
import Derived.ProofKit
import Derived.OpenShut
import Derived.ChangeOld
import Derived.Below
import Derived.Carry
namespace Go.Proofs.Ytocokmjobbmodaa.histLaid
open Go.ChangeShapes Go.WideShapes Go.ChangeAt Go.RowKit
set_option linter.unusedVariables false
set_option linter.unusedSimpArgs false
set_option maxRecDepth 100000

set_option maxHeartbeats 16000000
theorem walk (a0 : Option Addr) (len0 cap0 : Nat) (z0 : Nat → Dn) (p0 : Nat → List Pk) (a1 : Option Addr) (len1 cap1 : Nat) (z1 : Nat → Int) (a2 : Int) (w : World) (w0 : InDns w a0 len0 z0) (q0 : ∀ k, k < len0 → InPk w (z0 k) (p0 k)) (w1 : InNums .i64 w a1 len1 z1) (w2 : (Lit.int .i64 a2).wf = true) :
    Calls Try.prog 4 #[.slice a0 len0 cap0, .slice a1 len1 cap1, .int .i64 a2] w fun e w' => e = .returned (.bool true) ∧ Below w.heap.size w w' := by
  have ld := lLaid w a0 len0 cap0 z0 w0
  have md := Lib.hid (fun (v n : Int) (h : 0 < n) (hn : n ≤ 1000000) (V : World) => cMod v n h hn V)
  have W1I := Lib.hid w1
  go_enter Try.func4, Try.ntmps4
  go_wp2_with fail
  refine ld.mono ?_
  rintro e W ⟨A2, n, c2, rfl, L, hfr, hl⟩
  have FR := Lib.hid hfr
  have LL := Lib.hid hl
  have LEN : Hid (L.length = n) := hfr.len
  have hb : n ≤ 40 := by have := hl.len; have := hfr.len; omega
  clear ld hfr hl
  go_wp2_with fail
  go_loopg [8] 41 (fun gk si wr => ∃ (i : Nat) (M : List Dn), si = .int .i64 (i : Int) ∧ i ≤ 40 ∧ 41 ≤ gk + i ∧ Hid (dE.Row wr (.slice A2 n c2) M ∧ M.Perm L ∧ Only [] w wr))
  case atStart => exact ⟨0, L, rfl, by omega, by omega, FR.out.row, List.Perm.refl _, FR.out.only⟩
  case round =>
    obtain ⟨i, M, rfl, hi, hg, R⟩ := hrel
    by_cases hgo : i < len1 ∧ i < 40 ∧ 0 < n
    · obtain ⟨q1, q2, q3⟩ := hgo
      have h1 : (i : Int) < (len1 : Int) := by omega
      have d1 : decide ((i : Int) < (len1 : Int)) = true := decide_eq_true h1
      have h2 : (i : Int) < 40 := by omega
      have d2 : decide ((i : Int) < 40) = true := decide_eq_true h2
      have h3 : (0 : Int) < (n : Int) := by omega
      have d3 : decide ((0 : Int) < (n : Int)) = true := decide_eq_true h3
      obtain ⟨_, xt, rfl, hbl, hct⟩ := (W1I.out.only0 R.out.2.2) i q1
      have ML : Hid (M.length = n) := R.out.1.lenOf
      have cel : Hid (wr.drew.cell? (xt.add i) = some (.int .i64 (z1 i))) := hct
      have mt := Lib.hid (fun V => md.out (z1 i) (n : Int) h3 (by omega) V)
      obtain ⟨ka, hka, hkn⟩ : ∃ k : Nat, modI (z1 i) (n : Int) = (k : Int) ∧ k < n := ⟨(modI (z1 i) (n : Int)).toNat, by have := modI_lt (z1 i) h3; omega, by have := modI_lt (z1 i) h3; omega⟩
      rw [hka] at mt
      obtain ⟨kb, hkb⟩ : ∃ k, i % n = k := ⟨_, rfl⟩
      have hkb2 : kb < n := by rw [← hkb]; exact Nat.mod_lt _ q3
      have r1 : Int.tmod (i : Int) (n : Int) = (kb : Int) := by rw [← hkb]; rfl
      have r2 : (i : Int) % (n : Int) = (kb : Int) := by rw [← hkb]; omega
      have r5 : ¬ (n = 0) := by omega
      have r3 : ¬ ((n : Int) = 0) := by omega
      have r4 : ((n : Int) == 0) = false := by simp; omega
      have wk : IntKind.i64.wrap (kb : Int) = (kb : Int) := by rw [IntKind.wrap_i64]; omega
      clear hka hkb hbl
      go_upto_region 5 with fail
      refine wp_region_held_drew (S := (fun u' => u'.cell? (xt.add i) = some (.int .i64 (z1 i)))) (by kernel_rfl) cel.out (fun hHeld => ?_)
      refine takeH (i := 0) (v := ?_) rfl (by kernel_rfl) (by kernel_rfl) (by kernel_rfl) (fun _ _ _ h => h) (Or.inl ⟨by rfl, ?_⟩) (by assumption) ?_
      rotate_left 1
      · (intro w hSw; (try dsimp only at hSw); go_simp; try (with_reducible rfl))
      try simp only [Act.put, List.setIfInBounds_toArray, List.set_cons_zero, List.set_cons_succ]
      refine takeH (i := 1) (v := ?_) rfl (by kernel_rfl) (by kernel_rfl) (by kernel_rfl) (fun _ _ _ h => h) (Or.inl ⟨by rfl, ?_⟩) (by assumption) ?_
      rotate_left 1
      · (intro w hSw; (try dsimp only at hSw); go_simp; try (with_reducible rfl))
      try simp only [Act.put, List.setIfInBounds_toArray, List.set_cons_zero, List.set_cons_succ]
      refine takeH (i := 2) (v := ?_) rfl (by kernel_rfl) (by kernel_rfl) (by kernel_rfl) (fun _ _ _ h => h) (Or.inl ⟨by rfl, ?_⟩) (by assumption) ?_
      rotate_left 1
      · (intro w hSw; (try dsimp only at hSw); go_simp; try (with_reducible rfl))
      try simp only [Act.put, List.setIfInBounds_toArray, List.set_cons_zero, List.set_cons_succ]
      refine takeH (i := 3) (v := ?_) rfl (by kernel_rfl) (by kernel_rfl) (by kernel_rfl) (fun _ _ _ h => h) (Or.inl ⟨by rfl, ?_⟩) (by assumption) ?_
      rotate_left 1
      · (intro w hSw; (try dsimp only at hSw); go_simp; try (with_reducible rfl))
      try simp only [Act.put, List.setIfInBounds_toArray, List.set_cons_zero, List.set_cons_succ]
      refine takeH (i := 4) (v := ?_) rfl (by kernel_rfl) (by kernel_rfl) (by kernel_rfl) (fun _ _ _ h => h) (Or.inl ⟨by rfl, ?_⟩) (by assumption) ?_
      rotate_left 1
      · (intro w hSw; (try dsimp only at hSw); go_simp; try (with_reducible rfl))
      try simp only [Act.put, List.setIfInBounds_toArray, List.set_cons_zero, List.set_cons_succ]
      refine takeH (i := 5) (v := ?_) rfl (by kernel_rfl) (by kernel_rfl) (by kernel_rfl) (fun _ _ _ h => h) (Or.inl ⟨by rfl, ?_⟩) (by assumption) ?_
      rotate_left 1
      · (intro w hSw; (try dsimp only at hSw); go_simp; try (with_reducible rfl))
      try simp only [Act.put, List.setIfInBounds_toArray, List.set_cons_zero, List.set_cons_succ]
      refine takeH (i := 7) (v := ?_) rfl (by kernel_rfl) (by kernel_rfl) (by kernel_rfl) (fun _ _ _ h => h) (Or.inl ⟨by rfl, ?_⟩) (by assumption) ?_
      rotate_left 1
      · (intro w hSw; (try dsimp only at hSw); go_simp; try (with_reducible rfl))
      try simp only [Act.put, List.setIfInBounds_toArray, List.set_cons_zero, List.set_cons_succ]
      refine takeH (i := 8) (v := ?_) rfl (by kernel_rfl) (by kernel_rfl) (by kernel_rfl) (fun _ _ _ h => h) (Or.inl ⟨by rfl, ?_⟩) (by assumption) ?_
      rotate_left 1
      · (intro w hSw; (try dsimp only at hSw); go_simp; try (with_reducible rfl))
      try simp only [Act.put, List.setIfInBounds_toArray, List.set_cons_zero, List.set_cons_succ]
      refine takeH (i := 9) (v := ?_) rfl (by kernel_rfl) (by kernel_rfl) (by kernel_rfl) (fun _ _ _ h => h) (Or.inl ⟨by rfl, ?_⟩) (by assumption) ?_
      rotate_left 1
      · (intro w hSw; (try dsimp only at hSw); go_simp; try (with_reducible rfl))
      try simp only [Act.put, List.setIfInBounds_toArray, List.set_cons_zero, List.set_cons_succ]
      refine takeH (i := 10) (v := ?_) rfl (by kernel_rfl) (by kernel_rfl) (by kernel_rfl) (fun _ _ _ h => h) (Or.inl ⟨by rfl, ?_⟩) (by assumption) ?_
      rotate_left 1
      · (intro w hSw; (try dsimp only at hSw); go_simp; try (with_reducible rfl))
      try simp only [Act.put, List.setIfInBounds_toArray, List.set_cons_zero, List.set_cons_succ]
      refine wpAnyH_ready (rs := [6]) (by kernel_rfl) (by simp) ?_
      refine consH rfl (fun K hK => ?_) AllReadyH.nil
      go_simp
      refine (mt.out _).mono ?_
      rintro e v ⟨rfl, hv⟩
      rw [hv]
      clear hv
      refine hK.out _ _ cel.out (fun hHeld2 => ?_)
      clear hK K hHeld
      have hHeld := hHeld2
      clear hHeld2
      try simp only [Act.put, List.setIfInBounds_toArray, List.set_cons_zero, List.set_cons_succ]
      refine takeH (i := 11) (v := ?_) rfl (by kernel_rfl) (by kernel_rfl) (by kernel_rfl) (fun _ _ _ h => h) (Or.inl ⟨by rfl, ?_⟩) (by assumption) ?_
      rotate_left 1
      · (intro w hSw; (try dsimp only at hSw); go_simp; try (with_reducible rfl))
      try simp only [Act.put, List.setIfInBounds_toArray, List.set_cons_zero, List.set_cons_succ]
      refine takeH (i := 12) (v := ?_) rfl (by kernel_rfl) (by kernel_rfl) (by kernel_rfl) (fun _ _ _ h => h) (Or.inl ⟨by rfl, ?_⟩) (by assumption) ?_
      rotate_left 1
      · (intro w hSw; (try dsimp only at hSw); go_simp; try (with_reducible rfl))
      try simp only [Act.put, List.setIfInBounds_toArray, List.set_cons_zero, List.set_cons_succ]
      refine wpAnyH_done (by kernel_rfl) ?_ _
      clear cel mt hct r1 r2 r3 r4 r5 wk hHeld
      have R1 : Hid (dE.Row wr.drew (.slice A2 n c2) M ∧ M.Perm L ∧ Only [] w wr.drew) := ⟨R.out.1.only0 ((Only.refl [] wr).drew), R.out.2.1, R.out.2.2.drew⟩
      generalize wr.drew = v1 at *
      clear R
      rcases R1.out.1.addr with rfl | ⟨g, rfl⟩
      · exfalso
        have h9 := (R1.out.1.nilOf rfl).2
        have := ML.out
        rw [h9] at this
        simp at this
        omega
      · have ha : (ka : Int) < (n : Int) := by omega
        have hbb : (kb : Int) < (n : Int) := by omega
        obtain ⟨xa, hxa⟩ : ∃ x, dns M ka = x := ⟨_, rfl⟩
        obtain ⟨xb, hxb⟩ : ∃ x, dns M kb = x := ⟨_, rfl⟩
        have R2 : Hid (dE.Row v1.drew (.slice (some ⟨g, 0, none⟩) n c2) M) := R1.out.1.only0 ((Only.refl [] v1).drew)
        obtain ⟨g', ge, hca⟩ := (Dns.of_row (E := dE) rfl R2.out).at_ (k := ka) (by have := ML.out; omega)
        injection ge with ge
        injection ge with ge
        subst ge
        obtain ⟨g', ge, hcb⟩ := (Dns.of_row (E := dE) rfl R2.out).at_ (k := kb) (by have := ML.out; omega)
        injection ge with ge
        injection ge with ge
        subst ge
        rw [hxa] at hca
        rw [hxb] at hcb
        have R3 : Hid (dE.Row (v1.drew.setCells g (ka * 12) xb.cs) (.slice (some ⟨g, 0, none⟩) n c2) (M.set ka xb)) := R2.out.storeN ka xb (by have := ML.out; omega)
        have O3 : Hid (Only [] w (v1.drew.setCells g (ka * 12) xb.cs)) := by
          have hge : w.heap.size ≤ g := FR.out.new g rfl
          exact R1.out.2.2.drew.trans (Only.setCells g _ _ _) (fun k hk => by simp at hk; subst hk; exact .inr hge)
        obtain ⟨V1, hV1⟩ : ∃ V, v1.drew.setCells g (ka * 12) xb.cs = V := ⟨_, rfl⟩
        rw [hV1] at R3 O3
        have HV1 := Lib.hid hV1
        clear hV1
        have CA := Lib.hid (row_cells R2.out (k := ka) (by have := ML.out; omega))
        have CB := Lib.hid (row_cells R3.out (k := kb) (by rw [List.length_set]; have := ML.out; omega))
        have R4 : Hid (dE.Row (V1.setCells g (kb * 12) xa.cs) (.slice (some ⟨g, 0, none⟩) n c2) ((M.set ka xb).set kb xa) ∧ ((M.set ka xb).set kb xa).Perm L ∧ Only [] w (V1.setCells g (kb * 12) xa.cs)) := by
          refine ⟨R3.out.storeN kb xa (by rw [List.length_set]; have := ML.out; omega), ?_, ?_⟩
          · rw [← hxa, ← hxb]
            exact (swap_perm (by have := ML.out; omega) (by have := ML.out; omega)).trans R1.out.2.1
          · have hge : w.heap.size ≤ g := FR.out.new g rfl
            exact O3.out.trans (Only.setCells g _ _ _) (fun k hk => by simp at hk; subst hk; exact .inr hge)
        obtain ⟨V2, hV2⟩ : ∃ V, V1.setCells g (kb * 12) xa.cs = V := ⟨_, rfl⟩
        rw [hV2] at R4
        have HV2 := Lib.hid hV2
        clear hV2
        clear hxa hxb
        obtain ⟨x0, x1, x2, x3, x4, x5, x6, x7, x8, x9, x10, x11⟩ := hca; (try simp only [Nat.zero_add] at x0 x1 x2 x3 x4 x5 x6 x7 x8 x9 x10 x11)
        obtain ⟨y0, y1, y2, y3, y4, y5, y6, y7, y8, y9, y10, y11⟩ := hcb; (try simp only [Nat.zero_add] at y0 y1 y2 y3 y4 y5 y6 y7 y8 y9 y10 y11)
        go_upto_region 6 with fail
        refine (fun (main : (?G6 : Prop)) => ?body6) ?pf6
        case body6 =>
          refine wp_region_held_drew (S := (fun _ => True)) (by kernel_rfl) trivial (fun hHeld => ?_)
          refine takeH (i := 0) (v := ?_) rfl (by kernel_rfl) (by kernel_rfl) (by kernel_rfl) (fun _ _ _ h => h) (Or.inl ⟨by rfl, ?_⟩) (by assumption) ?_
          rotate_left 1
          · (intro w hSw; (try dsimp only at hSw); go_simp; try (with_reducible rfl))
          try simp only [Act.put, List.setIfInBounds_toArray, List.set_cons_zero, List.set_cons_succ]
          refine takeH (i := 1) (v := ?_) rfl (by kernel_rfl) (by kernel_rfl) (by kernel_rfl) (fun _ _ _ h => h) (Or.inl ⟨by rfl, ?_⟩) (by assumption) ?_
          rotate_left 1
          · (intro w hSw; (try dsimp only at hSw); go_simp; try (with_reducible rfl))
          try simp only [Act.put, List.setIfInBounds_toArray, List.set_cons_zero, List.set_cons_succ]
          refine takeH (i := 2) (v := ?_) rfl (by kernel_rfl) (by kernel_rfl) (by kernel_rfl) (fun _ _ _ h => h) (Or.inl ⟨by rfl, ?_⟩) (by assumption) ?_
          rotate_left 1
          · (intro w hSw; (try dsimp only at hSw); go_simp; try (with_reducible rfl))
          try simp only [Act.put, List.setIfInBounds_toArray, List.set_cons_zero, List.set_cons_succ]
          refine takeH (i := 3) (v := ?_) rfl (by kernel_rfl) (by kernel_rfl) (by kernel_rfl) (fun _ _ _ h => h) (Or.inl ⟨by rfl, ?_⟩) (by assumption) ?_
          rotate_left 1
          · (intro w hSw; (try dsimp only at hSw); go_simp; try (with_reducible rfl))
          try simp only [Act.put, List.setIfInBounds_toArray, List.set_cons_zero, List.set_cons_succ]
          refine takeH (i := 4) (v := ?_) rfl (by kernel_rfl) (by kernel_rfl) (by kernel_rfl) (fun _ _ _ h => h) (Or.inl ⟨by rfl, ?_⟩) (by assumption) ?_
          rotate_left 1
          · (intro w hSw; (try dsimp only at hSw); go_simp; try (with_reducible rfl))
          try simp only [Act.put, List.setIfInBounds_toArray, List.set_cons_zero, List.set_cons_succ]
          refine takeH (i := 5) (v := ?_) rfl (by kernel_rfl) (by kernel_rfl) (by kernel_rfl) (fun _ _ _ h => h) (Or.inl ⟨by rfl, ?_⟩) (by assumption) ?_
          rotate_left 1
          · (intro w hSw; (try dsimp only at hSw); go_simp; try (with_reducible rfl))
          try simp only [Act.put, List.setIfInBounds_toArray, List.set_cons_zero, List.set_cons_succ]
          refine takeH (i := 6) (v := ?_) rfl (by kernel_rfl) (by kernel_rfl) (by kernel_rfl) (fun _ _ _ h => h) (Or.inl ⟨by rfl, ?_⟩) (by assumption) ?_
          rotate_left 1
          · (intro w hSw; (try dsimp only at hSw); go_simp; try (with_reducible rfl))
          try simp only [Act.put, List.setIfInBounds_toArray, List.set_cons_zero, List.set_cons_succ]
          refine takeH (i := 8) (v := ?_) rfl (by kernel_rfl) (by kernel_rfl) (by kernel_rfl) (fun _ _ _ h => h) (Or.inl ⟨by rfl, ?_⟩) (by assumption) ?_
          rotate_left 1
          · (intro w hSw; (try dsimp only at hSw); go_simp; try (with_reducible rfl))
          try simp only [Act.put, List.setIfInBounds_toArray, List.set_cons_zero, List.set_cons_succ]
          refine takeH (i := 9) (v := ?_) rfl (by kernel_rfl) (by kernel_rfl) (by kernel_rfl) (fun _ _ _ h => h) (Or.inl ⟨by rfl, ?_⟩) (by assumption) ?_
          rotate_left 1
          · (intro w hSw; (try dsimp only at hSw); go_simp; try (with_reducible rfl))
          try simp only [Act.put, List.setIfInBounds_toArray, List.set_cons_zero, List.set_cons_succ]
          refine takeH (i := 10) (v := ?_) rfl (by kernel_rfl) (by kernel_rfl) (by kernel_rfl) (fun _ _ _ h => h) (Or.inl ⟨by rfl, ?_⟩) (by assumption) ?_
          rotate_left 1
          · (intro w hSw; (try dsimp only at hSw); go_simp; try (with_reducible rfl))
          try simp only [Act.put, List.setIfInBounds_toArray, List.set_cons_zero, List.set_cons_succ]
          refine wpAnyH_ready (rs := [7, 11]) (by kernel_rfl) (by simp) ?_
          refine consH rfl (fun K hK => ?_) (consH rfl (fun K hK => ?_) AllReadyH.nil)
          · go_simp
            refine hK.out _ _ trivial (fun hHeld2 => ?_)
            clear hK K hHeld
            have hHeld := hHeld2
            clear hHeld2
            try simp only [Act.put, List.setIfInBounds_toArray, List.set_cons_zero, List.set_cons_succ]
            refine wpAnyH_ready (rs := [11]) (by kernel_rfl) (by simp) ?_
            refine consH rfl (fun K hK => ?_) AllReadyH.nil
            go_simp
            refine hK.out _ _ trivial (fun hHeld2 => ?_)
            clear hK K hHeld
            have hHeld := hHeld2
            clear hHeld2
            try simp only [Act.put, List.setIfInBounds_toArray, List.set_cons_zero, List.set_cons_succ]
            refine takeH (i := 12) (v := ?_) rfl (by kernel_rfl) (by kernel_rfl) (by kernel_rfl) (fun _ _ _ h => h) (Or.inl ⟨by rfl, ?_⟩) (by assumption) ?_
            rotate_left 1
            · (intro w hSw; (try dsimp only at hSw); go_simp; try (with_reducible rfl))
            try simp only [Act.put, List.setIfInBounds_toArray, List.set_cons_zero, List.set_cons_succ]
            refine wpAnyH_ready (rs := [13]) (by kernel_rfl) (by simp) ?_
            refine consH rfl (fun K hK => ?_) AllReadyH.nil
            refine step_storeD rfl (.tmp 53) (.tmp 48) rfl g (ka * 12) rfl xb rfl (fun j hj => (CA.out j hj).1) (fun j hj => (CA.out j hj).2) HV1.out ?_
            refine hK.out _ _ trivial (fun hHeld2 => ?_)
            clear hK K hHeld
            have hHeld := hHeld2
            clear hHeld2
            try simp only [Act.put, List.setIfInBounds_toArray, List.set_cons_zero, List.set_cons_succ]
            refine takeH (i := 14) (v := ?_) rfl (by kernel_rfl) (by kernel_rfl) (by kernel_rfl) (fun _ _ _ h => h) (Or.inl ⟨by rfl, ?_⟩) (by assumption) ?_
            rotate_left 1
            · (intro w hSw; (try dsimp only at hSw); go_simp; try (with_reducible rfl))
            try simp only [Act.put, List.setIfInBounds_toArray, List.set_cons_zero, List.set_cons_succ]
            refine wpAnyH_ready (rs := [15]) (by kernel_rfl) (by simp) ?_
            refine consH rfl (fun K hK => ?_) AllReadyH.nil
            refine step_storeD rfl (.tmp 54) (.tmp 52) rfl g (kb * 12) rfl xa rfl (fun j hj => (CB.out j hj).1) (fun j hj => (CB.out j hj).2) HV2.out ?_
            refine hK.out _ _ trivial (fun hHeld2 => ?_)
            clear hK K hHeld
            have hHeld := hHeld2
            clear hHeld2
            try simp only [Act.put, List.setIfInBounds_toArray, List.set_cons_zero, List.set_cons_succ]
            refine wpAnyH_done (by kernel_rfl) ?_ _
            exact main
          · go_simp
            refine hK.out _ _ trivial (fun hHeld2 => ?_)
            clear hK K hHeld
            have hHeld := hHeld2
            clear hHeld2
            try simp only [Act.put, List.setIfInBounds_toArray, List.set_cons_zero, List.set_cons_succ]
            refine wpAnyH_ready (rs := [7]) (by kernel_rfl) (by simp) ?_
            refine consH rfl (fun K hK => ?_) AllReadyH.nil
            go_simp
            refine hK.out _ _ trivial (fun hHeld2 => ?_)
            clear hK K hHeld
            have hHeld := hHeld2
            clear hHeld2
            try simp only [Act.put, List.setIfInBounds_toArray, List.set_cons_zero, List.set_cons_succ]
            refine takeH (i := 12) (v := ?_) rfl (by kernel_rfl) (by kernel_rfl) (by kernel_rfl) (fun _ _ _ h => h) (Or.inl ⟨by rfl, ?_⟩) (by assumption) ?_
            rotate_left 1
            · (intro w hSw; (try dsimp only at hSw); go_simp; try (with_reducible rfl))
            try simp only [Act.put, List.setIfInBounds_toArray, List.set_cons_zero, List.set_cons_succ]
            refine wpAnyH_ready (rs := [13]) (by kernel_rfl) (by simp) ?_
            refine consH rfl (fun K hK => ?_) AllReadyH.nil
            refine step_storeD rfl (.tmp 53) (.tmp 48) rfl g (ka * 12) rfl xb rfl (fun j hj => (CA.out j hj).1) (fun j hj => (CA.out j hj).2) HV1.out ?_
            refine hK.out _ _ trivial (fun hHeld2 => ?_)
            clear hK K hHeld
            have hHeld := hHeld2
            clear hHeld2
            try simp only [Act.put, List.setIfInBounds_toArray, List.set_cons_zero, List.set_cons_succ]
            refine takeH (i := 14) (v := ?_) rfl (by kernel_rfl) (by kernel_rfl) (by kernel_rfl) (fun _ _ _ h => h) (Or.inl ⟨by rfl, ?_⟩) (by assumption) ?_
            rotate_left 1
            · (intro w hSw; (try dsimp only at hSw); go_simp; try (with_reducible rfl))
            try simp only [Act.put, List.setIfInBounds_toArray, List.set_cons_zero, List.set_cons_succ]
            refine wpAnyH_ready (rs := [15]) (by kernel_rfl) (by simp) ?_
            refine consH rfl (fun K hK => ?_) AllReadyH.nil
            refine step_storeD rfl (.tmp 54) (.tmp 52) rfl g (kb * 12) rfl xa rfl (fun j hj => (CB.out j hj).1) (fun j hj => (CB.out j hj).2) HV2.out ?_
            refine hK.out _ _ trivial (fun hHeld2 => ?_)
            clear hK K hHeld
            have hHeld := hHeld2
            clear hHeld2
            try simp only [Act.put, List.setIfInBounds_toArray, List.set_cons_zero, List.set_cons_succ]
            refine wpAnyH_done (by kernel_rfl) ?_ _
            exact main
        case pf6 =>
          clear CA CB R2 R3 HV1 HV2 O3
          go_wp2_with fail
          go_roundg (41 - (i + 1))
          case measure => omega
          case rel => exact ⟨i + 1, _, by simp, by omega, by omega, R4.out⟩
    · by_cases q1 : i < len1
      · have h1 : (i : Int) < (len1 : Int) := by omega
        have d1 : decide ((i : Int) < (len1 : Int)) = true := decide_eq_true h1
        by_cases q2 : i < 40
        · have h2 : (i : Int) < 40 := by omega
          have d2 : decide ((i : Int) < 40) = true := decide_eq_true h2
          have q3 : n = 0 := by omega
          have h3 : ¬ ((0 : Int) < (n : Int)) := by omega
          have d3 : decide ((0 : Int) < (n : Int)) = false := decide_eq_false h3
          clear hgo q1 q2 q3
          have RM : Hid (∀ V, Only [] wr V → dE.Row V (.slice A2 n c2) M) := fun V o => R.out.1.only0 o
          have MLN : Hid (M.length = n) := R.out.1.lenOf
          have MP : Hid (M.Perm L) := R.out.2.1
          have OR : Hid (Only [] w wr) := R.out.2.2
          clear R
          have RT : Hid (RightP M) := LL.out.right.perm MP.out.symm
          have k1 := Lib.hid (lAwake wr)
          have k2 := Lib.hid (fun (V : World) (o : Only [] wr V) => cRight A2 n c2 M V MLN.out (by omega) (Dns.of_row (E := dE) rfl (RM.out V o)))
          rw [rightB_t RT.out] at k2
          have k3 := Lib.hid (fun (V : World) (o : Only [] wr V) => cEnded A2 n c2 M V MLN.out (by omega) (Dns.of_row (E := dE) rfl (RM.out V o)))
          have k4 := Lib.hid (fun (V : World) (o : Only [] wr V) => rEnded A2 n c2 M V MLN.out (by omega) (Dns.of_row (E := dE) rfl (RM.out V o)))
          have k5 := Lib.hid (fun (V : World) (o : Only [] wr V) => cMost A2 n c2 M V MLN.out (by omega) (Dns.of_row (E := dE) rfl (RM.out V o)))
          have k6 := Lib.hid (fun (V : World) (o : Only [] wr V) => rMost A2 n c2 M V MLN.out (by omega) (Dns.of_row (E := dE) rfl (RM.out V o)))
          generalize (!M.any opn) = bE at *
          generalize mostL M = nM at *
          have nb : (bE != bE) = false := by simp
          have nn : ((nM : Int) != (nM : Int)) = false := by simp
          go_wp2_with fail
          refine k1.out.mono ?_
          rintro e v1 ⟨rfl, o⟩
          have O1 := Lib.hid o
          clear o k1
          go_wp2_with fail
          refine (k2.out v1 O1.out).mono ?_
          rintro e v2 ⟨rfl, o⟩
          have O2 := Lib.hid (O1.out.trans' o)
          clear o
          go_wp2_with fail
          refine (k3.out v2 O2.out).mono ?_
          rintro e v3 ⟨rfl, o⟩
          have O3 := Lib.hid (O2.out.trans' o)
          clear o
          go_wp2_with fail
          refine (k4.out v3 O3.out).mono ?_
          rintro e v4 ⟨rfl, o⟩
          have O4 := Lib.hid (O3.out.trans' o)
          clear o
          go_wp2_with fail
          refine (k5.out v4 O4.out).mono ?_
          rintro e v5 ⟨rfl, o⟩
          have O5 := Lib.hid (O4.out.trans' o)
          clear o
          go_wp2_with fail
          refine (k6.out v5 O5.out).mono ?_
          rintro e v6 ⟨rfl, o⟩
          have O6 := Lib.hid (O5.out.trans' o)
          clear o
          clear k2 k3 k4 k5 k6
          by_cases hn0 : n = 0
          · have z1 : ((n : Int) == 0) = true := by simp [hn0]
            have OF := Lib.hid (OR.out.trans' O6.out)
            clear hn0
            go_wp2_with fail
            go_ret
            exact ⟨rfl, OF.out.toBelow⟩
          · exfalso; omega
        · have h2 : ¬ ((i : Int) < 40) := by omega
          have d2 : decide ((i : Int) < 40) = false := decide_eq_false h2
          clear hgo q1 q2
          have RM : Hid (∀ V, Only [] wr V → dE.Row V (.slice A2 n c2) M) := fun V o => R.out.1.only0 o
          have MLN : Hid (M.length = n) := R.out.1.lenOf
          have MP : Hid (M.Perm L) := R.out.2.1
          have OR : Hid (Only [] w wr) := R.out.2.2
          clear R
          have RT : Hid (RightP M) := LL.out.right.perm MP.out.symm
          have k1 := Lib.hid (lAwake wr)
          have k2 := Lib.hid (fun (V : World) (o : Only [] wr V) => cRight A2 n c2 M V MLN.out (by omega) (Dns.of_row (E := dE) rfl (RM.out V o)))
          rw [rightB_t RT.out] at k2
          have k3 := Lib.hid (fun (V : World) (o : Only [] wr V) => cEnded A2 n c2 M V MLN.out (by omega) (Dns.of_row (E := dE) rfl (RM.out V o)))
          have k4 := Lib.hid (fun (V : World) (o : Only [] wr V) => rEnded A2 n c2 M V MLN.out (by omega) (Dns.of_row (E := dE) rfl (RM.out V o)))
          have k5 := Lib.hid (fun (V : World) (o : Only [] wr V) => cMost A2 n c2 M V MLN.out (by omega) (Dns.of_row (E := dE) rfl (RM.out V o)))
          have k6 := Lib.hid (fun (V : World) (o : Only [] wr V) => rMost A2 n c2 M V MLN.out (by omega) (Dns.of_row (E := dE) rfl (RM.out V o)))
          generalize (!M.any opn) = bE at *
          generalize mostL M = nM at *
          have nb : (bE != bE) = false := by simp
          have nn : ((nM : Int) != (nM : Int)) = false := by simp
          go_wp2_with fail
          refine k1.out.mono ?_
          rintro e v1 ⟨rfl, o⟩
          have O1 := Lib.hid o
          clear o k1
          go_wp2_with fail
          refine (k2.out v1 O1.out).mono ?_
          rintro e v2 ⟨rfl, o⟩
          have O2 := Lib.hid (O1.out.trans' o)
          clear o
          go_wp2_with fail
          refine (k3.out v2 O2.out).mono ?_
          rintro e v3 ⟨rfl, o⟩
          have O3 := Lib.hid (O2.out.trans' o)
          clear o
          go_wp2_with fail
          refine (k4.out v3 O3.out).mono ?_
          rintro e v4 ⟨rfl, o⟩
          have O4 := Lib.hid (O3.out.trans' o)
          clear o
          go_wp2_with fail
          refine (k5.out v4 O4.out).mono ?_
          rintro e v5 ⟨rfl, o⟩
          have O5 := Lib.hid (O4.out.trans' o)
          clear o
          go_wp2_with fail
          refine (k6.out v5 O5.out).mono ?_
          rintro e v6 ⟨rfl, o⟩
          have O6 := Lib.hid (O5.out.trans' o)
          clear o
          clear k2 k3 k4 k5 k6
          by_cases hn0 : n = 0
          · have z1 : ((n : Int) == 0) = true := by simp [hn0]
            have OF := Lib.hid (OR.out.trans' O6.out)
            clear hn0
            go_wp2_with fail
            go_ret
            exact ⟨rfl, OF.out.toBelow⟩
          · have z1 : ((n : Int) == 0) = false := by simp [hn0]
            have h9 : (0 : Int) < (n : Int) := by omega
            have mt := Lib.hid (fun V => md.out a2 (n : Int) h9 (by omega) V)
            obtain ⟨ka, hka, hkn⟩ : ∃ k : Nat, modI a2 (n : Int) = (k : Int) ∧ k < n := ⟨(modI a2 (n : Int)).toNat, by have := modI_lt a2 h9; omega, by have := modI_lt a2 h9; omega⟩
            rw [hka] at mt
            clear hka hn0
            have ha : (ka : Int) < (n : Int) := by omega
            obtain ⟨x, hx⟩ : ∃ x, dns M ka = x := ⟨_, rfl⟩
            obtain ⟨g, hgA, hcx⟩ := (Dns.of_row (E := dE) rfl (RM.out v6 O6.out)).at_ (k := ka) (by have := MLN.out; omega)
            subst hgA
            rw [hx] at hcx
            have XM : Hid (x ∈ M) := by show _ ∈ _; rw [← hx]; exact dns_mem (by have := MLN.out; omega)
            have XL : Hid (0 ≤ x.place ∧ x.place < 40) := (LL.out.el x (MP.out.subset XM.out)).2.1
            have XT : Hid (x.to = -1 ∨ x.fr ≤ x.to) := (LL.out.el x (MP.out.subset XM.out)).2.2.2.imp id (fun h => h.1)
            have T1 : Hid (rightB (M ++ [x]) = false) := not_twice XM.out
            have BX1 : Hid (Only [] wr (v6.alloc (.cells #[.int .i64 x.who, .int .i64 x.place, .int .i64 x.op, .int .i64 x.f, .int .i64 x.a, .int .i64 x.b, .int .i64 x.e, .slice x.A x.m x.c, .int .i64 x.n, .int .u64 x.v, .int .i64 x.fr, .int .i64 x.to] 31))) := O6.out.trans' ((box1 v6 x _).out.1)
            have BCx : Hid (∀ V, Only [] (v6.alloc (.cells #[.int .i64 x.who, .int .i64 x.place, .int .i64 x.op, .int .i64 x.f, .int .i64 x.a, .int .i64 x.b, .int .i64 x.e, .slice x.A x.m x.c, .int .i64 x.n, .int .u64 x.v, .int .i64 x.fr, .int .i64 x.to] 31)) V → (V.cell? ⟨v6.heap.size, 0, none⟩ = some (.int .i64 x.who) ∧ V.cell? ⟨v6.heap.size, 0 + 1, none⟩ = some (.int .i64 x.place) ∧ V.cell? ⟨v6.heap.size, 0 + 2, none⟩ = some (.int .i64 x.op) ∧ V.cell? ⟨v6.heap.size, 0 + 3, none⟩ = some (.int .i64 x.f) ∧ V.cell? ⟨v6.heap.size, 0 + 4, none⟩ = some (.int .i64 x.a) ∧ V.cell? ⟨v6.heap.size, 0 + 5, none⟩ = some (.int .i64 x.b) ∧ V.cell? ⟨v6.heap.size, 0 + 6, none⟩ = some (.int .i64 x.e) ∧ V.cell? ⟨v6.heap.size, 0 + 7, none⟩ = some (.slice x.A x.m x.c) ∧ V.cell? ⟨v6.heap.size, 0 + 8, none⟩ = some (.int .i64 x.n) ∧ V.cell? ⟨v6.heap.size, 0 + 9, none⟩ = some (.int .u64 x.v) ∧ V.cell? ⟨v6.heap.size, 0 + 10, none⟩ = some (.int .i64 x.fr) ∧ V.cell? ⟨v6.heap.size, 0 + 11, none⟩ = some (.int .i64 x.to))) := (box1 v6 x _).out.2
            simp only [Nat.zero_add] at BCx
            obtain ⟨x0, x1, x2, x3, x4, x5, x6, x7, x8, x9, x10, x11⟩ := hcx; (try simp only [Nat.zero_add] at x0 x1 x2 x3 x4 x5 x6 x7 x8 x9 x10 x11)
            clear hx
            go_upto_region 12 with (go_at_call 22; refine (mt.out _).mono ?_; rintro e w9 ⟨rfl, hv⟩; rw [hv]; clear hv)
            clear x0 x1 x2 x3 x4 x5 x6 x7 x8 x9 x10 x11 mt
            generalize v6.alloc (.cells #[.int .i64 x.who, .int .i64 x.place, .int .i64 x.op, .int .i64 x.f, .int .i64 x.a, .int .i64 x.b, .int .i64 x.e, .slice x.A x.m x.c, .int .i64 x.n, .int .u64 x.v, .int .i64 x.fr, .int .i64 x.to] 31) = v7 at *
            generalize v6.heap.size = bx at *
            refine wp_region_held_drew (S := (fun u' => (u'.cell? ⟨bx, 0, none⟩ = some (.int .i64 x.who) ∧ u'.cell? ⟨bx, 1, none⟩ = some (.int .i64 x.place) ∧ u'.cell? ⟨bx, 2, none⟩ = some (.int .i64 x.op) ∧ u'.cell? ⟨bx, 3, none⟩ = some (.int .i64 x.f) ∧ u'.cell? ⟨bx, 4, none⟩ = some (.int .i64 x.a) ∧ u'.cell? ⟨bx, 5, none⟩ = some (.int .i64 x.b) ∧ u'.cell? ⟨bx, 6, none⟩ = some (.int .i64 x.e) ∧ u'.cell? ⟨bx, 7, none⟩ = some (.slice x.A x.m x.c) ∧ u'.cell? ⟨bx, 8, none⟩ = some (.int .i64 x.n) ∧ u'.cell? ⟨bx, 9, none⟩ = some (.int .u64 x.v) ∧ u'.cell? ⟨bx, 10, none⟩ = some (.int .i64 x.fr) ∧ u'.cell? ⟨bx, 11, none⟩ = some (.int .i64 x.to)))) (by kernel_rfl) (BCx.out _ ((Only.refl [] v7).drew)) (fun hHeld => ?_)
            refine takeH (i := 0) (v := ?_) rfl (by kernel_rfl) (by kernel_rfl) (by kernel_rfl) (fun _ _ _ h => h) (Or.inl ⟨by rfl, ?_⟩) (by assumption) ?_
            rotate_left 1
            · (intro w hSw; (try dsimp only at hSw); go_simp; try (with_reducible rfl))
            try simp only [Act.put, List.setIfInBounds_toArray, List.set_cons_zero, List.set_cons_succ]
            refine takeH (i := 2) (v := ?_) rfl (by kernel_rfl) (by kernel_rfl) (by kernel_rfl) (fun _ _ _ h => h) (Or.inl ⟨by rfl, ?_⟩) (by assumption) ?_
            rotate_left 1
            · (intro w hSw; (try dsimp only at hSw); go_simp; try (with_reducible rfl))
            try simp only [Act.put, List.setIfInBounds_toArray, List.set_cons_zero, List.set_cons_succ]
            refine wpAnyH_ready (rs := [1, 3]) (by kernel_rfl) (by simp) ?_
            refine consH rfl (fun K hK => ?_) (consH rfl (fun K hK => ?_) AllReadyH.nil)
            · refine El.step_append (E := dE) Try.underlying22 rfl (.const (.slice none 0 0)) (.tmp 86) rfl (.slice none 0 0) [] rfl (El.Row.nil _) (some ⟨g, 0, none⟩) n c2 M rfl MLN.out (El.Src.of_row (RM.out _ (BX1.out.trans' ((Only.refl [] v7).drew)))) n (by simp) (by omega) ?_
              intro A5 c5 w5 h5 g5 l5
              have P5 : Hid (dE.Row w5 (.slice A5 n c5) M ∧ ∀ k, (Value.slice A5 n c5).ownBlock = some k → v7.heap.size ≤ k) := ⟨by simpa using h5, fun k hk => by
                rcases l5 with l5 | l5
                · rw [hk] at l5; cases l5
                · rw [hk] at l5; injection l5 with l5; rw [l5]; exact (((Only.refl [] v7).drew)).size⟩
              have G5 := Lib.hid (Only.grown (Only.refl [] _) g5 (fun k hk => by cases hk))
              have E5 : Hid (Only [] v7 w5) := Only.trans' ((Only.refl [] v7).drew) G5.out
              clear h5 g5 l5
              refine hK.out _ _ (BCx.out _ E5.out) (fun hHeld2 => ?_)
              clear hK K hHeld
              have hHeld := hHeld2
              clear hHeld2
              try simp only [Act.put, List.setIfInBounds_toArray, List.set_cons_zero, List.set_cons_succ]
              refine wpAnyH_ready (rs := [3]) (by kernel_rfl) (by simp) ?_
              refine consH rfl (fun K hK => ?_) AllReadyH.nil
              go_simp
              have EB : Hid (Only [] v7 (w5.alloc (.cells #[.int .i64 x.who, .int .i64 x.place, .int .i64 x.op, .int .i64 x.f, .int .i64 x.a, .int .i64 x.b, .int .i64 x.e, .slice x.A x.m x.c, .int .i64 x.n, .int .u64 x.v, .int .i64 x.fr, .int .i64 x.to] 31))) := Only.trans' E5.out ((Only.refl [] w5).alloc _)
              have SB : Hid (dE.Src (w5.alloc (.cells #[.int .i64 x.who, .int .i64 x.place, .int .i64 x.op, .int .i64 x.f, .int .i64 x.a, .int .i64 x.b, .int .i64 x.e, .slice x.A x.m x.c, .int .i64 x.n, .int .u64 x.v, .int .i64 x.fr, .int .i64 x.to] 31)) (some ⟨w5.heap.size, 0, none⟩) [x]) := El.Src.box (E := dE) (x := x) (heap_alloc_new w5 _)
              refine hK.out _ _ (BCx.out _ EB.out) (fun hHeld2 => ?_)
              clear hK K hHeld
              have hHeld := hHeld2
              clear hHeld2
              try simp only [Act.put, List.setIfInBounds_toArray, List.set_cons_zero, List.set_cons_succ]
              refine wpAnyH_ready (rs := [4]) (by kernel_rfl) (by simp) ?_
              refine consH rfl (fun K hK => ?_) AllReadyH.nil
              refine El.step_append (E := dE) Try.underlying22 rfl (.tmp 87) (.tmp 89) rfl (.slice A5 n c5) M rfl (P5.out.1.only0 ((Only.refl [] w5).alloc _)) _ 1 1 [x] rfl rfl SB.out (n + 1) (by rw [MLN.out]) (by omega) ?_
              intro A6 c6 w6 h6 g6 l6
              have P6 := Lib.hid h6
              have E6 : Hid (Only [] v7 w6) := EB.out.grown g6 (fun k hk => .inr (P5.out.2 k hk))
              clear h6 g6 l6
              refine hK.out _ _ (BCx.out _ E6.out) (fun hHeld2 => ?_)
              clear hK K hHeld
              have hHeld := hHeld2
              clear hHeld2
              try simp only [Act.put, List.setIfInBounds_toArray, List.set_cons_zero, List.set_cons_succ]
              refine wpAnyH_ready (rs := [5]) (by kernel_rfl) (by simp) ?_
              refine consH rfl (fun K hK => ?_) AllReadyH.nil
              go_simp
              have kr := cRight A6 (n + 1) c6 (M ++ [x]) w6 (by simp [MLN.out]) (by omega) (Dns.of_row (E := dE) rfl P6.out)
              rw [T1.out] at kr
              refine kr.mono ?_
              rintro e w7 ⟨rfl, o7⟩
              have E7 : Hid (Only [] v7 w7) := E6.out.trans' o7
              clear o7 kr
              refine hK.out _ _ (BCx.out _ E7.out) (fun hHeld2 => ?_)
              clear hK K hHeld
              have hHeld := hHeld2
              clear hHeld2
              try simp only [Act.put, List.setIfInBounds_toArray, List.set_cons_zero, List.set_cons_succ]
              refine wpAnyH_done (by kernel_rfl) ?_ _
              have OE : Hid (Only [] wr w7) := BX1.out.trans' E7.out
              clear hHeld
              have BX2 : Hid (∀ V, Only [] w7 V → (V.cell? ⟨bx, 0, none⟩ = some (.int .i64 x.who) ∧ V.cell? ⟨bx, 1, none⟩ = some (.int .i64 x.place) ∧ V.cell? ⟨bx, 2, none⟩ = some (.int .i64 x.op) ∧ V.cell? ⟨bx, 3, none⟩ = some (.int .i64 x.f) ∧ V.cell? ⟨bx, 4, none⟩ = some (.int .i64 x.a) ∧ V.cell? ⟨bx, 5, none⟩ = some (.int .i64 x.b) ∧ V.cell? ⟨bx, 6, none⟩ = some (.int .i64 x.e) ∧ V.cell? ⟨bx, 7, none⟩ = some (.slice x.A x.m x.c) ∧ V.cell? ⟨bx, 8, none⟩ = some (.int .i64 x.n) ∧ V.cell? ⟨bx, 9, none⟩ = some (.int .u64 x.v) ∧ V.cell? ⟨bx, 10, none⟩ = some (.int .i64 x.fr) ∧ V.cell? ⟨bx, 11, none⟩ = some (.int .i64 x.to))) := fun V o => BCx.out V (E7.out.trans' o)
              obtain ⟨x0, x1, x2, x3, x4, x5, x6, x7, x8, x9, x10, x11⟩ := BX2.out w7 (Only.refl _ _)
              have LX : Hid (bx < w7.heap.size) := World.block_lt_of_cell? _ _ x0
              have HB := Lib.hid (heap_alloc_new w7 (.cells #[.int .i64 x.who, .int .i64 x.place, .int .i64 x.op, .int .i64 x.f, .int .i64 x.a, .int .i64 x.b, .int .i64 x.e, .slice x.A x.m x.c, .int .i64 x.n, .int .u64 x.v, .int .i64 x.fr, .int .i64 x.to] 31))
              have AL := Lib.hid (Only.alloc (Only.refl [] w7) (.cells #[.int .i64 x.who, .int .i64 x.place, .int .i64 x.op, .int .i64 x.f, .int .i64 x.a, .int .i64 x.b, .int .i64 x.e, .slice x.A x.m x.c, .int .i64 x.n, .int .u64 x.v, .int .i64 x.fr, .int .i64 x.to] 31))
              have GW : Hid (wr.heap.size ≤ w7.heap.size) := OE.out.size
              go_upto_region 15 with fail
              clear x0 x1 x2 x3 x4 x5 x6 x7 x8 x9 x10 x11
              have OV : Hid (Only [] wr (w7.alloc (.cells #[.int .i64 x.who, .int .i64 x.place, .int .i64 x.op, .int .i64 x.f, .int .i64 x.a, .int .i64 x.b, .int .i64 x.e, .slice x.A x.m x.c, .int .i64 x.n, .int .u64 x.v, .int .i64 x.fr, .int .i64 x.to] 31))) := OE.out.trans' AL.out
              generalize w7.alloc (.cells #[.int .i64 x.who, .int .i64 x.place, .int .i64 x.op, .int .i64 x.f, .int .i64 x.a, .int .i64 x.b, .int .i64 x.e, .slice x.A x.m x.c, .int .i64 x.n, .int .u64 x.v, .int .i64 x.fr, .int .i64 x.to] 31) = v8 at *
              have n1 : ¬ (bx = w7.heap.size) := by have := LX.out; omega
              have n2 : ¬ (w7.heap.size = bx) := by have := LX.out; omega
              generalize w7.heap.size = gy at *
              obtain ⟨-, -, -, -, -, -, -, -, -, -, x10, x11⟩ := BX2.out v8 AL.out
              have z1 : v8.cell? ⟨gy, 1, none⟩ = some (.int .i64 x.place) := by rw [cell_of_row _ _ _ _ _ (0, 0) HB.out]; rfl
              have z10 : v8.cell? ⟨gy, 10, none⟩ = some (.int .i64 x.fr) := by rw [cell_of_row _ _ _ _ _ (0, 0) HB.out]; rfl
              have z11 : v8.cell? ⟨gy, 11, none⟩ = some (.int .i64 x.to) := by rw [cell_of_row _ _ _ _ _ (0, 0) HB.out]; rfl
              have f1 := frozen_of HB.out 1
              have f10 := frozen_of HB.out 10
              have f11 := frozen_of HB.out 11
              obtain ⟨mx, hmx⟩ : ∃ v, max x.fr x.to = v := ⟨_, rfl⟩
              have HMX := Lib.hid hmx
              obtain ⟨y, hy⟩ : ∃ y : Dn, y = { x with place := 100, fr := mx, to := -1 } := ⟨_, rfl⟩
              have T2 : Hid (rightB (M ++ [y]) = false) := not_over (x := x) XM.out XL.out XT.out (by rw [hy]) (by rw [hy]) (by rw [hy, HMX.out])
              have HB9 : Hid ((((v8.setCell ⟨gy, 1, none⟩ (.int .i64 100)).setCell ⟨gy, 10, none⟩ (.int .i64 mx)).setCell ⟨gy, 11, none⟩ (.int .i64 (-1))).heap[gy]? = some (.cells #[.int .i64 y.who, .int .i64 y.place, .int .i64 y.op, .int .i64 y.f, .int .i64 y.a, .int .i64 y.b, .int .i64 y.e, .slice y.A y.m y.c, .int .i64 y.n, .int .u64 y.v, .int .i64 y.fr, .int .i64 y.to] 31 (0, 0))) := by
                show _ = _
                rw [hy]
                simp [World.setCell, Array.getElem?_modify, HB.out]
              have OV9 : Hid (Only [] wr (((v8.setCell ⟨gy, 1, none⟩ (.int .i64 100)).setCell ⟨gy, 10, none⟩ (.int .i64 mx)).setCell ⟨gy, 11, none⟩ (.int .i64 (-1)))) := ((OV.out.setCell (.inr GW.out) _).setCell (.inr GW.out) _).setCell (.inr GW.out) _
              clear hy
              go_upto_region 17 with fail
              clear x10 x11 z1 z10 z11 f1 f10 f11 hmx n1 n2
              generalize ((v8.setCell ⟨gy, 1, none⟩ (.int .i64 100)).setCell ⟨gy, 10, none⟩ (.int .i64 mx)).setCell ⟨gy, 11, none⟩ (.int .i64 (-1)) = v9 at *
              have BCy : Hid (∀ V, Only [] v9 V → (V.cell? ⟨gy, 0, none⟩ = some (.int .i64 y.who) ∧ V.cell? ⟨gy, 0 + 1, none⟩ = some (.int .i64 y.place) ∧ V.cell? ⟨gy, 0 + 2, none⟩ = some (.int .i64 y.op) ∧ V.cell? ⟨gy, 0 + 3, none⟩ = some (.int .i64 y.f) ∧ V.cell? ⟨gy, 0 + 4, none⟩ = some (.int .i64 y.a) ∧ V.cell? ⟨gy, 0 + 5, none⟩ = some (.int .i64 y.b) ∧ V.cell? ⟨gy, 0 + 6, none⟩ = some (.int .i64 y.e) ∧ V.cell? ⟨gy, 0 + 7, none⟩ = some (.slice y.A y.m y.c) ∧ V.cell? ⟨gy, 0 + 8, none⟩ = some (.int .i64 y.n) ∧ V.cell? ⟨gy, 0 + 9, none⟩ = some (.int .u64 y.v) ∧ V.cell? ⟨gy, 0 + 10, none⟩ = some (.int .i64 y.fr) ∧ V.cell? ⟨gy, 0 + 11, none⟩ = some (.int .i64 y.to))) := fun V o => (DnAt.of_cells HB9.out).only0 o
              simp only [Nat.zero_add] at BCy
              refine wp_region_held_drew (S := (fun u' => (u'.cell? ⟨gy, 0, none⟩ = some (.int .i64 y.who) ∧ u'.cell? ⟨gy, 1, none⟩ = some (.int .i64 y.place) ∧ u'.cell? ⟨gy, 2, none⟩ = some (.int .i64 y.op) ∧ u'.cell? ⟨gy, 3, none⟩ = some (.int .i64 y.f) ∧ u'.cell? ⟨gy, 4, none⟩ = some (.int .i64 y.a) ∧ u'.cell? ⟨gy, 5, none⟩ = some (.int .i64 y.b) ∧ u'.cell? ⟨gy, 6, none⟩ = some (.int .i64 y.e) ∧ u'.cell? ⟨gy, 7, none⟩ = some (.slice y.A y.m y.c) ∧ u'.cell? ⟨gy, 8, none⟩ = some (.int .i64 y.n) ∧ u'.cell? ⟨gy, 9, none⟩ = some (.int .u64 y.v) ∧ u'.cell? ⟨gy, 10, none⟩ = some (.int .i64 y.fr) ∧ u'.cell? ⟨gy, 11, none⟩ = some (.int .i64 y.to)))) (by kernel_rfl) (BCy.out _ ((Only.refl [] v9).drew)) (fun hHeld => ?_)
              refine takeH (i := 0) (v := ?_) rfl (by kernel_rfl) (by kernel_rfl) (by kernel_rfl) (fun _ _ _ h => h) (Or.inl ⟨by rfl, ?_⟩) (by assumption) ?_
              rotate_left 1
              · (intro w hSw; (try dsimp only at hSw); go_simp; try (with_reducible rfl))
              try simp only [Act.put, List.setIfInBounds_toArray, List.set_cons_zero, List.set_cons_succ]
              refine takeH (i := 2) (v := ?_) rfl (by kernel_rfl) (by kernel_rfl) (by kernel_rfl) (fun _ _ _ h => h) (Or.inl ⟨by rfl, ?_⟩) (by assumption) ?_
              rotate_left 1
              · (intro w hSw; (try dsimp only at hSw); go_simp; try (with_reducible rfl))
              try simp only [Act.put, List.setIfInBounds_toArray, List.set_cons_zero, List.set_cons_succ]
              refine wpAnyH_ready (rs := [1, 3]) (by kernel_rfl) (by simp) ?_
              refine consH rfl (fun K hK => ?_) (consH rfl (fun K hK => ?_) AllReadyH.nil)
              · refine El.step_append (E := dE) Try.underlying22 rfl (.const (.slice none 0 0)) (.tmp 101) rfl (.slice none 0 0) [] rfl (El.Row.nil _) (some ⟨g, 0, none⟩) n c2 M rfl MLN.out (El.Src.of_row (RM.out _ (OV9.out.trans' ((Only.refl [] v9).drew)))) n (by simp) (by omega) ?_
                intro A5 c5 w5 h5 g5 l5
                have P5 : Hid (dE.Row w5 (.slice A5 n c5) M ∧ ∀ k, (Value.slice A5 n c5).ownBlock = some k → v9.heap.size ≤ k) := ⟨by simpa using h5, fun k hk => by
                  rcases l5 with l5 | l5
                  · rw [hk] at l5; cases l5
                  · rw [hk] at l5; injection l5 with l5; rw [l5]; exact (((Only.refl [] v9).drew)).size⟩
                have G5 := Lib.hid (Only.grown (Only.refl [] _) g5 (fun k hk => by cases hk))
                have E5 : Hid (Only [] v9 w5) := Only.trans' ((Only.refl [] v9).drew) G5.out
                clear h5 g5 l5
                refine hK.out _ _ (BCy.out _ E5.out) (fun hHeld2 => ?_)
                clear hK K hHeld
                have hHeld := hHeld2
                clear hHeld2
                try simp only [Act.put, List.setIfInBounds_toArray, List.set_cons_zero, List.set_cons_succ]
                refine wpAnyH_ready (rs := [3]) (by kernel_rfl) (by simp) ?_
                refine consH rfl (fun K hK => ?_) AllReadyH.nil
                go_simp
                have EB : Hid (Only [] v9 (w5.alloc (.cells #[.int .i64 y.who, .int .i64 y.place, .int .i64 y.op, .int .i64 y.f, .int .i64 y.a, .int .i64 y.b, .int .i64 y.e, .slice y.A y.m y.c, .int .i64 y.n, .int .u64 y.v, .int .i64 y.fr, .int .i64 y.to] 31))) := Only.trans' E5.out ((Only.refl [] w5).alloc _)
                have SB : Hid (dE.Src (w5.alloc (.cells #[.int .i64 y.who, .int .i64 y.place, .int .i64 y.op, .int .i64 y.f, .int .i64 y.a, .int .i64 y.b, .int .i64 y.e, .slice y.A y.m y.c, .int .i64 y.n, .int .u64 y.v, .int .i64 y.fr, .int .i64 y.to] 31)) (some ⟨w5.heap.size, 0, none⟩) [y]) := El.Src.box (E := dE) (x := y) (heap_alloc_new w5 _)
                refine hK.out _ _ (BCy.out _ EB.out) (fun hHeld2 => ?_)
                clear hK K hHeld
                have hHeld := hHeld2
                clear hHeld2
                try simp only [Act.put, List.setIfInBounds_toArray, List.set_cons_zero, List.set_cons_succ]
                refine wpAnyH_ready (rs := [4]) (by kernel_rfl) (by simp) ?_
                refine consH rfl (fun K hK => ?_) AllReadyH.nil
                refine El.step_append (E := dE) Try.underlying22 rfl (.tmp 102) (.tmp 104) rfl (.slice A5 n c5) M rfl (P5.out.1.only0 ((Only.refl [] w5).alloc _)) _ 1 1 [y] rfl rfl SB.out (n + 1) (by rw [MLN.out]) (by omega) ?_
                intro A6 c6 w6 h6 g6 l6
                have P6 := Lib.hid h6
                have E6 : Hid (Only [] v9 w6) := EB.out.grown g6 (fun k hk => .inr (P5.out.2 k hk))
                clear h6 g6 l6
                refine hK.out _ _ (BCy.out _ E6.out) (fun hHeld2 => ?_)
                clear hK K hHeld
                have hHeld := hHeld2
                clear hHeld2
                try simp only [Act.put, List.setIfInBounds_toArray, List.set_cons_zero, List.set_cons_succ]
                refine wpAnyH_ready (rs := [5]) (by kernel_rfl) (by simp) ?_
                refine consH rfl (fun K hK => ?_) AllReadyH.nil
                go_simp
                have kr := cRight A6 (n + 1) c6 (M ++ [y]) w6 (by simp [MLN.out]) (by omega) (Dns.of_row (E := dE) rfl P6.out)
                rw [T2.out] at kr
                refine kr.mono ?_
                rintro e w7 ⟨rfl, o7⟩
                have E7 : Hid (Only [] v9 w7) := E6.out.trans' o7
                clear o7 kr
                refine hK.out _ _ (BCy.out _ E7.out) (fun hHeld2 => ?_)
                clear hK K hHeld
                have hHeld := hHeld2
                clear hHeld2
                try simp only [Act.put, List.setIfInBounds_toArray, List.set_cons_zero, List.set_cons_succ]
                refine takeH (i := 6) (v := ?_) rfl (by kernel_rfl) (by kernel_rfl) (by kernel_rfl) (fun _ _ _ h => h) (Or.inl ⟨by rfl, ?_⟩) (by assumption) ?_
                rotate_left 1
                · (intro w hSw; (try dsimp only at hSw); go_simp; try (with_reducible rfl))
                try simp only [Act.put, List.setIfInBounds_toArray, List.set_cons_zero, List.set_cons_succ]
                refine takeH (i := 7) (v := ?_) rfl (by kernel_rfl) (by kernel_rfl) (by kernel_rfl) (fun _ _ _ h => h) (Or.inl ⟨by rfl, ?_⟩) (by assumption) ?_
                rotate_left 1
                · (intro w hSw; (try dsimp only at hSw); go_simp; try (with_reducible rfl))
                try simp only [Act.put, List.setIfInBounds_toArray, List.set_cons_zero, List.set_cons_succ]
                refine wpAnyH_done (by kernel_rfl) ?_ _
                have OE : Hid (Only [] wr w7) := OV9.out.trans' E7.out
                clear hHeld
                go_wp2_with fail
                have OF := Lib.hid (OR.out.trans' OE.out)
                go_ret
                exact ⟨rfl, OF.out.toBelow⟩
              · go_simp
                have EB : Hid (Only [] v9 (v9.drew.alloc (.cells #[.int .i64 y.who, .int .i64 y.place, .int .i64 y.op, .int .i64 y.f, .int .i64 y.a, .int .i64 y.b, .int .i64 y.e, .slice y.A y.m y.c, .int .i64 y.n, .int .u64 y.v, .int .i64 y.fr, .int .i64 y.to] 31))) := Only.trans' ((Only.refl [] v9).drew) ((Only.refl [] v9.drew).alloc _)
                have SB : Hid (dE.Src (v9.drew.alloc (.cells #[.int .i64 y.who, .int .i64 y.place, .int .i64 y.op, .int .i64 y.f, .int .i64 y.a, .int .i64 y.b, .int .i64 y.e, .slice y.A y.m y.c, .int .i64 y.n, .int .u64 y.v, .int .i64 y.fr, .int .i64 y.to] 31)) (some ⟨v9.drew.heap.size, 0, none⟩) [y]) := El.Src.box (E := dE) (x := y) (heap_alloc_new v9.drew _)
                refine hK.out _ _ (BCy.out _ EB.out) (fun hHeld2 => ?_)
                clear hK K hHeld
                have hHeld := hHeld2
                clear hHeld2
                try simp only [Act.put, List.setIfInBounds_toArray, List.set_cons_zero, List.set_cons_succ]
                refine wpAnyH_ready (rs := [1]) (by kernel_rfl) (by simp) ?_
                refine consH rfl (fun K hK => ?_) AllReadyH.nil
                refine El.step_append (E := dE) Try.underlying22 rfl (.const (.slice none 0 0)) (.tmp 101) rfl (.slice none 0 0) [] rfl (El.Row.nil _) (some ⟨g, 0, none⟩) n c2 M rfl MLN.out (El.Src.of_row (RM.out _ (OV9.out.trans' EB.out))) n (by simp) (by omega) ?_
                intro A5 c5 w5 h5 g5 l5
                have P5 : Hid (dE.Row w5 (.slice A5 n c5) M ∧ ∀ k, (Value.slice A5 n c5).ownBlock = some k → v9.heap.size ≤ k) := ⟨by simpa using h5, fun k hk => by
                  rcases l5 with l5 | l5
                  · rw [hk] at l5; cases l5
                  · rw [hk] at l5; injection l5 with l5; rw [l5]; exact (EB.out).size⟩
                have G5 := Lib.hid (Only.grown (Only.refl [] _) g5 (fun k hk => by cases hk))
                have E5 : Hid (Only [] v9 w5) := Only.trans' EB.out G5.out
                clear h5 g5 l5
                refine hK.out _ _ (BCy.out _ E5.out) (fun hHeld2 => ?_)
                clear hK K hHeld
                have hHeld := hHeld2
                clear hHeld2
                try simp only [Act.put, List.setIfInBounds_toArray, List.set_cons_zero, List.set_cons_succ]
                have SB6 := Lib.hid (SB.out.only0 G5.out)
                refine wpAnyH_ready (rs := [4]) (by kernel_rfl) (by simp) ?_
                refine consH rfl (fun K hK => ?_) AllReadyH.nil
                refine El.step_append (E := dE) Try.underlying22 rfl (.tmp 102) (.tmp 104) rfl (.slice A5 n c5) M rfl P5.out.1 _ 1 1 [y] rfl rfl SB6.out (n + 1) (by rw [MLN.out]) (by omega) ?_
                intro A6 c6 w6 h6 g6 l6
                have P6 := Lib.hid h6
                have E6 : Hid (Only [] v9 w6) := E5.out.grown g6 (fun k hk => .inr (P5.out.2 k hk))
                clear h6 g6 l6
                refine hK.out _ _ (BCy.out _ E6.out) (fun hHeld2 => ?_)
                clear hK K hHeld
                have hHeld := hHeld2
                clear hHeld2
                try simp only [Act.put, List.setIfInBounds_toArray, List.set_cons_zero, List.set_cons_succ]
                refine wpAnyH_ready (rs := [5]) (by kernel_rfl) (by simp) ?_
                refine consH rfl (fun K hK => ?_) AllReadyH.nil
                go_simp
                have kr := cRight A6 (n + 1) c6 (M ++ [y]) w6 (by simp [MLN.out]) (by omega) (Dns.of_row (E := dE) rfl P6.out)
                rw [T2.out] at kr
                refine kr.mono ?_
                rintro e w7 ⟨rfl, o7⟩
                have E7 : Hid (Only [] v9 w7) := E6.out.trans' o7
                clear o7 kr
                refine hK.out _ _ (BCy.out _ E7.out) (fun hHeld2 => ?_)
                clear hK K hHeld
                have hHeld := hHeld2
                clear hHeld2
                try simp only [Act.put, List.setIfInBounds_toArray, List.set_cons_zero, List.set_cons_succ]
                refine takeH (i := 6) (v := ?_) rfl (by kernel_rfl) (by kernel_rfl) (by kernel_rfl) (fun _ _ _ h => h) (Or.inl ⟨by rfl, ?_⟩) (by assumption) ?_
                rotate_left 1
                · (intro w hSw; (try dsimp only at hSw); go_simp; try (with_reducible rfl))
                try simp only [Act.put, List.setIfInBounds_toArray, List.set_cons_zero, List.set_cons_succ]
                refine takeH (i := 7) (v := ?_) rfl (by kernel_rfl) (by kernel_rfl) (by kernel_rfl) (fun _ _ _ h => h) (Or.inl ⟨by rfl, ?_⟩) (by assumption) ?_
                rotate_left 1
                · (intro w hSw; (try dsimp only at hSw); go_simp; try (with_reducible rfl))
                try simp only [Act.put, List.setIfInBounds_toArray, List.set_cons_zero, List.set_cons_succ]
                refine wpAnyH_done (by kernel_rfl) ?_ _
                have OE : Hid (Only [] wr w7) := OV9.out.trans' E7.out
                clear hHeld
                go_wp2_with fail
                have OF := Lib.hid (OR.out.trans' OE.out)
                go_ret
                exact ⟨rfl, OF.out.toBelow⟩
            · go_simp
              have EB : Hid (Only [] v7 (v7.drew.alloc (.cells #[.int .i64 x.who, .int .i64 x.place, .int .i64 x.op, .int .i64 x.f, .int .i64 x.a, .int .i64 x.b, .int .i64 x.e, .slice x.A x.m x.c, .int .i64 x.n, .int .u64 x.v, .int .i64 x.fr, .int .i64 x.to] 31))) := Only.trans' ((Only.refl [] v7).drew) ((Only.refl [] v7.drew).alloc _)
              have SB : Hid (dE.Src (v7.drew.alloc (.cells #[.int .i64 x.who, .int .i64 x.place, .int .i64 x.op, .int .i64 x.f, .int .i64 x.a, .int .i64 x.b, .int .i64 x.e, .slice x.A x.m x.c, .int .i64 x.n, .int .u64 x.v, .int .i64 x.fr, .int .i64 x.to] 31)) (some ⟨v7.drew.heap.size, 0, none⟩) [x]) := El.Src.box (E := dE) (x := x) (heap_alloc_new v7.drew _)
              refine hK.out _ _ (BCx.out _ EB.out) (fun hHeld2 => ?_)
              clear hK K hHeld
              have hHeld := hHeld2
              clear hHeld2
              try simp only [Act.put, List.setIfInBounds_toArray, List.set_cons_zero, List.set_cons_succ]
              refine wpAnyH_ready (rs := [1]) (by kernel_rfl) (by simp) ?_
              refine consH rfl (fun K hK => ?_) AllReadyH.nil
              refine El.step_append (E := dE) Try.underlying22 rfl (.const (.slice none 0 0)) (.tmp 86) rfl (.slice none 0 0) [] rfl (El.Row.nil _) (some ⟨g, 0, none⟩) n c2 M rfl MLN.out (El.Src.of_row (RM.out _ (BX1.out.trans' EB.out))) n (by simp) (by omega) ?_
              intro A5 c5 w5 h5 g5 l5
              have P5 : Hid (dE.Row w5 (.slice A5 n c5) M ∧ ∀ k, (Value.slice A5 n c5).ownBlock = some k → v7.heap.size ≤ k) := ⟨by simpa using h5, fun k hk => by
                rcases l5 with l5 | l5
                · rw [hk] at l5; cases l5
                · rw [hk] at l5; injection l5 with l5; rw [l5]; exact (EB.out).size⟩
              have G5 := Lib.hid (Only.grown (Only.refl [] _) g5 (fun k hk => by cases hk))
              have E5 : Hid (Only [] v7 w5) := Only.trans' EB.out G5.out
              clear h5 g5 l5
              refine hK.out _ _ (BCx.out _ E5.out) (fun hHeld2 => ?_)
              clear hK K hHeld
              have hHeld := hHeld2
              clear hHeld2
              try simp only [Act.put, List.setIfInBounds_toArray, List.set_cons_zero, List.set_cons_succ]
              have SB6 := Lib.hid (SB.out.only0 G5.out)
              refine wpAnyH_ready (rs := [4]) (by kernel_rfl) (by simp) ?_
              refine consH rfl (fun K hK => ?_) AllReadyH.nil
              refine El.step_append (E := dE) Try.underlying22 rfl (.tmp 87) (.tmp 89) rfl (.slice A5 n c5) M rfl P5.out.1 _ 1 1 [x] rfl rfl SB6.out (n + 1) (by rw [MLN.out]) (by omega) ?_
              intro A6 c6 w6 h6 g6 l6
              have P6 := Lib.hid h6
              have E6 : Hid (Only [] v7 w6) := E5.out.grown g6 (fun k hk => .inr (P5.out.2 k hk))
              clear h6 g6 l6
              refine hK.out _ _ (BCx.out _ E6.out) (fun hHeld2 => ?_)
              clear hK K hHeld
              have hHeld := hHeld2
              clear hHeld2
              try simp only [Act.put, List.setIfInBounds_toArray, List.set_cons_zero, List.set_cons_succ]
              refine wpAnyH_ready (rs := [5]) (by kernel_rfl) (by simp) ?_
              refine consH rfl (fun K hK => ?_) AllReadyH.nil
              go_simp
              have kr := cRight A6 (n + 1) c6 (M ++ [x]) w6 (by simp [MLN.out]) (by omega) (Dns.of_row (E := dE) rfl P6.out)
              rw [T1.out] at kr
              refine kr.mono ?_
              rintro e w7 ⟨rfl, o7⟩
              have E7 : Hid (Only [] v7 w7) := E6.out.trans' o7
              clear o7 kr
              refine hK.out _ _ (BCx.out _ E7.out) (fun hHeld2 => ?_)
              clear hK K hHeld
              have hHeld := hHeld2
              clear hHeld2
              try simp only [Act.put, List.setIfInBounds_toArray, List.set_cons_zero, List.set_cons_succ]
              refine wpAnyH_done (by kernel_rfl) ?_ _
              have OE : Hid (Only [] wr w7) := BX1.out.trans' E7.out
              clear hHeld
              have BX2 : Hid (∀ V, Only [] w7 V → (V.cell? ⟨bx, 0, none⟩ = some (.int .i64 x.who) ∧ V.cell? ⟨bx, 1, none⟩ = some (.int .i64 x.place) ∧ V.cell? ⟨bx, 2, none⟩ = some (.int .i64 x.op) ∧ V.cell? ⟨bx, 3, none⟩ = some (.int .i64 x.f) ∧ V.cell? ⟨bx, 4, none⟩ = some (.int .i64 x.a) ∧ V.cell? ⟨bx, 5, none⟩ = some (.int .i64 x.b) ∧ V.cell? ⟨bx, 6, none⟩ = some (.int .i64 x.e) ∧ V.cell? ⟨bx, 7, none⟩ = some (.slice x.A x.m x.c) ∧ V.cell? ⟨bx, 8, none⟩ = some (.int .i64 x.n) ∧ V.cell? ⟨bx, 9, none⟩ = some (.int .u64 x.v) ∧ V.cell? ⟨bx, 10, none⟩ = some (.int .i64 x.fr) ∧ V.cell? ⟨bx, 11, none⟩ = some (.int .i64 x.to))) := fun V o => BCx.out V (E7.out.trans' o)
              obtain ⟨x0, x1, x2, x3, x4, x5, x6, x7, x8, x9, x10, x11⟩ := BX2.out w7 (Only.refl _ _)
              have LX : Hid (bx < w7.heap.size) := World.block_lt_of_cell? _ _ x0
              have HB := Lib.hid (heap_alloc_new w7 (.cells #[.int .i64 x.who, .int .i64 x.place, .int .i64 x.op, .int .i64 x.f, .int .i64 x.a, .int .i64 x.b, .int .i64 x.e, .slice x.A x.m x.c, .int .i64 x.n, .int .u64 x.v, .int .i64 x.fr, .int .i64 x.to] 31))
              have AL := Lib.hid (Only.alloc (Only.refl [] w7) (.cells #[.int .i64 x.who, .int .i64 x.place, .int .i64 x.op, .int .i64 x.f, .int .i64 x.a, .int .i64 x.b, .int .i64 x.e, .slice x.A x.m x.c, .int .i64 x.n, .int .u64 x.v, .int .i64 x.fr, .int .i64 x.to] 31))
              have GW : Hid (wr.heap.size ≤ w7.heap.size) := OE.out.size
              go_upto_region 15 with fail
              clear x0 x1 x2 x3 x4 x5 x6 x7 x8 x9 x10 x11
              have OV : Hid (Only [] wr (w7.alloc (.cells #[.int .i64 x.who, .int .i64 x.place, .int .i64 x.op, .int .i64 x.f, .int .i64 x.a, .int .i64 x.b, .int .i64 x.e, .slice x.A x.m x.c, .int .i64 x.n, .int .u64 x.v, .int .i64 x.fr, .int .i64 x.to] 31))) := OE.out.trans' AL.out
              generalize w7.alloc (.cells #[.int .i64 x.who, .int .i64 x.place, .int .i64 x.op, .int .i64 x.f, .int .i64 x.a, .int .i64 x.b, .int .i64 x.e, .slice x.A x.m x.c, .int .i64 x.n, .int .u64 x.v, .int .i64 x.fr, .int .i64 x.to] 31) = v8 at *
              have n1 : ¬ (bx = w7.heap.size) := by have := LX.out; omega
              have n2 : ¬ (w7.heap.size = bx) := by have := LX.out; omega
              generalize w7.heap.size = gy at *
              obtain ⟨-, -, -, -, -, -, -, -, -, -, x10, x11⟩ := BX2.out v8 AL.out
              have z1 : v8.cell? ⟨gy, 1, none⟩ = some (.int .i64 x.place) := by rw [cell_of_row _ _ _ _ _ (0, 0) HB.out]; rfl
              have z10 : v8.cell? ⟨gy, 10, none⟩ = some (.int .i64 x.fr) := by rw [cell_of_row _ _ _ _ _ (0, 0) HB.out]; rfl
              have z11 : v8.cell? ⟨gy, 11, none⟩ = some (.int .i64 x.to) := by rw [cell_of_row _ _ _ _ _ (0, 0) HB.out]; rfl
              have f1 := frozen_of HB.out 1
              have f10 := frozen_of HB.out 10
              have f11 := frozen_of HB.out 11
              obtain ⟨mx, hmx⟩ : ∃ v, max x.fr x.to = v := ⟨_, rfl⟩
              have HMX := Lib.hid hmx
              obtain ⟨y, hy⟩ : ∃ y : Dn, y = { x with place := 100, fr := mx, to := -1 } := ⟨_, rfl⟩
              have T2 : Hid (rightB (M ++ [y]) = false) := not_over (x := x) XM.out XL.out XT.out (by rw [hy]) (by rw [hy]) (by rw [hy, HMX.out])
              have HB9 : Hid ((((v8.setCell ⟨gy, 1, none⟩ (.int .i64 100)).setCell ⟨gy, 10, none⟩ (.int .i64 mx)).setCell ⟨gy, 11, none⟩ (.int .i64 (-1))).heap[gy]? = some (.cells #[.int .i64 y.who, .int .i64 y.place, .int .i64 y.op, .int .i64 y.f, .int .i64 y.a, .int .i64 y.b, .int .i64 y.e, .slice y.A y.m y.c, .int .i64 y.n, .int .u64 y.v, .int .i64 y.fr, .int .i64 y.to] 31 (0, 0))) := by
                show _ = _
                rw [hy]
                simp [World.setCell, Array.getElem?_modify, HB.out]
              have OV9 : Hid (Only [] wr (((v8.setCell ⟨gy, 1, none⟩ (.int .i64 100)).setCell ⟨gy, 10, none⟩ (.int .i64 mx)).setCell ⟨gy, 11, none⟩ (.int .i64 (-1)))) := ((OV.out.setCell (.inr GW.out) _).setCell (.inr GW.out) _).setCell (.inr GW.out) _
              clear hy
              go_upto_region 17 with fail
              clear x10 x11 z1 z10 z11 f1 f10 f11 hmx n1 n2
              generalize ((v8.setCell ⟨gy, 1, none⟩ (.int .i64 100)).setCell ⟨gy, 10, none⟩ (.int .i64 mx)).setCell ⟨gy, 11, none⟩ (.int .i64 (-1)) = v9 at *
              have BCy : Hid (∀ V, Only [] v9 V → (V.cell? ⟨gy, 0, none⟩ = some (.int .i64 y.who) ∧ V.cell? ⟨gy, 0 + 1, none⟩ = some (.int .i64 y.place) ∧ V.cell? ⟨gy, 0 + 2, none⟩ = some (.int .i64 y.op) ∧ V.cell? ⟨gy, 0 + 3, none⟩ = some (.int .i64 y.f) ∧ V.cell? ⟨gy, 0 + 4, none⟩ = some (.int .i64 y.a) ∧ V.cell? ⟨gy, 0 + 5, none⟩ = some (.int .i64 y.b) ∧ V.cell? ⟨gy, 0 + 6, none⟩ = some (.int .i64 y.e) ∧ V.cell? ⟨gy, 0 + 7, none⟩ = some (.slice y.A y.m y.c) ∧ V.cell? ⟨gy, 0 + 8, none⟩ = some (.int .i64 y.n) ∧ V.cell? ⟨gy, 0 + 9, none⟩ = some (.int .u64 y.v) ∧ V.cell? ⟨gy, 0 + 10, none⟩ = some (.int .i64 y.fr) ∧ V.cell? ⟨gy, 0 + 11, none⟩ = some (.int .i64 y.to))) := fun V o => (DnAt.of_cells HB9.out).only0 o
              simp only [Nat.zero_add] at BCy
              refine wp_region_held_drew (S := (fun u' => (u'.cell? ⟨gy, 0, none⟩ = some (.int .i64 y.who) ∧ u'.cell? ⟨gy, 1, none⟩ = some (.int .i64 y.place) ∧ u'.cell? ⟨gy, 2, none⟩ = some (.int .i64 y.op) ∧ u'.cell? ⟨gy, 3, none⟩ = some (.int .i64 y.f) ∧ u'.cell? ⟨gy, 4, none⟩ = some (.int .i64 y.a) ∧ u'.cell? ⟨gy, 5, none⟩ = some (.int .i64 y.b) ∧ u'.cell? ⟨gy, 6, none⟩ = some (.int .i64 y.e) ∧ u'.cell? ⟨gy, 7, none⟩ = some (.slice y.A y.m y.c) ∧ u'.cell? ⟨gy, 8, none⟩ = some (.int .i64 y.n) ∧ u'.cell? ⟨gy, 9, none⟩ = some (.int .u64 y.v) ∧ u'.cell? ⟨gy, 10, none⟩ = some (.int .i64 y.fr) ∧ u'.cell? ⟨gy, 11, none⟩ = some (.int .i64 y.to)))) (by kernel_rfl) (BCy.out _ ((Only.refl [] v9).drew)) (fun hHeld => ?_)
              refine takeH (i := 0) (v := ?_) rfl (by kernel_rfl) (by kernel_rfl) (by kernel_rfl) (fun _ _ _ h => h) (Or.inl ⟨by rfl, ?_⟩) (by assumption) ?_
              rotate_left 1
              · (intro w hSw; (try dsimp only at hSw); go_simp; try (with_reducible rfl))
              try simp only [Act.put, List.setIfInBounds_toArray, List.set_cons_zero, List.set_cons_succ]
              refine takeH (i := 2) (v := ?_) rfl (by kernel_rfl) (by kernel_rfl) (by kernel_rfl) (fun _ _ _ h => h) (Or.inl ⟨by rfl, ?_⟩) (by assumption) ?_
              rotate_left 1
              · (intro w hSw; (try dsimp only at hSw); go_simp; try (with_reducible rfl))
              try simp only [Act.put, List.setIfInBounds_toArray, List.set_cons_zero, List.set_cons_succ]
              refine wpAnyH_ready (rs := [1, 3]) (by kernel_rfl) (by simp) ?_
              refine consH rfl (fun K hK => ?_) (consH rfl (fun K hK => ?_) AllReadyH.nil)
              · refine El.step_append (E := dE) Try.underlying22 rfl (.const (.slice none 0 0)) (.tmp 101) rfl (.slice none 0 0) [] rfl (El.Row.nil _) (some ⟨g, 0, none⟩) n c2 M rfl MLN.out (El.Src.of_row (RM.out _ (OV9.out.trans' ((Only.refl [] v9).drew)))) n (by simp) (by omega) ?_
                intro A5 c5 w5 h5 g5 l5
                have P5 : Hid (dE.Row w5 (.slice A5 n c5) M ∧ ∀ k, (Value.slice A5 n c5).ownBlock = some k → v9.heap.size ≤ k) := ⟨by simpa using h5, fun k hk => by
                  rcases l5 with l5 | l5
                  · rw [hk] at l5; cases l5
                  · rw [hk] at l5; injection l5 with l5; rw [l5]; exact (((Only.refl [] v9).drew)).size⟩
                have G5 := Lib.hid (Only.grown (Only.refl [] _) g5 (fun k hk => by cases hk))
                have E5 : Hid (Only [] v9 w5) := Only.trans' ((Only.refl [] v9).drew) G5.out
                clear h5 g5 l5
                refine hK.out _ _ (BCy.out _ E5.out) (fun hHeld2 => ?_)
                clear hK K hHeld
                have hHeld := hHeld2
                clear hHeld2
                try simp only [Act.put, List.setIfInBounds_toArray, List.set_cons_zero, List.set_cons_succ]
                refine wpAnyH_ready (rs := [3]) (by kernel_rfl) (by simp) ?_
                refine consH rfl (fun K hK => ?_) AllReadyH.nil
                go_simp
                have EB : Hid (Only [] v9 (w5.alloc (.cells #[.int .i64 y.who, .int .i64 y.place, .int .i64 y.op, .int .i64 y.f, .int .i64 y.a, .int .i64 y.b, .int .i64 y.e, .slice y.A y.m y.c, .int .i64 y.n, .int .u64 y.v, .int .i64 y.fr, .int .i64 y.to] 31))) := Only.trans' E5.out ((Only.refl [] w5).alloc _)
                have SB : Hid (dE.Src (w5.alloc (.cells #[.int .i64 y.who, .int .i64 y.place, .int .i64 y.op, .int .i64 y.f, .int .i64 y.a, .int .i64 y.b, .int .i64 y.e, .slice y.A y.m y.c, .int .i64 y.n, .int .u64 y.v, .int .i64 y.fr, .int .i64 y.to] 31)) (some ⟨w5.heap.size, 0, none⟩) [y]) := El.Src.box (E := dE) (x := y) (heap_alloc_new w5 _)
                refine hK.out _ _ (BCy.out _ EB.out) (fun hHeld2 => ?_)
                clear hK K hHeld
                have hHeld := hHeld2
                clear hHeld2
                try simp only [Act.put, List.setIfInBounds_toArray, List.set_cons_zero, List.set_cons_succ]
                refine wpAnyH_ready (rs := [4]) (by kernel_rfl) (by simp) ?_
                refine consH rfl (fun K hK => ?_) AllReadyH.nil
                refine El.step_append (E := dE) Try.underlying22 rfl (.tmp 102) (.tmp 104) rfl (.slice A5 n c5) M rfl (P5.out.1.only0 ((Only.refl [] w5).alloc _)) _ 1 1 [y] rfl rfl SB.out (n + 1) (by rw [MLN.out]) (by omega) ?_
                intro A6 c6 w6 h6 g6 l6
                have P6 := Lib.hid h6
                have E6 : Hid (Only [] v9 w6) := EB.out.grown g6 (fun k hk => .inr (P5.out.2 k hk))
                clear h6 g6 l6
                refine hK.out _ _ (BCy.out _ E6.out) (fun hHeld2 => ?_)
                clear hK K hHeld
                have hHeld := hHeld2
                clear hHeld2
                try simp only [Act.put, List.setIfInBounds_toArray, List.set_cons_zero, List.set_cons_succ]
                refine wpAnyH_ready (rs := [5]) (by kernel_rfl) (by simp) ?_
                refine consH rfl (fun K hK => ?_) AllReadyH.nil
                go_simp
                have kr := cRight A6 (n + 1) c6 (M ++ [y]) w6 (by simp [MLN.out]) (by omega) (Dns.of_row (E := dE) rfl P6.out)
                rw [T2.out] at kr
                refine kr.mono ?_
                rintro e w7 ⟨rfl, o7⟩
                have E7 : Hid (Only [] v9 w7) := E6.out.trans' o7
                clear o7 kr
                refine hK.out _ _ (BCy.out _ E7.out) (fun hHeld2 => ?_)
                clear hK K hHeld
                have hHeld := hHeld2
                clear hHeld2
                try simp only [Act.put, List.setIfInBounds_toArray, List.set_cons_zero, List.set_cons_succ]
                refine takeH (i := 6) (v := ?_) rfl (by kernel_rfl) (by kernel_rfl) (by kernel_rfl) (fun _ _ _ h => h) (Or.inl ⟨by rfl, ?_⟩) (by assumption) ?_
                rotate_left 1
                · (intro w hSw; (try dsimp only at hSw); go_simp; try (with_reducible rfl))
                try simp only [Act.put, List.setIfInBounds_toArray, List.set_cons_zero, List.set_cons_succ]
                refine takeH (i := 7) (v := ?_) rfl (by kernel_rfl) (by kernel_rfl) (by kernel_rfl) (fun _ _ _ h => h) (Or.inl ⟨by rfl, ?_⟩) (by assumption) ?_
                rotate_left 1
                · (intro w hSw; (try dsimp only at hSw); go_simp; try (with_reducible rfl))
                try simp only [Act.put, List.setIfInBounds_toArray, List.set_cons_zero, List.set_cons_succ]
                refine wpAnyH_done (by kernel_rfl) ?_ _
                have OE : Hid (Only [] wr w7) := OV9.out.trans' E7.out
                clear hHeld
                go_wp2_with fail
                have OF := Lib.hid (OR.out.trans' OE.out)
                go_ret
                exact ⟨rfl, OF.out.toBelow⟩
              · go_simp
                have EB : Hid (Only [] v9 (v9.drew.alloc (.cells #[.int .i64 y.who, .int .i64 y.place, .int .i64 y.op, .int .i64 y.f, .int .i64 y.a, .int .i64 y.b, .int .i64 y.e, .slice y.A y.m y.c, .int .i64 y.n, .int .u64 y.v, .int .i64 y.fr, .int .i64 y.to] 31))) := Only.trans' ((Only.refl [] v9).drew) ((Only.refl [] v9.drew).alloc _)
                have SB : Hid (dE.Src (v9.drew.alloc (.cells #[.int .i64 y.who, .int .i64 y.place, .int .i64 y.op, .int .i64 y.f, .int .i64 y.a, .int .i64 y.b, .int .i64 y.e, .slice y.A y.m y.c, .int .i64 y.n, .int .u64 y.v, .int .i64 y.fr, .int .i64 y.to] 31)) (some ⟨v9.drew.heap.size, 0, none⟩) [y]) := El.Src.box (E := dE) (x := y) (heap_alloc_new v9.drew _)
                refine hK.out _ _ (BCy.out _ EB.out) (fun hHeld2 => ?_)
                clear hK K hHeld
                have hHeld := hHeld2
                clear hHeld2
                try simp only [Act.put, List.setIfInBounds_toArray, List.set_cons_zero, List.set_cons_succ]
                refine wpAnyH_ready (rs := [1]) (by kernel_rfl) (by simp) ?_
                refine consH rfl (fun K hK => ?_) AllReadyH.nil
                refine El.step_append (E := dE) Try.underlying22 rfl (.const (.slice none 0 0)) (.tmp 101) rfl (.slice none 0 0) [] rfl (El.Row.nil _) (some ⟨g, 0, none⟩) n c2 M rfl MLN.out (El.Src.of_row (RM.out _ (OV9.out.trans' EB.out))) n (by simp) (by omega) ?_
                intro A5 c5 w5 h5 g5 l5
                have P5 : Hid (dE.Row w5 (.slice A5 n c5) M ∧ ∀ k, (Value.slice A5 n c5).ownBlock = some k → v9.heap.size ≤ k) := ⟨by simpa using h5, fun k hk => by
                  rcases l5 with l5 | l5
                  · rw [hk] at l5; cases l5
                  · rw [hk] at l5; injection l5 with l5; rw [l5]; exact (EB.out).size⟩
                have G5 := Lib.hid (Only.grown (Only.refl [] _) g5 (fun k hk => by cases hk))
                have E5 : Hid (Only [] v9 w5) := Only.trans' EB.out G5.out
                clear h5 g5 l5
                refine hK.out _ _ (BCy.out _ E5.out) (fun hHeld2 => ?_)
                clear hK K hHeld
                have hHeld := hHeld2
                clear hHeld2
                try simp only [Act.put, List.setIfInBounds_toArray, List.set_cons_zero, List.set_cons_succ]
                have SB6 := Lib.hid (SB.out.only0 G5.out)
                refine wpAnyH_ready (rs := [4]) (by kernel_rfl) (by simp) ?_
                refine consH rfl (fun K hK => ?_) AllReadyH.nil
                refine El.step_append (E := dE) Try.underlying22 rfl (.tmp 102) (.tmp 104) rfl (.slice A5 n c5) M rfl P5.out.1 _ 1 1 [y] rfl rfl SB6.out (n + 1) (by rw [MLN.out]) (by omega) ?_
                intro A6 c6 w6 h6 g6 l6
                have P6 := Lib.hid h6
                have E6 : Hid (Only [] v9 w6) := E5.out.grown g6 (fun k hk => .inr (P5.out.2 k hk))
                clear h6 g6 l6
                refine hK.out _ _ (BCy.out _ E6.out) (fun hHeld2 => ?_)
                clear hK K hHeld
                have hHeld := hHeld2
                clear hHeld2
                try simp only [Act.put, List.setIfInBounds_toArray, List.set_cons_zero, List.set_cons_succ]
                refine wpAnyH_ready (rs := [5]) (by kernel_rfl) (by simp) ?_
                refine consH rfl (fun K hK => ?_) AllReadyH.nil
                go_simp
                have kr := cRight A6 (n + 1) c6 (M ++ [y]) w6 (by simp [MLN.out]) (by omega) (Dns.of_row (E := dE) rfl P6.out)
                rw [T2.out] at kr
                refine kr.mono ?_
                rintro e w7 ⟨rfl, o7⟩
                have E7 : Hid (Only [] v9 w7) := E6.out.trans' o7
                clear o7 kr
                refine hK.out _ _ (BCy.out _ E7.out) (fun hHeld2 => ?_)
                clear hK K hHeld
                have hHeld := hHeld2
                clear hHeld2
                try simp only [Act.put, List.setIfInBounds_toArray, List.set_cons_zero, List.set_cons_succ]
                refine takeH (i := 6) (v := ?_) rfl (by kernel_rfl) (by kernel_rfl) (by kernel_rfl) (fun _ _ _ h => h) (Or.inl ⟨by rfl, ?_⟩) (by assumption) ?_
                rotate_left 1
                · (intro w hSw; (try dsimp only at hSw); go_simp; try (with_reducible rfl))
                try simp only [Act.put, List.setIfInBounds_toArray, List.set_cons_zero, List.set_cons_succ]
                refine takeH (i := 7) (v := ?_) rfl (by kernel_rfl) (by kernel_rfl) (by kernel_rfl) (fun _ _ _ h => h) (Or.inl ⟨by rfl, ?_⟩) (by assumption) ?_
                rotate_left 1
                · (intro w hSw; (try dsimp only at hSw); go_simp; try (with_reducible rfl))
                try simp only [Act.put, List.setIfInBounds_toArray, List.set_cons_zero, List.set_cons_succ]
                refine wpAnyH_done (by kernel_rfl) ?_ _
                have OE : Hid (Only [] wr w7) := OV9.out.trans' E7.out
                clear hHeld
                go_wp2_with fail
                have OF := Lib.hid (OR.out.trans' OE.out)
                go_ret
                exact ⟨rfl, OF.out.toBelow⟩
      · have h1 : ¬ ((i : Int) < (len1 : Int)) := by omega
        have d1 : decide ((i : Int) < (len1 : Int)) = false := decide_eq_false h1
        clear hgo q1
        have RM : Hid (∀ V, Only [] wr V → dE.Row V (.slice A2 n c2) M) := fun V o => R.out.1.only0 o
        have MLN : Hid (M.length = n) := R.out.1.lenOf
        have MP : Hid (M.Perm L) := R.out.2.1
        have OR : Hid (Only [] w wr) := R.out.2.2
        clear R
        have RT : Hid (RightP M) := LL.out.right.perm MP.out.symm
        have k1 := Lib.hid (lAwake wr)
        have k2 := Lib.hid (fun (V : World) (o : Only [] wr V) => cRight A2 n c2 M V MLN.out (by omega) (Dns.of_row (E := dE) rfl (RM.out V o)))
        rw [rightB_t RT.out] at k2
        have k3 := Lib.hid (fun (V : World) (o : Only [] wr V) => cEnded A2 n c2 M V MLN.out (by omega) (Dns.of_row (E := dE) rfl (RM.out V o)))
        have k4 := Lib.hid (fun (V : World) (o : Only [] wr V) => rEnded A2 n c2 M V MLN.out (by omega) (Dns.of_row (E := dE) rfl (RM.out V o)))
        have k5 := Lib.hid (fun (V : World) (o : Only [] wr V) => cMost A2 n c2 M V MLN.out (by omega) (Dns.of_row (E := dE) rfl (RM.out V o)))
        have k6 := Lib.hid (fun (V : World) (o : Only [] wr V) => rMost A2 n c2 M V MLN.out (by omega) (Dns.of_row (E := dE) rfl (RM.out V o)))
        generalize (!M.any opn) = bE at *
        generalize mostL M = nM at *
        have nb : (bE != bE) = false := by simp
        have nn : ((nM : Int) != (nM : Int)) = false := by simp
        go_wp2_with fail
        refine k1.out.mono ?_
        rintro e v1 ⟨rfl, o⟩
        have O1 := Lib.hid o
        clear o k1
        go_wp2_with fail
        refine (k2.out v1 O1.out).mono ?_
        rintro e v2 ⟨rfl, o⟩
        have O2 := Lib.hid (O1.out.trans' o)
        clear o
        go_wp2_with fail
        refine (k3.out v2 O2.out).mono ?_
        rintro e v3 ⟨rfl, o⟩
        have O3 := Lib.hid (O2.out.trans' o)
        clear o
        go_wp2_with fail
        refine (k4.out v3 O3.out).mono ?_
        rintro e v4 ⟨rfl, o⟩
        have O4 := Lib.hid (O3.out.trans' o)
        clear o
        go_wp2_with fail
        refine (k5.out v4 O4.out).mono ?_
        rintro e v5 ⟨rfl, o⟩
        have O5 := Lib.hid (O4.out.trans' o)
        clear o
        go_wp2_with fail
        refine (k6.out v5 O5.out).mono ?_
        rintro e v6 ⟨rfl, o⟩
        have O6 := Lib.hid (O5.out.trans' o)
        clear o
        clear k2 k3 k4 k5 k6
        by_cases hn0 : n = 0
        · have z1 : ((n : Int) == 0) = true := by simp [hn0]
          have OF := Lib.hid (OR.out.trans' O6.out)
          clear hn0
          go_wp2_with fail
          go_ret
          exact ⟨rfl, OF.out.toBelow⟩
        · have z1 : ((n : Int) == 0) = false := by simp [hn0]
          have h9 : (0 : Int) < (n : Int) := by omega
          have mt := Lib.hid (fun V => md.out a2 (n : Int) h9 (by omega) V)
          obtain ⟨ka, hka, hkn⟩ : ∃ k : Nat, modI a2 (n : Int) = (k : Int) ∧ k < n := ⟨(modI a2 (n : Int)).toNat, by have := modI_lt a2 h9; omega, by have := modI_lt a2 h9; omega⟩
          rw [hka] at mt
          clear hka hn0
          have ha : (ka : Int) < (n : Int) := by omega
          obtain ⟨x, hx⟩ : ∃ x, dns M ka = x := ⟨_, rfl⟩
          obtain ⟨g, hgA, hcx⟩ := (Dns.of_row (E := dE) rfl (RM.out v6 O6.out)).at_ (k := ka) (by have := MLN.out; omega)
          subst hgA
          rw [hx] at hcx
          have XM : Hid (x ∈ M) := by show _ ∈ _; rw [← hx]; exact dns_mem (by have := MLN.out; omega)
          have XL : Hid (0 ≤ x.place ∧ x.place < 40) := (LL.out.el x (MP.out.subset XM.out)).2.1
          have XT : Hid (x.to = -1 ∨ x.fr ≤ x.to) := (LL.out.el x (MP.out.subset XM.out)).2.2.2.imp id (fun h => h.1)
          have T1 : Hid (rightB (M ++ [x]) = false) := not_twice XM.out
          have BX1 : Hid (Only [] wr (v6.alloc (.cells #[.int .i64 x.who, .int .i64 x.place, .int .i64 x.op, .int .i64 x.f, .int .i64 x.a, .int .i64 x.b, .int .i64 x.e, .slice x.A x.m x.c, .int .i64 x.n, .int .u64 x.v, .int .i64 x.fr, .int .i64 x.to] 31))) := O6.out.trans' ((box1 v6 x _).out.1)
          have BCx : Hid (∀ V, Only [] (v6.alloc (.cells #[.int .i64 x.who, .int .i64 x.place, .int .i64 x.op, .int .i64 x.f, .int .i64 x.a, .int .i64 x.b, .int .i64 x.e, .slice x.A x.m x.c, .int .i64 x.n, .int .u64 x.v, .int .i64 x.fr, .int .i64 x.to] 31)) V → (V.cell? ⟨v6.heap.size, 0, none⟩ = some (.int .i64 x.who) ∧ V.cell? ⟨v6.heap.size, 0 + 1, none⟩ = some (.int .i64 x.place) ∧ V.cell? ⟨v6.heap.size, 0 + 2, none⟩ = some (.int .i64 x.op) ∧ V.cell? ⟨v6.heap.size, 0 + 3, none⟩ = some (.int .i64 x.f) ∧ V.cell? ⟨v6.heap.size, 0 + 4, none⟩ = some (.int .i64 x.a) ∧ V.cell? ⟨v6.heap.size, 0 + 5, none⟩ = some (.int .i64 x.b) ∧ V.cell? ⟨v6.heap.size, 0 + 6, none⟩ = some (.int .i64 x.e) ∧ V.cell? ⟨v6.heap.size, 0 + 7, none⟩ = some (.slice x.A x.m x.c) ∧ V.cell? ⟨v6.heap.size, 0 + 8, none⟩ = some (.int .i64 x.n) ∧ V.cell? ⟨v6.heap.size, 0 + 9, none⟩ = some (.int .u64 x.v) ∧ V.cell? ⟨v6.heap.size, 0 + 10, none⟩ = some (.int .i64 x.fr) ∧ V.cell? ⟨v6.heap.size, 0 + 11, none⟩ = some (.int .i64 x.to))) := (box1 v6 x _).out.2
          simp only [Nat.zero_add] at BCx
          obtain ⟨x0, x1, x2, x3, x4, x5, x6, x7, x8, x9, x10, x11⟩ := hcx; (try simp only [Nat.zero_add] at x0 x1 x2 x3 x4 x5 x6 x7 x8 x9 x10 x11)
          clear hx
          go_upto_region 12 with (go_at_call 22; refine (mt.out _).mono ?_; rintro e w9 ⟨rfl, hv⟩; rw [hv]; clear hv)
          clear x0 x1 x2 x3 x4 x5 x6 x7 x8 x9 x10 x11 mt
          generalize v6.alloc (.cells #[.int .i64 x.who, .int .i64 x.place, .int .i64 x.op, .int .i64 x.f, .int .i64 x.a, .int .i64 x.b, .int .i64 x.e, .slice x.A x.m x.c, .int .i64 x.n, .int .u64 x.v, .int .i64 x.fr, .int .i64 x.to] 31) = v7 at *
          generalize v6.heap.size = bx at *
          refine wp_region_held_drew (S := (fun u' => (u'.cell? ⟨bx, 0, none⟩ = some (.int .i64 x.who) ∧ u'.cell? ⟨bx, 1, none⟩ = some (.int .i64 x.place) ∧ u'.cell? ⟨bx, 2, none⟩ = some (.int .i64 x.op) ∧ u'.cell? ⟨bx, 3, none⟩ = some (.int .i64 x.f) ∧ u'.cell? ⟨bx, 4, none⟩ = some (.int .i64 x.a) ∧ u'.cell? ⟨bx, 5, none⟩ = some (.int .i64 x.b) ∧ u'.cell? ⟨bx, 6, none⟩ = some (.int .i64 x.e) ∧ u'.cell? ⟨bx, 7, none⟩ = some (.slice x.A x.m x.c) ∧ u'.cell? ⟨bx, 8, none⟩ = some (.int .i64 x.n) ∧ u'.cell? ⟨bx, 9, none⟩ = some (.int .u64 x.v) ∧ u'.cell? ⟨bx, 10, none⟩ = some (.int .i64 x.fr) ∧ u'.cell? ⟨bx, 11, none⟩ = some (.int .i64 x.to)))) (by kernel_rfl) (BCx.out _ ((Only.refl [] v7).drew)) (fun hHeld => ?_)
          refine takeH (i := 0) (v := ?_) rfl (by kernel_rfl) (by kernel_rfl) (by kernel_rfl) (fun _ _ _ h => h) (Or.inl ⟨by rfl, ?_⟩) (by assumption) ?_
          rotate_left 1
          · (intro w hSw; (try dsimp only at hSw); go_simp; try (with_reducible rfl))
          try simp only [Act.put, List.setIfInBounds_toArray, List.set_cons_zero, List.set_cons_succ]
          refine takeH (i := 2) (v := ?_) rfl (by kernel_rfl) (by kernel_rfl) (by kernel_rfl) (fun _ _ _ h => h) (Or.inl ⟨by rfl, ?_⟩) (by assumption) ?_
          rotate_left 1
          · (intro w hSw; (try dsimp only at hSw); go_simp; try (with_reducible rfl))
          try simp only [Act.put, List.setIfInBounds_toArray, List.set_cons_zero, List.set_cons_succ]
          refine wpAnyH_ready (rs := [1, 3]) (by kernel_rfl) (by simp) ?_
          refine consH rfl (fun K hK => ?_) (consH rfl (fun K hK => ?_) AllReadyH.nil)
          · refine El.step_append (E := dE) Try.underlying22 rfl (.const (.slice none 0 0)) (.tmp 86) rfl (.slice none 0 0) [] rfl (El.Row.nil _) (some ⟨g, 0, none⟩) n c2 M rfl MLN.out (El.Src.of_row (RM.out _ (BX1.out.trans' ((Only.refl [] v7).drew)))) n (by simp) (by omega) ?_
            intro A5 c5 w5 h5 g5 l5
            have P5 : Hid (dE.Row w5 (.slice A5 n c5) M ∧ ∀ k, (Value.slice A5 n c5).ownBlock = some k → v7.heap.size ≤ k) := ⟨by simpa using h5, fun k hk => by
              rcases l5 with l5 | l5
              · rw [hk] at l5; cases l5
              · rw [hk] at l5; injection l5 with l5; rw [l5]; exact (((Only.refl [] v7).drew)).size⟩
            have G5 := Lib.hid (Only.grown (Only.refl [] _) g5 (fun k hk => by cases hk))
            have E5 : Hid (Only [] v7 w5) := Only.trans' ((Only.refl [] v7).drew) G5.out
            clear h5 g5 l5
            refine hK.out _ _ (BCx.out _ E5.out) (fun hHeld2 => ?_)
            clear hK K hHeld
            have hHeld := hHeld2
            clear hHeld2
            try simp only [Act.put, List.setIfInBounds_toArray, List.set_cons_zero, List.set_cons_succ]
            refine wpAnyH_ready (rs := [3]) (by kernel_rfl) (by simp) ?_
            refine consH rfl (fun K hK => ?_) AllReadyH.nil
            go_simp
            have EB : Hid (Only [] v7 (w5.alloc (.cells #[.int .i64 x.who, .int .i64 x.place, .int .i64 x.op, .int .i64 x.f, .int .i64 x.a, .int .i64 x.b, .int .i64 x.e, .slice x.A x.m x.c, .int .i64 x.n, .int .u64 x.v, .int .i64 x.fr, .int .i64 x.to] 31))) := Only.trans' E5.out ((Only.refl [] w5).alloc _)
            have SB : Hid (dE.Src (w5.alloc (.cells #[.int .i64 x.who, .int .i64 x.place, .int .i64 x.op, .int .i64 x.f, .int .i64 x.a, .int .i64 x.b, .int .i64 x.e, .slice x.A x.m x.c, .int .i64 x.n, .int .u64 x.v, .int .i64 x.fr, .int .i64 x.to] 31)) (some ⟨w5.heap.size, 0, none⟩) [x]) := El.Src.box (E := dE) (x := x) (heap_alloc_new w5 _)
            refine hK.out _ _ (BCx.out _ EB.out) (fun hHeld2 => ?_)
            clear hK K hHeld
            have hHeld := hHeld2
            clear hHeld2
            try simp only [Act.put, List.setIfInBounds_toArray, List.set_cons_zero, List.set_cons_succ]
            refine wpAnyH_ready (rs := [4]) (by kernel_rfl) (by simp) ?_
            refine consH rfl (fun K hK => ?_) AllReadyH.nil
            refine El.step_append (E := dE) Try.underlying22 rfl (.tmp 87) (.tmp 89) rfl (.slice A5 n c5) M rfl (P5.out.1.only0 ((Only.refl [] w5).alloc _)) _ 1 1 [x] rfl rfl SB.out (n + 1) (by rw [MLN.out]) (by omega) ?_
            intro A6 c6 w6 h6 g6 l6
            have P6 := Lib.hid h6
            have E6 : Hid (Only [] v7 w6) := EB.out.grown g6 (fun k hk => .inr (P5.out.2 k hk))
            clear h6 g6 l6
            refine hK.out _ _ (BCx.out _ E6.out) (fun hHeld2 => ?_)
            clear hK K hHeld
            have hHeld := hHeld2
            clear hHeld2
            try simp only [Act.put, List.setIfInBounds_toArray, List.set_cons_zero, List.set_cons_succ]
            refine wpAnyH_ready (rs := [5]) (by kernel_rfl) (by simp) ?_
            refine consH rfl (fun K hK => ?_) AllReadyH.nil
            go_simp
            have kr := cRight A6 (n + 1) c6 (M ++ [x]) w6 (by simp [MLN.out]) (by omega) (Dns.of_row (E := dE) rfl P6.out)
            rw [T1.out] at kr
            refine kr.mono ?_
            rintro e w7 ⟨rfl, o7⟩
            have E7 : Hid (Only [] v7 w7) := E6.out.trans' o7
            clear o7 kr
            refine hK.out _ _ (BCx.out _ E7.out) (fun hHeld2 => ?_)
            clear hK K hHeld
            have hHeld := hHeld2
            clear hHeld2
            try simp only [Act.put, List.setIfInBounds_toArray, List.set_cons_zero, List.set_cons_succ]
            refine wpAnyH_done (by kernel_rfl) ?_ _
            have OE : Hid (Only [] wr w7) := BX1.out.trans' E7.out
            clear hHeld
            have BX2 : Hid (∀ V, Only [] w7 V → (V.cell? ⟨bx, 0, none⟩ = some (.int .i64 x.who) ∧ V.cell? ⟨bx, 1, none⟩ = some (.int .i64 x.place) ∧ V.cell? ⟨bx, 2, none⟩ = some (.int .i64 x.op) ∧ V.cell? ⟨bx, 3, none⟩ = some (.int .i64 x.f) ∧ V.cell? ⟨bx, 4, none⟩ = some (.int .i64 x.a) ∧ V.cell? ⟨bx, 5, none⟩ = some (.int .i64 x.b) ∧ V.cell? ⟨bx, 6, none⟩ = some (.int .i64 x.e) ∧ V.cell? ⟨bx, 7, none⟩ = some (.slice x.A x.m x.c) ∧ V.cell? ⟨bx, 8, none⟩ = some (.int .i64 x.n) ∧ V.cell? ⟨bx, 9, none⟩ = some (.int .u64 x.v) ∧ V.cell? ⟨bx, 10, none⟩ = some (.int .i64 x.fr) ∧ V.cell? ⟨bx, 11, none⟩ = some (.int .i64 x.to))) := fun V o => BCx.out V (E7.out.trans' o)
            obtain ⟨x0, x1, x2, x3, x4, x5, x6, x7, x8, x9, x10, x11⟩ := BX2.out w7 (Only.refl _ _)
            have LX : Hid (bx < w7.heap.size) := World.block_lt_of_cell? _ _ x0
            have HB := Lib.hid (heap_alloc_new w7 (.cells #[.int .i64 x.who, .int .i64 x.place, .int .i64 x.op, .int .i64 x.f, .int .i64 x.a, .int .i64 x.b, .int .i64 x.e, .slice x.A x.m x.c, .int .i64 x.n, .int .u64 x.v, .int .i64 x.fr, .int .i64 x.to] 31))
            have AL := Lib.hid (Only.alloc (Only.refl [] w7) (.cells #[.int .i64 x.who, .int .i64 x.place, .int .i64 x.op, .int .i64 x.f, .int .i64 x.a, .int .i64 x.b, .int .i64 x.e, .slice x.A x.m x.c, .int .i64 x.n, .int .u64 x.v, .int .i64 x.fr, .int .i64 x.to] 31))
            have GW : Hid (wr.heap.size ≤ w7.heap.size) := OE.out.size
            go_upto_region 15 with fail
            clear x0 x1 x2 x3 x4 x5 x6 x7 x8 x9 x10 x11
            have OV : Hid (Only [] wr (w7.alloc (.cells #[.int .i64 x.who, .int .i64 x.place, .int .i64 x.op, .int .i64 x.f, .int .i64 x.a, .int .i64 x.b, .int .i64 x.e, .slice x.A x.m x.c, .int .i64 x.n, .int .u64 x.v, .int .i64 x.fr, .int .i64 x.to] 31))) := OE.out.trans' AL.out
            generalize w7.alloc (.cells #[.int .i64 x.who, .int .i64 x.place, .int .i64 x.op, .int .i64 x.f, .int .i64 x.a, .int .i64 x.b, .int .i64 x.e, .slice x.A x.m x.c, .int .i64 x.n, .int .u64 x.v, .int .i64 x.fr, .int .i64 x.to] 31) = v8 at *
            have n1 : ¬ (bx = w7.heap.size) := by have := LX.out; omega
            have n2 : ¬ (w7.heap.size = bx) := by have := LX.out; omega
            generalize w7.heap.size = gy at *
            obtain ⟨-, -, -, -, -, -, -, -, -, -, x10, x11⟩ := BX2.out v8 AL.out
            have z1 : v8.cell? ⟨gy, 1, none⟩ = some (.int .i64 x.place) := by rw [cell_of_row _ _ _ _ _ (0, 0) HB.out]; rfl
            have z10 : v8.cell? ⟨gy, 10, none⟩ = some (.int .i64 x.fr) := by rw [cell_of_row _ _ _ _ _ (0, 0) HB.out]; rfl
            have z11 : v8.cell? ⟨gy, 11, none⟩ = some (.int .i64 x.to) := by rw [cell_of_row _ _ _ _ _ (0, 0) HB.out]; rfl
            have f1 := frozen_of HB.out 1
            have f10 := frozen_of HB.out 10
            have f11 := frozen_of HB.out 11
            obtain ⟨mx, hmx⟩ : ∃ v, max x.fr x.to = v := ⟨_, rfl⟩
            have HMX := Lib.hid hmx
            obtain ⟨y, hy⟩ : ∃ y : Dn, y = { x with place := 100, fr := mx, to := -1 } := ⟨_, rfl⟩
            have T2 : Hid (rightB (M ++ [y]) = false) := not_over (x := x) XM.out XL.out XT.out (by rw [hy]) (by rw [hy]) (by rw [hy, HMX.out])
            have HB9 : Hid ((((v8.setCell ⟨gy, 1, none⟩ (.int .i64 100)).setCell ⟨gy, 10, none⟩ (.int .i64 mx)).setCell ⟨gy, 11, none⟩ (.int .i64 (-1))).heap[gy]? = some (.cells #[.int .i64 y.who, .int .i64 y.place, .int .i64 y.op, .int .i64 y.f, .int .i64 y.a, .int .i64 y.b, .int .i64 y.e, .slice y.A y.m y.c, .int .i64 y.n, .int .u64 y.v, .int .i64 y.fr, .int .i64 y.to] 31 (0, 0))) := by
              show _ = _
              rw [hy]
              simp [World.setCell, Array.getElem?_modify, HB.out]
            have OV9 : Hid (Only [] wr (((v8.setCell ⟨gy, 1, none⟩ (.int .i64 100)).setCell ⟨gy, 10, none⟩ (.int .i64 mx)).setCell ⟨gy, 11, none⟩ (.int .i64 (-1)))) := ((OV.out.setCell (.inr GW.out) _).setCell (.inr GW.out) _).setCell (.inr GW.out) _
            clear hy
            go_upto_region 17 with fail
            clear x10 x11 z1 z10 z11 f1 f10 f11 hmx n1 n2
            generalize ((v8.setCell ⟨gy, 1, none⟩ (.int .i64 100)).setCell ⟨gy, 10, none⟩ (.int .i64 mx)).setCell ⟨gy, 11, none⟩ (.int .i64 (-1)) = v9 at *
            have BCy : Hid (∀ V, Only [] v9 V → (V.cell? ⟨gy, 0, none⟩ = some (.int .i64 y.who) ∧ V.cell? ⟨gy, 0 + 1, none⟩ = some (.int .i64 y.place) ∧ V.cell? ⟨gy, 0 + 2, none⟩ = some (.int .i64 y.op) ∧ V.cell? ⟨gy, 0 + 3, none⟩ = some (.int .i64 y.f) ∧ V.cell? ⟨gy, 0 + 4, none⟩ = some (.int .i64 y.a) ∧ V.cell? ⟨gy, 0 + 5, none⟩ = some (.int .i64 y.b) ∧ V.cell? ⟨gy, 0 + 6, none⟩ = some (.int .i64 y.e) ∧ V.cell? ⟨gy, 0 + 7, none⟩ = some (.slice y.A y.m y.c) ∧ V.cell? ⟨gy, 0 + 8, none⟩ = some (.int .i64 y.n) ∧ V.cell? ⟨gy, 0 + 9, none⟩ = some (.int .u64 y.v) ∧ V.cell? ⟨gy, 0 + 10, none⟩ = some (.int .i64 y.fr) ∧ V.cell? ⟨gy, 0 + 11, none⟩ = some (.int .i64 y.to))) := fun V o => (DnAt.of_cells HB9.out).only0 o
            simp only [Nat.zero_add] at BCy
            refine wp_region_held_drew (S := (fun u' => (u'.cell? ⟨gy, 0, none⟩ = some (.int .i64 y.who) ∧ u'.cell? ⟨gy, 1, none⟩ = some (.int .i64 y.place) ∧ u'.cell? ⟨gy, 2, none⟩ = some (.int .i64 y.op) ∧ u'.cell? ⟨gy, 3, none⟩ = some (.int .i64 y.f) ∧ u'.cell? ⟨gy, 4, none⟩ = some (.int .i64 y.a) ∧ u'.cell? ⟨gy, 5, none⟩ = some (.int .i64 y.b) ∧ u'.cell? ⟨gy, 6, none⟩ = some (.int .i64 y.e) ∧ u'.cell? ⟨gy, 7, none⟩ = some (.slice y.A y.m y.c) ∧ u'.cell? ⟨gy, 8, none⟩ = some (.int .i64 y.n) ∧ u'.cell? ⟨gy, 9, none⟩ = some (.int .u64 y.v) ∧ u'.cell? ⟨gy, 10, none⟩ = some (.int .i64 y.fr) ∧ u'.cell? ⟨gy, 11, none⟩ = some (.int .i64 y.to)))) (by kernel_rfl) (BCy.out _ ((Only.refl [] v9).drew)) (fun hHeld => ?_)
            refine takeH (i := 0) (v := ?_) rfl (by kernel_rfl) (by kernel_rfl) (by kernel_rfl) (fun _ _ _ h => h) (Or.inl ⟨by rfl, ?_⟩) (by assumption) ?_
            rotate_left 1
            · (intro w hSw; (try dsimp only at hSw); go_simp; try (with_reducible rfl))
            try simp only [Act.put, List.setIfInBounds_toArray, List.set_cons_zero, List.set_cons_succ]
            refine takeH (i := 2) (v := ?_) rfl (by kernel_rfl) (by kernel_rfl) (by kernel_rfl) (fun _ _ _ h => h) (Or.inl ⟨by rfl, ?_⟩) (by assumption) ?_
            rotate_left 1
            · (intro w hSw; (try dsimp only at hSw); go_simp; try (with_reducible rfl))
            try simp only [Act.put, List.setIfInBounds_toArray, List.set_cons_zero, List.set_cons_succ]
            refine wpAnyH_ready (rs := [1, 3]) (by kernel_rfl) (by simp) ?_
            refine consH rfl (fun K hK => ?_) (consH rfl (fun K hK => ?_) AllReadyH.nil)
            · refine El.step_append (E := dE) Try.underlying22 rfl (.const (.slice none 0 0)) (.tmp 101) rfl (.slice none 0 0) [] rfl (El.Row.nil _) (some ⟨g, 0, none⟩) n c2 M rfl MLN.out (El.Src.of_row (RM.out _ (OV9.out.trans' ((Only.refl [] v9).drew)))) n (by simp) (by omega) ?_
              intro A5 c5 w5 h5 g5 l5
              have P5 : Hid (dE.Row w5 (.slice A5 n c5) M ∧ ∀ k, (Value.slice A5 n c5).ownBlock = some k → v9.heap.size ≤ k) := ⟨by simpa using h5, fun k hk => by
                rcases l5 with l5 | l5
                · rw [hk] at l5; cases l5
                · rw [hk] at l5; injection l5 with l5; rw [l5]; exact (((Only.refl [] v9).drew)).size⟩
              have G5 := Lib.hid (Only.grown (Only.refl [] _) g5 (fun k hk => by cases hk))
              have E5 : Hid (Only [] v9 w5) := Only.trans' ((Only.refl [] v9).drew) G5.out
              clear h5 g5 l5
              refine hK.out _ _ (BCy.out _ E5.out) (fun hHeld2 => ?_)
              clear hK K hHeld
              have hHeld := hHeld2
              clear hHeld2
              try simp only [Act.put, List.setIfInBounds_toArray, List.set_cons_zero, List.set_cons_succ]
              refine wpAnyH_ready (rs := [3]) (by kernel_rfl) (by simp) ?_
              refine consH rfl (fun K hK => ?_) AllReadyH.nil
              go_simp
              have EB : Hid (Only [] v9 (w5.alloc (.cells #[.int .i64 y.who, .int .i64 y.place, .int .i64 y.op, .int .i64 y.f, .int .i64 y.a, .int .i64 y.b, .int .i64 y.e, .slice y.A y.m y.c, .int .i64 y.n, .int .u64 y.v, .int .i64 y.fr, .int .i64 y.to] 31))) := Only.trans' E5.out ((Only.refl [] w5).alloc _)
              have SB : Hid (dE.Src (w5.alloc (.cells #[.int .i64 y.who, .int .i64 y.place, .int .i64 y.op, .int .i64 y.f, .int .i64 y.a, .int .i64 y.b, .int .i64 y.e, .slice y.A y.m y.c, .int .i64 y.n, .int .u64 y.v, .int .i64 y.fr, .int .i64 y.to] 31)) (some ⟨w5.heap.size, 0, none⟩) [y]) := El.Src.box (E := dE) (x := y) (heap_alloc_new w5 _)
              refine hK.out _ _ (BCy.out _ EB.out) (fun hHeld2 => ?_)
              clear hK K hHeld
              have hHeld := hHeld2
              clear hHeld2
              try simp only [Act.put, List.setIfInBounds_toArray, List.set_cons_zero, List.set_cons_succ]
              refine wpAnyH_ready (rs := [4]) (by kernel_rfl) (by simp) ?_
              refine consH rfl (fun K hK => ?_) AllReadyH.nil
              refine El.step_append (E := dE) Try.underlying22 rfl (.tmp 102) (.tmp 104) rfl (.slice A5 n c5) M rfl (P5.out.1.only0 ((Only.refl [] w5).alloc _)) _ 1 1 [y] rfl rfl SB.out (n + 1) (by rw [MLN.out]) (by omega) ?_
              intro A6 c6 w6 h6 g6 l6
              have P6 := Lib.hid h6
              have E6 : Hid (Only [] v9 w6) := EB.out.grown g6 (fun k hk => .inr (P5.out.2 k hk))
              clear h6 g6 l6
              refine hK.out _ _ (BCy.out _ E6.out) (fun hHeld2 => ?_)
              clear hK K hHeld
              have hHeld := hHeld2
              clear hHeld2
              try simp only [Act.put, List.setIfInBounds_toArray, List.set_cons_zero, List.set_cons_succ]
              refine wpAnyH_ready (rs := [5]) (by kernel_rfl) (by simp) ?_
              refine consH rfl (fun K hK => ?_) AllReadyH.nil
              go_simp
              have kr := cRight A6 (n + 1) c6 (M ++ [y]) w6 (by simp [MLN.out]) (by omega) (Dns.of_row (E := dE) rfl P6.out)
              rw [T2.out] at kr
              refine kr.mono ?_
              rintro e w7 ⟨rfl, o7⟩
              have E7 : Hid (Only [] v9 w7) := E6.out.trans' o7
              clear o7 kr
              refine hK.out _ _ (BCy.out _ E7.out) (fun hHeld2 => ?_)
              clear hK K hHeld
              have hHeld := hHeld2
              clear hHeld2
              try simp only [Act.put, List.setIfInBounds_toArray, List.set_cons_zero, List.set_cons_succ]
              refine takeH (i := 6) (v := ?_) rfl (by kernel_rfl) (by kernel_rfl) (by kernel_rfl) (fun _ _ _ h => h) (Or.inl ⟨by rfl, ?_⟩) (by assumption) ?_
              rotate_left 1
              · (intro w hSw; (try dsimp only at hSw); go_simp; try (with_reducible rfl))
              try simp only [Act.put, List.setIfInBounds_toArray, List.set_cons_zero, List.set_cons_succ]
              refine takeH (i := 7) (v := ?_) rfl (by kernel_rfl) (by kernel_rfl) (by kernel_rfl) (fun _ _ _ h => h) (Or.inl ⟨by rfl, ?_⟩) (by assumption) ?_
              rotate_left 1
              · (intro w hSw; (try dsimp only at hSw); go_simp; try (with_reducible rfl))
              try simp only [Act.put, List.setIfInBounds_toArray, List.set_cons_zero, List.set_cons_succ]
              refine wpAnyH_done (by kernel_rfl) ?_ _
              have OE : Hid (Only [] wr w7) := OV9.out.trans' E7.out
              clear hHeld
              go_wp2_with fail
              have OF := Lib.hid (OR.out.trans' OE.out)
              go_ret
              exact ⟨rfl, OF.out.toBelow⟩
            · go_simp
              have EB : Hid (Only [] v9 (v9.drew.alloc (.cells #[.int .i64 y.who, .int .i64 y.place, .int .i64 y.op, .int .i64 y.f, .int .i64 y.a, .int .i64 y.b, .int .i64 y.e, .slice y.A y.m y.c, .int .i64 y.n, .int .u64 y.v, .int .i64 y.fr, .int .i64 y.to] 31))) := Only.trans' ((Only.refl [] v9).drew) ((Only.refl [] v9.drew).alloc _)
              have SB : Hid (dE.Src (v9.drew.alloc (.cells #[.int .i64 y.who, .int .i64 y.place, .int .i64 y.op, .int .i64 y.f, .int .i64 y.a, .int .i64 y.b, .int .i64 y.e, .slice y.A y.m y.c, .int .i64 y.n, .int .u64 y.v, .int .i64 y.fr, .int .i64 y.to] 31)) (some ⟨v9.drew.heap.size, 0, none⟩) [y]) := El.Src.box (E := dE) (x := y) (heap_alloc_new v9.drew _)
              refine hK.out _ _ (BCy.out _ EB.out) (fun hHeld2 => ?_)
              clear hK K hHeld
              have hHeld := hHeld2
              clear hHeld2
              try simp only [Act.put, List.setIfInBounds_toArray, List.set_cons_zero, List.set_cons_succ]
              refine wpAnyH_ready (rs := [1]) (by kernel_rfl) (by simp) ?_
              refine consH rfl (fun K hK => ?_) AllReadyH.nil
              refine El.step_append (E := dE) Try.underlying22 rfl (.const (.slice none 0 0)) (.tmp 101) rfl (.slice none 0 0) [] rfl (El.Row.nil _) (some ⟨g, 0, none⟩) n c2 M rfl MLN.out (El.Src.of_row (RM.out _ (OV9.out.trans' EB.out))) n (by simp) (by omega) ?_
              intro A5 c5 w5 h5 g5 l5
              have P5 : Hid (dE.Row w5 (.slice A5 n c5) M ∧ ∀ k, (Value.slice A5 n c5).ownBlock = some k → v9.heap.size ≤ k) := ⟨by simpa using h5, fun k hk => by
                rcases l5 with l5 | l5
                · rw [hk] at l5; cases l5
                · rw [hk] at l5; injection l5 with l5; rw [l5]; exact (EB.out).size⟩
              have G5 := Lib.hid (Only.grown (Only.refl [] _) g5 (fun k hk => by cases hk))
              have E5 : Hid (Only [] v9 w5) := Only.trans' EB.out G5.out
              clear h5 g5 l5
              refine hK.out _ _ (BCy.out _ E5.out) (fun hHeld2 => ?_)
              clear hK K hHeld
              have hHeld := hHeld2
              clear hHeld2
              try simp only [Act.put, List.setIfInBounds_toArray, List.set_cons_zero, List.set_cons_succ]
              have SB6 := Lib.hid (SB.out.only0 G5.out)
              refine wpAnyH_ready (rs := [4]) (by kernel_rfl) (by simp) ?_
              refine consH rfl (fun K hK => ?_) AllReadyH.nil
              refine El.step_append (E := dE) Try.underlying22 rfl (.tmp 102) (.tmp 104) rfl (.slice A5 n c5) M rfl P5.out.1 _ 1 1 [y] rfl rfl SB6.out (n + 1) (by rw [MLN.out]) (by omega) ?_
              intro A6 c6 w6 h6 g6 l6
              have P6 := Lib.hid h6
              have E6 : Hid (Only [] v9 w6) := E5.out.grown g6 (fun k hk => .inr (P5.out.2 k hk))
              clear h6 g6 l6
              refine hK.out _ _ (BCy.out _ E6.out) (fun hHeld2 => ?_)
              clear hK K hHeld
              have hHeld := hHeld2
              clear hHeld2
              try simp only [Act.put, List.setIfInBounds_toArray, List.set_cons_zero, List.set_cons_succ]
              refine wpAnyH_ready (rs := [5]) (by kernel_rfl) (by simp) ?_
              refine consH rfl (fun K hK => ?_) AllReadyH.nil
              go_simp
              have kr := cRight A6 (n + 1) c6 (M ++ [y]) w6 (by simp [MLN.out]) (by omega) (Dns.of_row (E := dE) rfl P6.out)
              rw [T2.out] at kr
              refine kr.mono ?_
              rintro e w7 ⟨rfl, o7⟩
              have E7 : Hid (Only [] v9 w7) := E6.out.trans' o7
              clear o7 kr
              refine hK.out _ _ (BCy.out _ E7.out) (fun hHeld2 => ?_)
              clear hK K hHeld
              have hHeld := hHeld2
              clear hHeld2
              try simp only [Act.put, List.setIfInBounds_toArray, List.set_cons_zero, List.set_cons_succ]
              refine takeH (i := 6) (v := ?_) rfl (by kernel_rfl) (by kernel_rfl) (by kernel_rfl) (fun _ _ _ h => h) (Or.inl ⟨by rfl, ?_⟩) (by assumption) ?_
              rotate_left 1
              · (intro w hSw; (try dsimp only at hSw); go_simp; try (with_reducible rfl))
              try simp only [Act.put, List.setIfInBounds_toArray, List.set_cons_zero, List.set_cons_succ]
              refine takeH (i := 7) (v := ?_) rfl (by kernel_rfl) (by kernel_rfl) (by kernel_rfl) (fun _ _ _ h => h) (Or.inl ⟨by rfl, ?_⟩) (by assumption) ?_
              rotate_left 1
              · (intro w hSw; (try dsimp only at hSw); go_simp; try (with_reducible rfl))
              try simp only [Act.put, List.setIfInBounds_toArray, List.set_cons_zero, List.set_cons_succ]
              refine wpAnyH_done (by kernel_rfl) ?_ _
              have OE : Hid (Only [] wr w7) := OV9.out.trans' E7.out
              clear hHeld
              go_wp2_with fail
              have OF := Lib.hid (OR.out.trans' OE.out)
              go_ret
              exact ⟨rfl, OF.out.toBelow⟩
          · go_simp
            have EB : Hid (Only [] v7 (v7.drew.alloc (.cells #[.int .i64 x.who, .int .i64 x.place, .int .i64 x.op, .int .i64 x.f, .int .i64 x.a, .int .i64 x.b, .int .i64 x.e, .slice x.A x.m x.c, .int .i64 x.n, .int .u64 x.v, .int .i64 x.fr, .int .i64 x.to] 31))) := Only.trans' ((Only.refl [] v7).drew) ((Only.refl [] v7.drew).alloc _)
            have SB : Hid (dE.Src (v7.drew.alloc (.cells #[.int .i64 x.who, .int .i64 x.place, .int .i64 x.op, .int .i64 x.f, .int .i64 x.a, .int .i64 x.b, .int .i64 x.e, .slice x.A x.m x.c, .int .i64 x.n, .int .u64 x.v, .int .i64 x.fr, .int .i64 x.to] 31)) (some ⟨v7.drew.heap.size, 0, none⟩) [x]) := El.Src.box (E := dE) (x := x) (heap_alloc_new v7.drew _)
            refine hK.out _ _ (BCx.out _ EB.out) (fun hHeld2 => ?_)
            clear hK K hHeld
            have hHeld := hHeld2
            clear hHeld2
            try simp only [Act.put, List.setIfInBounds_toArray, List.set_cons_zero, List.set_cons_succ]
            refine wpAnyH_ready (rs := [1]) (by kernel_rfl) (by simp) ?_
            refine consH rfl (fun K hK => ?_) AllReadyH.nil
            refine El.step_append (E := dE) Try.underlying22 rfl (.const (.slice none 0 0)) (.tmp 86) rfl (.slice none 0 0) [] rfl (El.Row.nil _) (some ⟨g, 0, none⟩) n c2 M rfl MLN.out (El.Src.of_row (RM.out _ (BX1.out.trans' EB.out))) n (by simp) (by omega) ?_
            intro A5 c5 w5 h5 g5 l5
            have P5 : Hid (dE.Row w5 (.slice A5 n c5) M ∧ ∀ k, (Value.slice A5 n c5).ownBlock = some k → v7.heap.size ≤ k) := ⟨by simpa using h5, fun k hk => by
              rcases l5 with l5 | l5
              · rw [hk] at l5; cases l5
              · rw [hk] at l5; injection l5 with l5; rw [l5]; exact (EB.out).size⟩
            have G5 := Lib.hid (Only.grown (Only.refl [] _) g5 (fun k hk => by cases hk))
            have E5 : Hid (Only [] v7 w5) := Only.trans' EB.out G5.out
            clear h5 g5 l5
            refine hK.out _ _ (BCx.out _ E5.out) (fun hHeld2 => ?_)
            clear hK K hHeld
            have hHeld := hHeld2
            clear hHeld2
            try simp only [Act.put, List.setIfInBounds_toArray, List.set_cons_zero, List.set_cons_succ]
            have SB6 := Lib.hid (SB.out.only0 G5.out)
            refine wpAnyH_ready (rs := [4]) (by kernel_rfl) (by simp) ?_
            refine consH rfl (fun K hK => ?_) AllReadyH.nil
            refine El.step_append (E := dE) Try.underlying22 rfl (.tmp 87) (.tmp 89) rfl (.slice A5 n c5) M rfl P5.out.1 _ 1 1 [x] rfl rfl SB6.out (n + 1) (by rw [MLN.out]) (by omega) ?_
            intro A6 c6 w6 h6 g6 l6
            have P6 := Lib.hid h6
            have E6 : Hid (Only [] v7 w6) := E5.out.grown g6 (fun k hk => .inr (P5.out.2 k hk))
            clear h6 g6 l6
            refine hK.out _ _ (BCx.out _ E6.out) (fun hHeld2 => ?_)
            clear hK K hHeld
            have hHeld := hHeld2
            clear hHeld2
            try simp only [Act.put, List.setIfInBounds_toArray, List.set_cons_zero, List.set_cons_succ]
            refine wpAnyH_ready (rs := [5]) (by kernel_rfl) (by simp) ?_
            refine consH rfl (fun K hK => ?_) AllReadyH.nil
            go_simp
            have kr := cRight A6 (n + 1) c6 (M ++ [x]) w6 (by simp [MLN.out]) (by omega) (Dns.of_row (E := dE) rfl P6.out)
            rw [T1.out] at kr
            refine kr.mono ?_
            rintro e w7 ⟨rfl, o7⟩
            have E7 : Hid (Only [] v7 w7) := E6.out.trans' o7
            clear o7 kr
            refine hK.out _ _ (BCx.out _ E7.out) (fun hHeld2 => ?_)
            clear hK K hHeld
            have hHeld := hHeld2
            clear hHeld2
            try simp only [Act.put, List.setIfInBounds_toArray, List.set_cons_zero, List.set_cons_succ]
            refine wpAnyH_done (by kernel_rfl) ?_ _
            have OE : Hid (Only [] wr w7) := BX1.out.trans' E7.out
            clear hHeld
            have BX2 : Hid (∀ V, Only [] w7 V → (V.cell? ⟨bx, 0, none⟩ = some (.int .i64 x.who) ∧ V.cell? ⟨bx, 1, none⟩ = some (.int .i64 x.place) ∧ V.cell? ⟨bx, 2, none⟩ = some (.int .i64 x.op) ∧ V.cell? ⟨bx, 3, none⟩ = some (.int .i64 x.f) ∧ V.cell? ⟨bx, 4, none⟩ = some (.int .i64 x.a) ∧ V.cell? ⟨bx, 5, none⟩ = some (.int .i64 x.b) ∧ V.cell? ⟨bx, 6, none⟩ = some (.int .i64 x.e) ∧ V.cell? ⟨bx, 7, none⟩ = some (.slice x.A x.m x.c) ∧ V.cell? ⟨bx, 8, none⟩ = some (.int .i64 x.n) ∧ V.cell? ⟨bx, 9, none⟩ = some (.int .u64 x.v) ∧ V.cell? ⟨bx, 10, none⟩ = some (.int .i64 x.fr) ∧ V.cell? ⟨bx, 11, none⟩ = some (.int .i64 x.to))) := fun V o => BCx.out V (E7.out.trans' o)
            obtain ⟨x0, x1, x2, x3, x4, x5, x6, x7, x8, x9, x10, x11⟩ := BX2.out w7 (Only.refl _ _)
            have LX : Hid (bx < w7.heap.size) := World.block_lt_of_cell? _ _ x0
            have HB := Lib.hid (heap_alloc_new w7 (.cells #[.int .i64 x.who, .int .i64 x.place, .int .i64 x.op, .int .i64 x.f, .int .i64 x.a, .int .i64 x.b, .int .i64 x.e, .slice x.A x.m x.c, .int .i64 x.n, .int .u64 x.v, .int .i64 x.fr, .int .i64 x.to] 31))
            have AL := Lib.hid (Only.alloc (Only.refl [] w7) (.cells #[.int .i64 x.who, .int .i64 x.place, .int .i64 x.op, .int .i64 x.f, .int .i64 x.a, .int .i64 x.b, .int .i64 x.e, .slice x.A x.m x.c, .int .i64 x.n, .int .u64 x.v, .int .i64 x.fr, .int .i64 x.to] 31))
            have GW : Hid (wr.heap.size ≤ w7.heap.size) := OE.out.size
            go_upto_region 15 with fail
            clear x0 x1 x2 x3 x4 x5 x6 x7 x8 x9 x10 x11
            have OV : Hid (Only [] wr (w7.alloc (.cells #[.int .i64 x.who, .int .i64 x.place, .int .i64 x.op, .int .i64 x.f, .int .i64 x.a, .int .i64 x.b, .int .i64 x.e, .slice x.A x.m x.c, .int .i64 x.n, .int .u64 x.v, .int .i64 x.fr, .int .i64 x.to] 31))) := OE.out.trans' AL.out
            generalize w7.alloc (.cells #[.int .i64 x.who, .int .i64 x.place, .int .i64 x.op, .int .i64 x.f, .int .i64 x.a, .int .i64 x.b, .int .i64 x.e, .slice x.A x.m x.c, .int .i64 x.n, .int .u64 x.v, .int .i64 x.fr, .int .i64 x.to] 31) = v8 at *
            have n1 : ¬ (bx = w7.heap.size) := by have := LX.out; omega
            have n2 : ¬ (w7.heap.size = bx) := by have := LX.out; omega
            generalize w7.heap.size = gy at *
            obtain ⟨-, -, -, -, -, -, -, -, -, -, x10, x11⟩ := BX2.out v8 AL.out
            have z1 : v8.cell? ⟨gy, 1, none⟩ = some (.int .i64 x.place) := by rw [cell_of_row _ _ _ _ _ (0, 0) HB.out]; rfl
            have z10 : v8.cell? ⟨gy, 10, none⟩ = some (.int .i64 x.fr) := by rw [cell_of_row _ _ _ _ _ (0, 0) HB.out]; rfl
            have z11 : v8.cell? ⟨gy, 11, none⟩ = some (.int .i64 x.to) := by rw [cell_of_row _ _ _ _ _ (0, 0) HB.out]; rfl
            have f1 := frozen_of HB.out 1
            have f10 := frozen_of HB.out 10
            have f11 := frozen_of HB.out 11
            obtain ⟨mx, hmx⟩ : ∃ v, max x.fr x.to = v := ⟨_, rfl⟩
            have HMX := Lib.hid hmx
            obtain ⟨y, hy⟩ : ∃ y : Dn, y = { x with place := 100, fr := mx, to := -1 } := ⟨_, rfl⟩
            have T2 : Hid (rightB (M ++ [y]) = false) := not_over (x := x) XM.out XL.out XT.out (by rw [hy]) (by rw [hy]) (by rw [hy, HMX.out])
            have HB9 : Hid ((((v8.setCell ⟨gy, 1, none⟩ (.int .i64 100)).setCell ⟨gy, 10, none⟩ (.int .i64 mx)).setCell ⟨gy, 11, none⟩ (.int .i64 (-1))).heap[gy]? = some (.cells #[.int .i64 y.who, .int .i64 y.place, .int .i64 y.op, .int .i64 y.f, .int .i64 y.a, .int .i64 y.b, .int .i64 y.e, .slice y.A y.m y.c, .int .i64 y.n, .int .u64 y.v, .int .i64 y.fr, .int .i64 y.to] 31 (0, 0))) := by
              show _ = _
              rw [hy]
              simp [World.setCell, Array.getElem?_modify, HB.out]
            have OV9 : Hid (Only [] wr (((v8.setCell ⟨gy, 1, none⟩ (.int .i64 100)).setCell ⟨gy, 10, none⟩ (.int .i64 mx)).setCell ⟨gy, 11, none⟩ (.int .i64 (-1)))) := ((OV.out.setCell (.inr GW.out) _).setCell (.inr GW.out) _).setCell (.inr GW.out) _
            clear hy
            go_upto_region 17 with fail
            clear x10 x11 z1 z10 z11 f1 f10 f11 hmx n1 n2
            generalize ((v8.setCell ⟨gy, 1, none⟩ (.int .i64 100)).setCell ⟨gy, 10, none⟩ (.int .i64 mx)).setCell ⟨gy, 11, none⟩ (.int .i64 (-1)) = v9 at *
            have BCy : Hid (∀ V, Only [] v9 V → (V.cell? ⟨gy, 0, none⟩ = some (.int .i64 y.who) ∧ V.cell? ⟨gy, 0 + 1, none⟩ = some (.int .i64 y.place) ∧ V.cell? ⟨gy, 0 + 2, none⟩ = some (.int .i64 y.op) ∧ V.cell? ⟨gy, 0 + 3, none⟩ = some (.int .i64 y.f) ∧ V.cell? ⟨gy, 0 + 4, none⟩ = some (.int .i64 y.a) ∧ V.cell? ⟨gy, 0 + 5, none⟩ = some (.int .i64 y.b) ∧ V.cell? ⟨gy, 0 + 6, none⟩ = some (.int .i64 y.e) ∧ V.cell? ⟨gy, 0 + 7, none⟩ = some (.slice y.A y.m y.c) ∧ V.cell? ⟨gy, 0 + 8, none⟩ = some (.int .i64 y.n) ∧ V.cell? ⟨gy, 0 + 9, none⟩ = some (.int .u64 y.v) ∧ V.cell? ⟨gy, 0 + 10, none⟩ = some (.int .i64 y.fr) ∧ V.cell? ⟨gy, 0 + 11, none⟩ = some (.int .i64 y.to))) := fun V o => (DnAt.of_cells HB9.out).only0 o
            simp only [Nat.zero_add] at BCy
            refine wp_region_held_drew (S := (fun u' => (u'.cell? ⟨gy, 0, none⟩ = some (.int .i64 y.who) ∧ u'.cell? ⟨gy, 1, none⟩ = some (.int .i64 y.place) ∧ u'.cell? ⟨gy, 2, none⟩ = some (.int .i64 y.op) ∧ u'.cell? ⟨gy, 3, none⟩ = some (.int .i64 y.f) ∧ u'.cell? ⟨gy, 4, none⟩ = some (.int .i64 y.a) ∧ u'.cell? ⟨gy, 5, none⟩ = some (.int .i64 y.b) ∧ u'.cell? ⟨gy, 6, none⟩ = some (.int .i64 y.e) ∧ u'.cell? ⟨gy, 7, none⟩ = some (.slice y.A y.m y.c) ∧ u'.cell? ⟨gy, 8, none⟩ = some (.int .i64 y.n) ∧ u'.cell? ⟨gy, 9, none⟩ = some (.int .u64 y.v) ∧ u'.cell? ⟨gy, 10, none⟩ = some (.int .i64 y.fr) ∧ u'.cell? ⟨gy, 11, none⟩ = some (.int .i64 y.to)))) (by kernel_rfl) (BCy.out _ ((Only.refl [] v9).drew)) (fun hHeld => ?_)
            refine takeH (i := 0) (v := ?_) rfl (by kernel_rfl) (by kernel_rfl) (by kernel_rfl) (fun _ _ _ h => h) (Or.inl ⟨by rfl, ?_⟩) (by assumption) ?_
            rotate_left 1
            · (intro w hSw; (try dsimp only at hSw); go_simp; try (with_reducible rfl))
            try simp only [Act.put, List.setIfInBounds_toArray, List.set_cons_zero, List.set_cons_succ]
            refine takeH (i := 2) (v := ?_) rfl (by kernel_rfl) (by kernel_rfl) (by kernel_rfl) (fun _ _ _ h => h) (Or.inl ⟨by rfl, ?_⟩) (by assumption) ?_
            rotate_left 1
            · (intro w hSw; (try dsimp only at hSw); go_simp; try (with_reducible rfl))
            try simp only [Act.put, List.setIfInBounds_toArray, List.set_cons_zero, List.set_cons_succ]
            refine wpAnyH_ready (rs := [1, 3]) (by kernel_rfl) (by simp) ?_
            refine consH rfl (fun K hK => ?_) (consH rfl (fun K hK => ?_) AllReadyH.nil)
            · refine El.step_append (E := dE) Try.underlying22 rfl (.const (.slice none 0 0)) (.tmp 101) rfl (.slice none 0 0) [] rfl (El.Row.nil _) (some ⟨g, 0, none⟩) n c2 M rfl MLN.out (El.Src.of_row (RM.out _ (OV9.out.trans' ((Only.refl [] v9).drew)))) n (by simp) (by omega) ?_
              intro A5 c5 w5 h5 g5 l5
              have P5 : Hid (dE.Row w5 (.slice A5 n c5) M ∧ ∀ k, (Value.slice A5 n c5).ownBlock = some k → v9.heap.size ≤ k) := ⟨by simpa using h5, fun k hk => by
                rcases l5 with l5 | l5
                · rw [hk] at l5; cases l5
                · rw [hk] at l5; injection l5 with l5; rw [l5]; exact (((Only.refl [] v9).drew)).size⟩
              have G5 := Lib.hid (Only.grown (Only.refl [] _) g5 (fun k hk => by cases hk))
              have E5 : Hid (Only [] v9 w5) := Only.trans' ((Only.refl [] v9).drew) G5.out
              clear h5 g5 l5
              refine hK.out _ _ (BCy.out _ E5.out) (fun hHeld2 => ?_)
              clear hK K hHeld
              have hHeld := hHeld2
              clear hHeld2
              try simp only [Act.put, List.setIfInBounds_toArray, List.set_cons_zero, List.set_cons_succ]
              refine wpAnyH_ready (rs := [3]) (by kernel_rfl) (by simp) ?_
              refine consH rfl (fun K hK => ?_) AllReadyH.nil
              go_simp
              have EB : Hid (Only [] v9 (w5.alloc (.cells #[.int .i64 y.who, .int .i64 y.place, .int .i64 y.op, .int .i64 y.f, .int .i64 y.a, .int .i64 y.b, .int .i64 y.e, .slice y.A y.m y.c, .int .i64 y.n, .int .u64 y.v, .int .i64 y.fr, .int .i64 y.to] 31))) := Only.trans' E5.out ((Only.refl [] w5).alloc _)
              have SB : Hid (dE.Src (w5.alloc (.cells #[.int .i64 y.who, .int .i64 y.place, .int .i64 y.op, .int .i64 y.f, .int .i64 y.a, .int .i64 y.b, .int .i64 y.e, .slice y.A y.m y.c, .int .i64 y.n, .int .u64 y.v, .int .i64 y.fr, .int .i64 y.to] 31)) (some ⟨w5.heap.size, 0, none⟩) [y]) := El.Src.box (E := dE) (x := y) (heap_alloc_new w5 _)
              refine hK.out _ _ (BCy.out _ EB.out) (fun hHeld2 => ?_)
              clear hK K hHeld
              have hHeld := hHeld2
              clear hHeld2
              try simp only [Act.put, List.setIfInBounds_toArray, List.set_cons_zero, List.set_cons_succ]
              refine wpAnyH_ready (rs := [4]) (by kernel_rfl) (by simp) ?_
              refine consH rfl (fun K hK => ?_) AllReadyH.nil
              refine El.step_append (E := dE) Try.underlying22 rfl (.tmp 102) (.tmp 104) rfl (.slice A5 n c5) M rfl (P5.out.1.only0 ((Only.refl [] w5).alloc _)) _ 1 1 [y] rfl rfl SB.out (n + 1) (by rw [MLN.out]) (by omega) ?_
              intro A6 c6 w6 h6 g6 l6
              have P6 := Lib.hid h6
              have E6 : Hid (Only [] v9 w6) := EB.out.grown g6 (fun k hk => .inr (P5.out.2 k hk))
              clear h6 g6 l6
              refine hK.out _ _ (BCy.out _ E6.out) (fun hHeld2 => ?_)
              clear hK K hHeld
              have hHeld := hHeld2
              clear hHeld2
              try simp only [Act.put, List.setIfInBounds_toArray, List.set_cons_zero, List.set_cons_succ]
              refine wpAnyH_ready (rs := [5]) (by kernel_rfl) (by simp) ?_
              refine consH rfl (fun K hK => ?_) AllReadyH.nil
              go_simp
              have kr := cRight A6 (n + 1) c6 (M ++ [y]) w6 (by simp [MLN.out]) (by omega) (Dns.of_row (E := dE) rfl P6.out)
              rw [T2.out] at kr
              refine kr.mono ?_
              rintro e w7 ⟨rfl, o7⟩
              have E7 : Hid (Only [] v9 w7) := E6.out.trans' o7
              clear o7 kr
              refine hK.out _ _ (BCy.out _ E7.out) (fun hHeld2 => ?_)
              clear hK K hHeld
              have hHeld := hHeld2
              clear hHeld2
              try simp only [Act.put, List.setIfInBounds_toArray, List.set_cons_zero, List.set_cons_succ]
              refine takeH (i := 6) (v := ?_) rfl (by kernel_rfl) (by kernel_rfl) (by kernel_rfl) (fun _ _ _ h => h) (Or.inl ⟨by rfl, ?_⟩) (by assumption) ?_
              rotate_left 1
              · (intro w hSw; (try dsimp only at hSw); go_simp; try (with_reducible rfl))
              try simp only [Act.put, List.setIfInBounds_toArray, List.set_cons_zero, List.set_cons_succ]
              refine takeH (i := 7) (v := ?_) rfl (by kernel_rfl) (by kernel_rfl) (by kernel_rfl) (fun _ _ _ h => h) (Or.inl ⟨by rfl, ?_⟩) (by assumption) ?_
              rotate_left 1
              · (intro w hSw; (try dsimp only at hSw); go_simp; try (with_reducible rfl))
              try simp only [Act.put, List.setIfInBounds_toArray, List.set_cons_zero, List.set_cons_succ]
              refine wpAnyH_done (by kernel_rfl) ?_ _
              have OE : Hid (Only [] wr w7) := OV9.out.trans' E7.out
              clear hHeld
              go_wp2_with fail
              have OF := Lib.hid (OR.out.trans' OE.out)
              go_ret
              exact ⟨rfl, OF.out.toBelow⟩
            · go_simp
              have EB : Hid (Only [] v9 (v9.drew.alloc (.cells #[.int .i64 y.who, .int .i64 y.place, .int .i64 y.op, .int .i64 y.f, .int .i64 y.a, .int .i64 y.b, .int .i64 y.e, .slice y.A y.m y.c, .int .i64 y.n, .int .u64 y.v, .int .i64 y.fr, .int .i64 y.to] 31))) := Only.trans' ((Only.refl [] v9).drew) ((Only.refl [] v9.drew).alloc _)
              have SB : Hid (dE.Src (v9.drew.alloc (.cells #[.int .i64 y.who, .int .i64 y.place, .int .i64 y.op, .int .i64 y.f, .int .i64 y.a, .int .i64 y.b, .int .i64 y.e, .slice y.A y.m y.c, .int .i64 y.n, .int .u64 y.v, .int .i64 y.fr, .int .i64 y.to] 31)) (some ⟨v9.drew.heap.size, 0, none⟩) [y]) := El.Src.box (E := dE) (x := y) (heap_alloc_new v9.drew _)
              refine hK.out _ _ (BCy.out _ EB.out) (fun hHeld2 => ?_)
              clear hK K hHeld
              have hHeld := hHeld2
              clear hHeld2
              try simp only [Act.put, List.setIfInBounds_toArray, List.set_cons_zero, List.set_cons_succ]
              refine wpAnyH_ready (rs := [1]) (by kernel_rfl) (by simp) ?_
              refine consH rfl (fun K hK => ?_) AllReadyH.nil
              refine El.step_append (E := dE) Try.underlying22 rfl (.const (.slice none 0 0)) (.tmp 101) rfl (.slice none 0 0) [] rfl (El.Row.nil _) (some ⟨g, 0, none⟩) n c2 M rfl MLN.out (El.Src.of_row (RM.out _ (OV9.out.trans' EB.out))) n (by simp) (by omega) ?_
              intro A5 c5 w5 h5 g5 l5
              have P5 : Hid (dE.Row w5 (.slice A5 n c5) M ∧ ∀ k, (Value.slice A5 n c5).ownBlock = some k → v9.heap.size ≤ k) := ⟨by simpa using h5, fun k hk => by
                rcases l5 with l5 | l5
                · rw [hk] at l5; cases l5
                · rw [hk] at l5; injection l5 with l5; rw [l5]; exact (EB.out).size⟩
              have G5 := Lib.hid (Only.grown (Only.refl [] _) g5 (fun k hk => by cases hk))
              have E5 : Hid (Only [] v9 w5) := Only.trans' EB.out G5.out
              clear h5 g5 l5
              refine hK.out _ _ (BCy.out _ E5.out) (fun hHeld2 => ?_)
              clear hK K hHeld
              have hHeld := hHeld2
              clear hHeld2
              try simp only [Act.put, List.setIfInBounds_toArray, List.set_cons_zero, List.set_cons_succ]
              have SB6 := Lib.hid (SB.out.only0 G5.out)
              refine wpAnyH_ready (rs := [4]) (by kernel_rfl) (by simp) ?_
              refine consH rfl (fun K hK => ?_) AllReadyH.nil
              refine El.step_append (E := dE) Try.underlying22 rfl (.tmp 102) (.tmp 104) rfl (.slice A5 n c5) M rfl P5.out.1 _ 1 1 [y] rfl rfl SB6.out (n + 1) (by rw [MLN.out]) (by omega) ?_
              intro A6 c6 w6 h6 g6 l6
              have P6 := Lib.hid h6
              have E6 : Hid (Only [] v9 w6) := E5.out.grown g6 (fun k hk => .inr (P5.out.2 k hk))
              clear h6 g6 l6
              refine hK.out _ _ (BCy.out _ E6.out) (fun hHeld2 => ?_)
              clear hK K hHeld
              have hHeld := hHeld2
              clear hHeld2
              try simp only [Act.put, List.setIfInBounds_toArray, List.set_cons_zero, List.set_cons_succ]
              refine wpAnyH_ready (rs := [5]) (by kernel_rfl) (by simp) ?_
              refine consH rfl (fun K hK => ?_) AllReadyH.nil
              go_simp
              have kr := cRight A6 (n + 1) c6 (M ++ [y]) w6 (by simp [MLN.out]) (by omega) (Dns.of_row (E := dE) rfl P6.out)
              rw [T2.out] at kr
              refine kr.mono ?_
              rintro e w7 ⟨rfl, o7⟩
              have E7 : Hid (Only [] v9 w7) := E6.out.trans' o7
              clear o7 kr
              refine hK.out _ _ (BCy.out _ E7.out) (fun hHeld2 => ?_)
              clear hK K hHeld
              have hHeld := hHeld2
              clear hHeld2
              try simp only [Act.put, List.setIfInBounds_toArray, List.set_cons_zero, List.set_cons_succ]
              refine takeH (i := 6) (v := ?_) rfl (by kernel_rfl) (by kernel_rfl) (by kernel_rfl) (fun _ _ _ h => h) (Or.inl ⟨by rfl, ?_⟩) (by assumption) ?_
              rotate_left 1
              · (intro w hSw; (try dsimp only at hSw); go_simp; try (with_reducible rfl))
              try simp only [Act.put, List.setIfInBounds_toArray, List.set_cons_zero, List.set_cons_succ]
              refine takeH (i := 7) (v := ?_) rfl (by kernel_rfl) (by kernel_rfl) (by kernel_rfl) (fun _ _ _ h => h) (Or.inl ⟨by rfl, ?_⟩) (by assumption) ?_
              rotate_left 1
              · (intro w hSw; (try dsimp only at hSw); go_simp; try (with_reducible rfl))
              try simp only [Act.put, List.setIfInBounds_toArray, List.set_cons_zero, List.set_cons_succ]
              refine wpAnyH_done (by kernel_rfl) ?_ _
              have OE : Hid (Only [] wr w7) := OV9.out.trans' E7.out
              clear hHeld
              go_wp2_with fail
              have OF := Lib.hid (OR.out.trans' OE.out)
              go_ret
              exact ⟨rfl, OF.out.toBelow⟩

/-! ### The step from the walk to the statement -/
set_option maxRecDepth 100000 in
theorem contract (H : Type) (enc : TypeId × Value → H) (W : World) (base : Nat) (args : Array Value) (ds gs : List (DataW H)) (before : List MemPlace)
    (hval0 : ∀ (j : Nat) t v, Try.f4.params[j]? = some t → args[j]? = some v → Value.okWide Try.prog W .any base t v)
    (hW : DataW.Whole enc Try.prog Try.f4.params.toList Rows.histLaidSpec.vars false W args.toList ds gs before) :
    Calls Try.prog 4 args W fun e W' => ∃ v, e = .returned v ∧ Rows.histLaidSpec.post enc Try.prog Try.f4 false true false false W args v W' := by
  have hval : ∀ (j : Nat) t v, Try.f4.params[j]? = some t → args[j]? = some v → Value.okWide Try.prog W .any base t v := hval0
  have hW' := hW
  obtain ⟨p, q, hA0, hV, rfl, hfz, hnd⟩ := hW
  have hA : DataW.TrodAll enc Try.prog W 0 (fun _ => true) true Try.f4.params.toList args.toList ds p := hA0
  rw [Try.params4] at hA hval
  obtain ⟨v0, vs0, d0, ds0, pl0, ql0, hargs, rfl, rfl, h0, r0⟩ := trodAll_cons hA
  obtain ⟨v1, vs1, d1, ds1, pl1, ql1, rfl, rfl, rfl, h1, r1⟩ := trodAll_cons r0
  obtain ⟨v2, vs2, d2, ds2, pl2, ql2, rfl, rfl, rfl, h2, r2⟩ := trodAll_cons r1
  obtain ⟨rfl, rfl, rfl⟩ := trodAll_nil r2
  obtain rfl : args = #[v0, v1, v2] := by cases args; simp_all
  obtain ⟨rfl, rfl⟩ := trodVars_none hV
  obtain ⟨a0, len0, cap0, rfl⟩ := okWide_slice Try.underlying22 (hval 0 22 v0 rfl rfl)
  have k0 := h0
  have lt0 : ∀ x ∈ pl0, x.block < W.heap.size := by obtain ⟨m, hm⟩ := k0; exact DataW.trod_lt m _ _ _ hm
  obtain ⟨z0, p0, w0, q0, sb0⟩ : ∃ (z : Nat → Dn) (p : Nat → List Pk), InDns W a0 len0 z ∧ (∀ k, k < len0 → InPk W (z k) (p k)) ∧ ∀ k, k < len0 → (z k).m ≤ Rows.uptoBulk d0 := by
    obtain ⟨fuel, hf⟩ := h0
    exact open_dones hf
  obtain ⟨a1, len1, cap1, rfl⟩ := okWide_slice Try.underlying39 (hval 1 39 v1 rfl rfl)
  have k1 := h1
  have lt1 : ∀ x ∈ pl1, x.block < W.heap.size := by obtain ⟨m, hm⟩ := k1; exact DataW.trod_lt m _ _ _ hm
  obtain ⟨z1, w1⟩ : ∃ z, InNums .i64 W a1 len1 z := by
    obtain ⟨fuel, hf⟩ := h1
    exact open_ints2 hf
  obtain ⟨a2, rfl, rfl, rfl, w2⟩ := open_int Try.underlying3 (hval 2 3 v2 rfl rfl) h2
  clear hA0 hval0
  refine (walk a0 len0 cap0 z0 p0 a1 len1 cap1 z1 a2 W w0 q0 w1 w2).mono fun e W' ⟨he, bel⟩ => ?_
  subst he
  exact ⟨_, rfl, _, _, _, [], _, [], hW', trodAll_mk1 (shut_bool Try.underlying4 _), (trodAll_cons_mk (Below.trod laidOut (by kernel_rfl) (of_decide_eq_true (by kernel_rfl)) k0 bel lt0) (trodAll_cons_mk (Below.trod laidOut (by kernel_rfl) (of_decide_eq_true (by kernel_rfl)) k1 bel lt1) (trodAll_cons_mk (shut_int Try.underlying3 w2) trodAll_mk0))), rfl, bel.frame _, fun h => by cases h⟩

set_option maxRecDepth 100000 in
theorem lifted (os : Os) (started : os.Started) (H : Type) (enc : TypeId × Value → H) :
    ReturnsInHanded {} Try.checked os 4 .any (Rows.histLaidSpec.pre6 enc Try.prog Try.f4 Rows.histLaidRow.domain false) (Rows.histLaidSpec.post enc Try.prog Try.f4 false true false false) := by
  refine returnsInHanded_of_change (C := Try.checked) own started (by kernel_rfl) Try.func4
    (ChangeSpec.witness6 (enc := enc) (C := Try.checked) false ⟨#[], #[.slice none 0 0, .slice none 0 0, .int .i64 0], []⟩ 8 (by kernel_rfl) (by kernel_rfl) (by kernel_rfl) (by kernel_rfl)) ?_
  intro W base args ds gs before hval0 hW hcnd _
  exact contract H enc W base args ds gs before hval0 hW
theorem over : Rows.histLaidRow.holds Try.pinned (OpenSpec.ofChange Rows.histLaidSpec) :=
  OpenClaim.holds_of_wide 4 Try.f4 rfl rfl rfl rfl rfl rfl rfl ⟨rfl, rfl, rfl, rfl, rfl⟩ rfl rfl rfl rfl rfl (by kernel_rfl) Try.func4 (by kernel_rfl)
    (of_decide_eq_true (by kernel_rfl)) (by unfold Func.isWrapper; first | (rw [if_pos (by decide +kernel)]; kernel_rfl) | (rw [if_neg (by decide +kernel)]; exact ⟨rfl, rfl⟩))
    (fun os started H enc _ => lifted os started H enc)

/-- The statement. -/
theorem proved : Rows.HistLaidSaid := over
#print axioms proved
end Go.Proofs.Ytocokmjobbmodaa.histLaid
