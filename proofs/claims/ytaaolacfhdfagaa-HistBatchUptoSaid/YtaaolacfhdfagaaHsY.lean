/-
  What is held against each other: packets, answers, calls, rows of calls (where they are the same).
-/
import Derived.Test.YtaaolacfhdfagaaHsQ
import Derived.Laws.StructEq
namespace Go.Proofs.Ytaaolacfhdfagaa
set_option maxRecDepth 100000
open Go.RowKit
set_option linter.unusedVariables false
set_option linter.unusedSimpArgs false
set_option maxRecDepth 100000

set_option maxHeartbeats 1000000
theorem pk_held : Try.prog.stoodInHeld 45 = false := by kernel_rfl
theorem pk_struct : Try.prog.underlying 45 = some (.struct (Try.prog.fieldsOf 45)) := by kernel_rfl
theorem pk_eql (x : Pk) (w : World) : (binOp .eql 45 (.agg #[.int .i64 x.f, .int .i64 x.l, .int .i64 x.m]) (.agg #[.int .i64 x.f, .int .i64 x.l, .int .i64 x.m])).run Try.prog w = .ok (.bool true) w := by
  have u1 := Try.underlying3
  have a1 := Try.isAgg3
  have z1 := Try.sizeOf3
  rw [run_eql_struct, show (10000 : Nat) = 9999 + 1 from rfl, run_equalIn_agg w 9999 45 _ _ pk_struct pk_held]
  simp only [Program.fieldsOf, Try.underlying45]
  go_simp
theorem cl_held : Try.prog.stoodInHeld 23 = false := by kernel_rfl
theorem cl_struct : Try.prog.underlying 23 = some (.struct (Try.prog.fieldsOf 23)) := by kernel_rfl
theorem cl_eql (p q r s : Int) (w : World) : (binOp .eql 23 (.agg #[.int .i64 p, .int .i64 q, .int .i64 r, .int .i64 s]) (.agg #[.int .i64 p, .int .i64 q, .int .i64 r, .int .i64 s])).run Try.prog w = .ok (.bool true) w := by
  have u1 := Try.underlying3
  have a1 := Try.isAgg3
  have z1 := Try.sizeOf3
  rw [run_eql_struct, show (10000 : Nat) = 9999 + 1 from rfl, run_equalIn_agg w 9999 23 _ _ cl_struct cl_held]
  simp only [Program.fieldsOf, Try.underlying23]
  go_simp
theorem pPlain1 (x : Pk) (w : World) : Calls Try.prog 21 #[.agg #[.int .i64 x.f, .int .i64 x.l, .int .i64 x.m], .agg #[.int .i64 x.f, .int .i64 x.l, .int .i64 x.m]] w fun e w' => e = .returned (.bool true) ∧ Only [] w w' := by
  have he := pk_eql x
  go_enter Try.func21, Try.ntmps21
  go_wp2
  go_ret
  exact ⟨rfl, by first | exact ((Only.refl _ _).alloc _).alloc _ | exact (Only.refl _ _).alloc _ | exact Only.refl _ _⟩
theorem pSame (w : World) (A1 A2 : Option Addr) (m c1 c2 : Nat) (ps : List Pk) (hm : ps.length = m) (hb : m ≤ 1048576) (h1 : pE.Src w A1 ps) (h2 : pE.Src w A2 ps) :
    Calls Try.prog 20 #[.slice A1 m c1, .slice A2 m c2, .func (.func 21) #[] #[]] w fun e w' => e = .returned (.bool true) ∧ Only [] w w' := by
  have R1 := Lib.hid h1
  have R2 := Lib.hid h2
  have HM := Lib.hid hm
  clear h1 h2 hm
  go_enter Try.func20, Try.ntmps20
  go_wp2_with fail
  go_loopg [7] (m + 1) (fun gk si wr => ∃ k : Nat, si = .int .i64 (k : Int) ∧ k ≤ m ∧ m + 1 ≤ gk + k ∧ Hid (Only [] w wr))
  case atStart => exact ⟨0, rfl, by omega, by omega, Only.refl [] w⟩
  case round =>
    obtain ⟨k, rfl, hk, hg, O⟩ := hrel
    by_cases hlt : k < m
    · have hlt' : (k : Int) < (m : Int) := by omega
      obtain ⟨p, hp⟩ : ∃ p, ps[k]? = some p := ⟨_, List.getElem?_eq_getElem (by have := HM.out; omega)⟩
      obtain ⟨ad1, b1, o1, s1, rfl, e1, x0, x1, x2⟩ := src_at (R1.out.only0 O.out) hp
      obtain ⟨ad2, b2, o2, s2, rfl, e2, y0, y1, y2⟩ := src_at (R2.out.only0 O.out) hp
      have p1 := Lib.hid (fun (V : World) => pPlain1 p V)
      have CEL : Hid (∀ V, Only [] wr V → (V.cell? ⟨b1, o1, s1⟩ = some (.int .i64 p.f) ∧ V.cell? ⟨b1, o1 + 1, none⟩ = some (.int .i64 p.l) ∧ V.cell? ⟨b1, o1 + 2, none⟩ = some (.int .i64 p.m)) ∧ V.cell? ⟨b2, o2, s2⟩ = some (.int .i64 p.f) ∧ V.cell? ⟨b2, o2 + 1, none⟩ = some (.int .i64 p.l) ∧ V.cell? ⟨b2, o2 + 2, none⟩ = some (.int .i64 p.m)) := fun V o => ⟨⟨o.kp x0, o.kp x1, o.kp x2⟩, o.kp y0, o.kp y1, o.kp y2⟩
      clear hp
      go_upto_region 6 with fail
      refine wp_region_held_drew (S := (fun V => (V.cell? ⟨b1, o1, s1⟩ = some (.int .i64 p.f) ∧ V.cell? ⟨b1, o1 + 1, none⟩ = some (.int .i64 p.l) ∧ V.cell? ⟨b1, o1 + 2, none⟩ = some (.int .i64 p.m)) ∧ V.cell? ⟨b2, o2, s2⟩ = some (.int .i64 p.f) ∧ V.cell? ⟨b2, o2 + 1, none⟩ = some (.int .i64 p.l) ∧ V.cell? ⟨b2, o2 + 2, none⟩ = some (.int .i64 p.m))) (by kernel_rfl) (CEL.out _ ((Only.refl [] wr).drew)) (fun hHeld => ?_)
      refine takeH (i := 0) (v := ?_) rfl (by kernel_rfl) (by kernel_rfl) (by kernel_rfl) (fun _ _ _ h => h) (Or.inl ⟨by rfl, ?_⟩) (by assumption) ?_
      rotate_left 1
      · (intro w hSw; (try dsimp only at hSw); go_simp; try (with_reducible rfl))
      try simp only [Act.put, List.setIfInBounds_toArray, List.set_cons_zero, List.set_cons_succ]
      refine takeH (i := 1) (v := ?_) rfl (by kernel_rfl) (by kernel_rfl) (by kernel_rfl) (fun _ _ _ h => h) (Or.inl ⟨by rfl, ?_⟩) (by assumption) ?_
      rotate_left 1
      · (intro w hSw; (try dsimp only at hSw); go_simp; try (with_reducible rfl))
      try simp only [Act.put, List.setIfInBounds_toArray, List.set_cons_zero, List.set_cons_succ]
      refine takeH (i := 2) (v := ?_) rfl (by kernel_rfl) (by kernel_rfl) (by kernel_rfl) (fun _ _ _ h => h) (Or.inl ⟨by rfl, ?_⟩) (by assumption) ?_
      rotate_left 1
      · (intro w hSw; (try dsimp only at hSw); go_simp; try (with_reducible rfl))
      try simp only [Act.put, List.setIfInBounds_toArray, List.set_cons_zero, List.set_cons_succ]
      refine takeH (i := 3) (v := ?_) rfl (by kernel_rfl) (by kernel_rfl) (by kernel_rfl) (fun _ _ _ h => h) (Or.inl ⟨by rfl, ?_⟩) (by assumption) ?_
      rotate_left 1
      · (intro w hSw; (try dsimp only at hSw); go_simp; try (with_reducible rfl))
      try simp only [Act.put, List.setIfInBounds_toArray, List.set_cons_zero, List.set_cons_succ]
      refine takeH (i := 4) (v := ?_) rfl (by kernel_rfl) (by kernel_rfl) (by kernel_rfl) (fun _ _ _ h => h) (Or.inl ⟨by rfl, ?_⟩) (by assumption) ?_
      rotate_left 1
      · (intro w hSw; (try dsimp only at hSw); go_simp; try (with_reducible rfl))
      try simp only [Act.put, List.setIfInBounds_toArray, List.set_cons_zero, List.set_cons_succ]
      refine takeH (i := 5) (v := ?_) rfl (by kernel_rfl) (by kernel_rfl) (by kernel_rfl) (fun _ _ _ h => h) (Or.inl ⟨by rfl, ?_⟩) (by assumption) ?_
      rotate_left 1
      · (intro w hSw; (try dsimp only at hSw); go_simp; try (with_reducible rfl))
      try simp only [Act.put, List.setIfInBounds_toArray, List.set_cons_zero, List.set_cons_succ]
      refine takeH (i := 6) (v := ?_) rfl (by kernel_rfl) (by kernel_rfl) (by kernel_rfl) (fun _ _ _ h => h) (Or.inl ⟨by rfl, ?_⟩) (by assumption) ?_
      rotate_left 1
      · (intro w hSw; (try dsimp only at hSw); go_simp; try (with_reducible rfl))
      try simp only [Act.put, List.setIfInBounds_toArray, List.set_cons_zero, List.set_cons_succ]
      refine takeH (i := 7) (v := ?_) rfl (by kernel_rfl) (by kernel_rfl) (by kernel_rfl) (fun _ _ _ h => h) (Or.inl ⟨by rfl, ?_⟩) (by assumption) ?_
      rotate_left 1
      · (intro w hSw; (try dsimp only at hSw); go_simp; try (with_reducible rfl))
      try simp only [Act.put, List.setIfInBounds_toArray, List.set_cons_zero, List.set_cons_succ]
      refine takeH (i := 8) (v := ?_) rfl (by kernel_rfl) (by kernel_rfl) (by kernel_rfl) (fun _ _ _ h => h) (Or.inl ⟨by rfl, ?_⟩) (by assumption) ?_
      rotate_left 1
      · (intro w hSw; (try dsimp only at hSw); go_simp; try (with_reducible rfl))
      try simp only [Act.put, List.setIfInBounds_toArray, List.set_cons_zero, List.set_cons_succ]
      refine wpAnyH_ready (rs := [9]) (by kernel_rfl) (by simp) ?_
      refine consH rfl (fun K hK => ?_) AllReadyH.nil
      go_simp
      refine (p1.out _).mono ?_
      rintro e w5 ⟨rfl, o5⟩
      have O5 := Lib.hid ((Only.drew (Only.refl [] wr)).trans' o5)
      clear o5
      refine hK.out _ _ (CEL.out _ O5.out) (fun hHeld2 => ?_)
      clear hK K hHeld
      have hHeld := hHeld2
      clear hHeld2
      try simp only [Act.put, List.setIfInBounds_toArray, List.set_cons_zero, List.set_cons_succ]
      refine takeH (i := 10) (v := ?_) rfl (by kernel_rfl) (by kernel_rfl) (by kernel_rfl) (fun _ _ _ h => h) (Or.inl ⟨by rfl, ?_⟩) (by assumption) ?_
      rotate_left 1
      · (intro w hSw; (try dsimp only at hSw); go_simp; try (with_reducible rfl))
      try simp only [Act.put, List.setIfInBounds_toArray, List.set_cons_zero, List.set_cons_succ]
      refine wpAnyH_done (by kernel_rfl) ?_ _
      have O6 : Hid (Only [] w w5) := O.out.trans' O5.out
      clear x0 x1 x2 y0 y1 y2 CEL
      go_wp2_with fail
      go_roundg (m + 1 - (k + 1))
      case measure => omega
      case rel => exact ⟨k + 1, by simp, by omega, by omega, O6⟩
    · have hpl' : decide ((k : Int) < (m : Int)) = false := decide_eq_false (by omega)
      have hpl'' : ¬ ((k : Int) < (m : Int)) := by omega
      go_wp2_with fail
      go_ret
      exact ⟨rfl, O.out⟩
theorem pPlain (w : World) (A1 A2 : Option Addr) (m c1 c2 : Nat) (ps : List Pk) (hm : ps.length = m) (hb : m ≤ 1048576) (h1 : pE.Src w A1 ps) (h2 : pE.Src w A2 ps) :
    Calls Try.prog 13 #[.slice A1 m c1, .slice A2 m c2] w fun e w' => e = .returned (.bool true) ∧ Only [] w w' := by
  have hs := pSame w A1 A2 m c1 c2 ps hm hb h1 h2
  clear h1 h2 hm
  go_enter Try.func13, Try.ntmps13
  go_wp2_with fail
  refine hs.mono ?_
  rintro e w2 ⟨rfl, o2⟩
  go_wp2_with fail
  go_ret
  exact ⟨rfl, o2⟩
theorem kRet (e0 n v : Int) (w : World) (A1 A2 : Option Addr) (m c1 c2 : Nat) (ps : List Pk) (hm : ps.length = m) (hb : m ≤ 1048576) (h1 : pE.Src w A1 ps) (h2 : pE.Src w A2 ps) :
    Calls Try.prog 8 #[.agg #[.int .i64 e0, .slice A1 m c1, .int .i64 n, .int .u64 v], .agg #[.int .i64 e0, .slice A2 m c2, .int .i64 n, .int .u64 v]] w fun e w' => e = .returned (.bool true) ∧ Only [] w w' := by
  have o : Only [] w ((w.alloc (.cells #[.int .i64 e0, .slice A1 m c1, .int .i64 n, .int .u64 v] 28)).alloc (.cells #[.int .i64 e0, .slice A2 m c2, .int .i64 n, .int .u64 v] 28)) := ((Only.refl [] w).alloc _).alloc _
  have kP := pPlain _ A1 A2 m c1 c2 ps hm hb (h1.only0 o) (h2.only0 o)
  have t1 : (e0 == e0) = true := by simp
  have t2 : (n == n) = true := by simp
  have t3 : (v == v) = true := by simp
  have HO := Lib.hid o
  clear h1 h2 o hm
  go_enter Try.func8, Try.ntmps8
  go_wp2_with fail
  refine kP.mono ?_
  rintro e W2 ⟨rfl, o2⟩
  have HO2 := Lib.hid (HO.out.trans' o2)
  clear kP o2
  go_wp2_with fail
  go_ret
  exact ⟨rfl, HO2.out⟩
theorem kDone (x : Dn) (w : World) (A1 A2 : Option Addr) (m c1 c2 : Nat) (ps : List Pk) (hm : ps.length = m) (hb : m ≤ 1048576) (h1 : pE.Src w A1 ps) (h2 : pE.Src w A2 ps) :
    Calls Try.prog 7 #[.agg #[.int .i64 x.who, .int .i64 x.place, .int .i64 x.op, .int .i64 x.f, .int .i64 x.a, .int .i64 x.b, .int .i64 x.e, .slice A1 m c1, .int .i64 x.n, .int .u64 x.v, .int .i64 x.fr, .int .i64 x.to], .agg #[.int .i64 x.who, .int .i64 x.place, .int .i64 x.op, .int .i64 x.f, .int .i64 x.a, .int .i64 x.b, .int .i64 x.e, .slice A2 m c2, .int .i64 x.n, .int .u64 x.v, .int .i64 x.fr, .int .i64 x.to]] w fun e w' => e = .returned (.bool true) ∧ Only [] w w' := by
  have BX := box2 w { x with A := A1, m := m, c := c1 } { x with A := A2, m := m, c := c2 } 30
  dsimp only at BX
  have kR := kRet x.e x.n x.v _ A1 A2 m c1 c2 ps hm hb (h1.only0 BX.out.1) (h2.only0 BX.out.1)
  have ce := cl_eql x.op x.f x.a x.b
  have t1 : (x.who == x.who) = true := by simp
  have t2 : (x.place == x.place) = true := by simp
  have t3 : (x.fr == x.fr) = true := by simp
  have t4 : (x.to == x.to) = true := by simp
  obtain ⟨x0, x1, x2, x3, x4, x5, x6, x7, x8, x9, x10, x11⟩ := (BX.out.2 _ (Only.refl _ _)).1; (try simp only [Nat.zero_add] at x0 x1 x2 x3 x4 x5 x6 x7 x8 x9 x10 x11)
  obtain ⟨y0, y1, y2, y3, y4, y5, y6, y7, y8, y9, y10, y11⟩ := (BX.out.2 _ (Only.refl _ _)).2; (try simp only [Nat.zero_add] at y0 y1 y2 y3 y4 y5 y6 y7 y8 y9 y10 y11)
  have O0 := Lib.hid BX.out.1
  clear BX h1 h2 hm
  go_enter Try.func7, Try.ntmps7
  go_upto_region 1 with fail
  generalize (w.alloc (.cells #[.int .i64 x.who, .int .i64 x.place, .int .i64 x.op, .int .i64 x.f, .int .i64 x.a, .int .i64 x.b, .int .i64 x.e, .slice A1 m c1, .int .i64 x.n, .int .u64 x.v, .int .i64 x.fr, .int .i64 x.to] 30)).alloc (.cells #[.int .i64 x.who, .int .i64 x.place, .int .i64 x.op, .int .i64 x.f, .int .i64 x.a, .int .i64 x.b, .int .i64 x.e, .slice A2 m c2, .int .i64 x.n, .int .u64 x.v, .int .i64 x.fr, .int .i64 x.to] 30) = W at *
  go_wp2_with fail
  refine kR.mono ?_
  rintro e W2 ⟨rfl, o2⟩
  have HO2 := Lib.hid (O0.out.trans' o2)
  clear kR o2
  go_wp2_with fail
  go_ret
  exact ⟨rfl, HO2.out⟩
/-- Two that are the same but for where their packets lie. -/
theorem strip_eq {x y : Dn} (h : x.strip = y.strip) : y = { x with A := y.A, m := y.m, c := y.c } := by
  obtain ⟨_, _, _, _, _, _, _, _, _, _, _, _, _, _⟩ := x
  obtain ⟨_, _, _, _, _, _, _, _, _, _, _, _, _, _⟩ := y
  simp only [Dn.strip, Dn.mk.injEq] at h ⊢
  simp [h]
end Go.Proofs.Ytaaolacfhdfagaa
