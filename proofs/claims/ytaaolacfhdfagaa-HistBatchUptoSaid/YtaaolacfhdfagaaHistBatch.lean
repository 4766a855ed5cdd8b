/-
  weighbridgelaw14.HistBatch returns true for every input, and leaves its arguments as they were. Where what they hold is of bulk at most 1048576 (the bound of the statement).
-/
import Derived.Test.YtaaolacfhdfagaaRows
import Derived.Test.YtaaolacfhdfagaaHsW
import Derived.Test.YtaaolacfhdfagaaHsJ
import Derived.WalkKit
import Derived.ProofKit
import Derived.OpenShut
import Derived.ChangeOld
import Derived.Below
import Derived.Carry
import Derived.JoinedCond
namespace Go.Proofs.Ytaaolacfhdfagaa.histBatch
open Go.ChangeShapes Go.WideShapes Go.ChangeAt Go.RowKit
set_option linter.unusedVariables false
set_option linter.unusedSimpArgs false
set_option maxRecDepth 100000

set_option maxHeartbeats 8000000
theorem walk (x0 : Dn) (p0 : List Pk) (x1 : Dn) (p1 : List Pk) (x2 : Dn) (p2 : List Pk) (a3 : Int) (w : World) (q0 : InPk w x0 p0) (s0 : x0.m ≤ 1048576) (q1 : InPk w x1 p1) (s1 : x1.m ≤ 1048576) (q2 : InPk w x2 p2) (s2 : x2.m ≤ 1048576) (w3 : (Lit.int .i64 a3).wf = true) :
    Calls Try.prog 3 #[.agg #[.int .i64 x0.who, .int .i64 x0.place, .int .i64 x0.op, .int .i64 x0.f, .int .i64 x0.a, .int .i64 x0.b, .int .i64 x0.e, .slice x0.A x0.m x0.c, .int .i64 x0.n, .int .u64 x0.v, .int .i64 x0.fr, .int .i64 x0.to], .agg #[.int .i64 x1.who, .int .i64 x1.place, .int .i64 x1.op, .int .i64 x1.f, .int .i64 x1.a, .int .i64 x1.b, .int .i64 x1.e, .slice x1.A x1.m x1.c, .int .i64 x1.n, .int .u64 x1.v, .int .i64 x1.fr, .int .i64 x1.to], .agg #[.int .i64 x2.who, .int .i64 x2.place, .int .i64 x2.op, .int .i64 x2.f, .int .i64 x2.a, .int .i64 x2.b, .int .i64 x2.e, .slice x2.A x2.m x2.c, .int .i64 x2.n, .int .u64 x2.v, .int .i64 x2.fr, .int .i64 x2.to], .int .i64 a3] w fun e w' => e = .returned (.bool true) ∧ Below w.heap.size w w' := by
  have BT0 := Lib.hid (BT.start w x0 x1 x2)
  have md := Lib.hid (fun (v n : Int) (h : 0 < n) (hn : n ≤ 1000000) (V : World) => cMod v n h hn V)
  have na := Lib.hid (fun (V : World) => lNear x0 V)
  have nb := Lib.hid (fun (V : World) => lNear x2 V)
  have QQ : Hid (InPk w (nearD x0) p0 ∧ InPk w x1 p1 ∧ InPk w (nearD x2) p2) := ⟨q0.near, q1, q2.near⟩
  have SS : Hid ((nearD x0).m ≤ 1048576 ∧ x1.m ≤ 1048576 ∧ (nearD x2).m ≤ 1048576) := ⟨by rw [(near_hdr x0).2.1]; exact s0, s1, by rw [(near_hdr x2).2.1]; exact s2⟩
  generalize nearD x0 = y0 at *
  generalize nearD x2 = y2 at *
  clear q0 q1 q2 s0 s1 s2
  go_enter Try.func3, Try.ntmps3
  go_upto_region 1 with fail
  generalize (((w.alloc (.cells #[.int .i64 x0.who, .int .i64 x0.place, .int .i64 x0.op, .int .i64 x0.f, .int .i64 x0.a, .int .i64 x0.b, .int .i64 x0.e, .slice x0.A x0.m x0.c, .int .i64 x0.n, .int .u64 x0.v, .int .i64 x0.fr, .int .i64 x0.to] 30)).alloc (.cells #[.int .i64 x1.who, .int .i64 x1.place, .int .i64 x1.op, .int .i64 x1.f, .int .i64 x1.a, .int .i64 x1.b, .int .i64 x1.e, .slice x1.A x1.m x1.c, .int .i64 x1.n, .int .u64 x1.v, .int .i64 x1.fr, .int .i64 x1.to] 30)).alloc (.cells #[.int .i64 x2.who, .int .i64 x2.place, .int .i64 x2.op, .int .i64 x2.f, .int .i64 x2.a, .int .i64 x2.b, .int .i64 x2.e, .slice x2.A x2.m x2.c, .int .i64 x2.n, .int .u64 x2.v, .int .i64 x2.fr, .int .i64 x2.to] 30)) = W at *
  generalize w.heap.size + 1 + 1 = gb at *
  generalize w.heap.size + 1 = gd at *
  obtain ⟨ga, hga⟩ : ∃ g, w.heap.size = g := ⟨_, rfl⟩
  rw [hga] at BT0 ⊢
  clear hga
  refine (fun (main : ∀ V : World, Hid (BT w V ga gd gb y0 x1 y2) → (?G1 : World → Prop) V) => ?body1) ?pf1
  case body1 =>
    obtain ⟨u0, u1, u2, u3, u4, u5, u6, u7, u8, u9, u10, u11⟩ := BT0.out.atA; (try simp only [Nat.zero_add] at u0 u1 u2 u3 u4 u5 u6 u7 u8 u9 u10 u11)
    obtain ⟨t0, t1, t2, t3, t4, t5, t6, t7, t8, t9, t10, t11⟩ := BT0.out.atB; (try simp only [Nat.zero_add] at t0 t1 t2 t3 t4 t5 t6 t7 t8 t9 t10 t11)
    refine wp_region_held_drew (S := (fun _ => True)) (by kernel_rfl) trivial (fun hHeld => ?_)
    refine wpAnyH_ready (rs := [0, 2]) (by kernel_rfl) (by simp) ?_
    refine consH rfl (fun K hK => ?_) (consH rfl (fun K hK => ?_) AllReadyH.nil)
    · go_simp
      refine hK.out _ _ trivial (fun hHeld2 => ?_)
      clear hK K hHeld
      have hHeld := hHeld2
      clear hHeld2
      try simp only [Act.put, List.setIfInBounds_toArray, List.set_cons_zero, List.set_cons_succ]
      refine wpAnyH_ready (rs := [1, 2]) (by kernel_rfl) (by simp) ?_
      refine consH rfl (fun K hK => ?_) (consH rfl (fun K hK => ?_) AllReadyH.nil)
      · go_simp
        refine (na.out _).mono ?_
        rintro e v1 ⟨rfl, o⟩
        have O1 := Lib.hid ((Only.drew (Only.refl [] W)).trans' o)
        clear o
        refine hK.out _ _ trivial (fun hHeld2 => ?_)
        clear hK K hHeld
        have hHeld := hHeld2
        clear hHeld2
        try simp only [Act.put, List.setIfInBounds_toArray, List.set_cons_zero, List.set_cons_succ]
        clear t0 t1 t2 t3 t4 t5 t6 t7 t8 t9 t10 t11
        obtain ⟨t0, t1, t2, t3, t4, t5, t6, t7, t8, t9, t10, t11⟩ := (BT0.out.only0 O1.out).atB; (try simp only [Nat.zero_add] at t0 t1 t2 t3 t4 t5 t6 t7 t8 t9 t10 t11)
        refine wpAnyH_ready (rs := [2]) (by kernel_rfl) (by simp) ?_
        refine consH rfl (fun K hK => ?_) AllReadyH.nil
        go_simp
        refine hK.out _ _ trivial (fun hHeld2 => ?_)
        clear hK K hHeld
        have hHeld := hHeld2
        clear hHeld2
        try simp only [Act.put, List.setIfInBounds_toArray, List.set_cons_zero, List.set_cons_succ]
        refine wpAnyH_ready (rs := [3]) (by kernel_rfl) (by simp) ?_
        refine consH rfl (fun K hK => ?_) AllReadyH.nil
        go_simp
        refine (nb.out _).mono ?_
        rintro e v3 ⟨rfl, o⟩
        have O3 := Lib.hid (O1.out.trans' o)
        clear o
        refine hK.out _ _ trivial (fun hHeld2 => ?_)
        clear hK K hHeld
        have hHeld := hHeld2
        clear hHeld2
        try simp only [Act.put, List.setIfInBounds_toArray, List.set_cons_zero, List.set_cons_succ]
        clear u0 u1 u2 u3 u4 u5 u6 u7 u8 u9 u10 u11 t0 t1 t2 t3 t4 t5 t6 t7 t8 t9 t10 t11
        have B3 : Hid (BT w v3 ga gd gb x0 x1 x2) := BT0.out.only0 O3.out
        obtain ⟨V1, hV1⟩ : ∃ V, v3.setCells ga 0 y0.cs = V := ⟨_, rfl⟩
        have B4 : Hid (BT w V1 ga gd gb y0 x1 x2) := by rw [← hV1]; exact B3.out.storeA y0
        have HV1 := Lib.hid hV1
        clear hV1
        obtain ⟨V2, hV2⟩ : ∃ V, V1.setCells gb 0 y2.cs = V := ⟨_, rfl⟩
        have B5 : Hid (BT w V2 ga gd gb y0 x1 y2) := by rw [← hV2]; exact B4.out.storeB y2
        have HV2 := Lib.hid hV2
        clear hV2
        refine wpAnyH_ready (rs := [4]) (by kernel_rfl) (by simp) ?_
        refine consH rfl (fun K hK => ?_) AllReadyH.nil
        refine step_storeD rfl (.tmp 4) (.tmp 14) rfl ga 0 rfl y0 rfl (fun j hj => (cells_some B3.out.ha j hj).1) (fun j hj => (cells_some B3.out.ha j hj).2) HV1.out ?_
        refine hK.out _ _ trivial (fun hHeld2 => ?_)
        clear hK K hHeld
        have hHeld := hHeld2
        clear hHeld2
        try simp only [Act.put, List.setIfInBounds_toArray, List.set_cons_zero, List.set_cons_succ]
        refine wpAnyH_ready (rs := [5]) (by kernel_rfl) (by simp) ?_
        refine consH rfl (fun K hK => ?_) AllReadyH.nil
        refine step_storeD rfl (.tmp 6) (.tmp 16) rfl gb 0 rfl y2 rfl (fun j hj => (cells_some B4.out.hb j hj).1) (fun j hj => (cells_some B4.out.hb j hj).2) HV2.out ?_
        refine hK.out _ _ trivial (fun hHeld2 => ?_)
        clear hK K hHeld
        have hHeld := hHeld2
        clear hHeld2
        try simp only [Act.put, List.setIfInBounds_toArray, List.set_cons_zero, List.set_cons_succ]
        refine wpAnyH_done (by kernel_rfl) ?_ _
        exact main V2 B5
      · go_simp
        refine hK.out _ _ trivial (fun hHeld2 => ?_)
        clear hK K hHeld
        have hHeld := hHeld2
        clear hHeld2
        try simp only [Act.put, List.setIfInBounds_toArray, List.set_cons_zero, List.set_cons_succ]
        refine wpAnyH_ready (rs := [1]) (by kernel_rfl) (by simp) ?_
        refine consH rfl (fun K hK => ?_) AllReadyH.nil
        go_simp
        refine (na.out _).mono ?_
        rintro e v1 ⟨rfl, o⟩
        have O1 := Lib.hid ((Only.drew (Only.refl [] W)).trans' o)
        clear o
        refine hK.out _ _ trivial (fun hHeld2 => ?_)
        clear hK K hHeld
        have hHeld := hHeld2
        clear hHeld2
        try simp only [Act.put, List.setIfInBounds_toArray, List.set_cons_zero, List.set_cons_succ]
        refine wpAnyH_ready (rs := [3]) (by kernel_rfl) (by simp) ?_
        refine consH rfl (fun K hK => ?_) AllReadyH.nil
        go_simp
        refine (nb.out _).mono ?_
        rintro e v3 ⟨rfl, o⟩
        have O3 := Lib.hid (O1.out.trans' o)
        clear o
        refine hK.out _ _ trivial (fun hHeld2 => ?_)
        clear hK K hHeld
        have hHeld := hHeld2
        clear hHeld2
        try simp only [Act.put, List.setIfInBounds_toArray, List.set_cons_zero, List.set_cons_succ]
        clear u0 u1 u2 u3 u4 u5 u6 u7 u8 u9 u10 u11 t0 t1 t2 t3 t4 t5 t6 t7 t8 t9 t10 t11
        have B3 : Hid (BT w v3 ga gd gb x0 x1 x2) := BT0.out.only0 O3.out
        obtain ⟨V1, hV1⟩ : ∃ V, v3.setCells ga 0 y0.cs = V := ⟨_, rfl⟩
        have B4 : Hid (BT w V1 ga gd gb y0 x1 x2) := by rw [← hV1]; exact B3.out.storeA y0
        have HV1 := Lib.hid hV1
        clear hV1
        obtain ⟨V2, hV2⟩ : ∃ V, V1.setCells gb 0 y2.cs = V := ⟨_, rfl⟩
        have B5 : Hid (BT w V2 ga gd gb y0 x1 y2) := by rw [← hV2]; exact B4.out.storeB y2
        have HV2 := Lib.hid hV2
        clear hV2
        refine wpAnyH_ready (rs := [4]) (by kernel_rfl) (by simp) ?_
        refine consH rfl (fun K hK => ?_) AllReadyH.nil
        refine step_storeD rfl (.tmp 4) (.tmp 14) rfl ga 0 rfl y0 rfl (fun j hj => (cells_some B3.out.ha j hj).1) (fun j hj => (cells_some B3.out.ha j hj).2) HV1.out ?_
        refine hK.out _ _ trivial (fun hHeld2 => ?_)
        clear hK K hHeld
        have hHeld := hHeld2
        clear hHeld2
        try simp only [Act.put, List.setIfInBounds_toArray, List.set_cons_zero, List.set_cons_succ]
        refine wpAnyH_ready (rs := [5]) (by kernel_rfl) (by simp) ?_
        refine consH rfl (fun K hK => ?_) AllReadyH.nil
        refine step_storeD rfl (.tmp 6) (.tmp 16) rfl gb 0 rfl y2 rfl (fun j hj => (cells_some B4.out.hb j hj).1) (fun j hj => (cells_some B4.out.hb j hj).2) HV2.out ?_
        refine hK.out _ _ trivial (fun hHeld2 => ?_)
        clear hK K hHeld
        have hHeld := hHeld2
        clear hHeld2
        try simp only [Act.put, List.setIfInBounds_toArray, List.set_cons_zero, List.set_cons_succ]
        refine wpAnyH_done (by kernel_rfl) ?_ _
        exact main V2 B5
    · go_simp
      refine hK.out _ _ trivial (fun hHeld2 => ?_)
      clear hK K hHeld
      have hHeld := hHeld2
      clear hHeld2
      try simp only [Act.put, List.setIfInBounds_toArray, List.set_cons_zero, List.set_cons_succ]
      refine wpAnyH_ready (rs := [0]) (by kernel_rfl) (by simp) ?_
      refine consH rfl (fun K hK => ?_) AllReadyH.nil
      go_simp
      refine hK.out _ _ trivial (fun hHeld2 => ?_)
      clear hK K hHeld
      have hHeld := hHeld2
      clear hHeld2
      try simp only [Act.put, List.setIfInBounds_toArray, List.set_cons_zero, List.set_cons_succ]
      refine wpAnyH_ready (rs := [1]) (by kernel_rfl) (by simp) ?_
      refine consH rfl (fun K hK => ?_) AllReadyH.nil
      go_simp
      refine (na.out _).mono ?_
      rintro e v1 ⟨rfl, o⟩
      have O1 := Lib.hid ((Only.drew (Only.refl [] W)).trans' o)
      clear o
      refine hK.out _ _ trivial (fun hHeld2 => ?_)
      clear hK K hHeld
      have hHeld := hHeld2
      clear hHeld2
      try simp only [Act.put, List.setIfInBounds_toArray, List.set_cons_zero, List.set_cons_succ]
      refine wpAnyH_ready (rs := [3]) (by kernel_rfl) (by simp) ?_
      refine consH rfl (fun K hK => ?_) AllReadyH.nil
      go_simp
      refine (nb.out _).mono ?_
      rintro e v3 ⟨rfl, o⟩
      have O3 := Lib.hid (O1.out.trans' o)
      clear o
      refine hK.out _ _ trivial (fun hHeld2 => ?_)
      clear hK K hHeld
      have hHeld := hHeld2
      clear hHeld2
      try simp only [Act.put, List.setIfInBounds_toArray, List.set_cons_zero, List.set_cons_succ]
      clear u0 u1 u2 u3 u4 u5 u6 u7 u8 u9 u10 u11 t0 t1 t2 t3 t4 t5 t6 t7 t8 t9 t10 t11
      have B3 : Hid (BT w v3 ga gd gb x0 x1 x2) := BT0.out.only0 O3.out
      obtain ⟨V1, hV1⟩ : ∃ V, v3.setCells ga 0 y0.cs = V := ⟨_, rfl⟩
      have B4 : Hid (BT w V1 ga gd gb y0 x1 x2) := by rw [← hV1]; exact B3.out.storeA y0
      have HV1 := Lib.hid hV1
      clear hV1
      obtain ⟨V2, hV2⟩ : ∃ V, V1.setCells gb 0 y2.cs = V := ⟨_, rfl⟩
      have B5 : Hid (BT w V2 ga gd gb y0 x1 y2) := by rw [← hV2]; exact B4.out.storeB y2
      have HV2 := Lib.hid hV2
      clear hV2
      refine wpAnyH_ready (rs := [4]) (by kernel_rfl) (by simp) ?_
      refine consH rfl (fun K hK => ?_) AllReadyH.nil
      refine step_storeD rfl (.tmp 4) (.tmp 14) rfl ga 0 rfl y0 rfl (fun j hj => (cells_some B3.out.ha j hj).1) (fun j hj => (cells_some B3.out.ha j hj).2) HV1.out ?_
      refine hK.out _ _ trivial (fun hHeld2 => ?_)
      clear hK K hHeld
      have hHeld := hHeld2
      clear hHeld2
      try simp only [Act.put, List.setIfInBounds_toArray, List.set_cons_zero, List.set_cons_succ]
      refine wpAnyH_ready (rs := [5]) (by kernel_rfl) (by simp) ?_
      refine consH rfl (fun K hK => ?_) AllReadyH.nil
      refine step_storeD rfl (.tmp 6) (.tmp 16) rfl gb 0 rfl y2 rfl (fun j hj => (cells_some B4.out.hb j hj).1) (fun j hj => (cells_some B4.out.hb j hj).2) HV2.out ?_
      refine hK.out _ _ trivial (fun hHeld2 => ?_)
      clear hK K hHeld
      have hHeld := hHeld2
      clear hHeld2
      try simp only [Act.put, List.setIfInBounds_toArray, List.set_cons_zero, List.set_cons_succ]
      refine wpAnyH_done (by kernel_rfl) ?_ _
      exact main V2 B5
  case pf1 =>
    intro V B
    clear BT0 na nb
    obtain ⟨-, -, u2, -, -, -, -, -, -, -, -, -⟩ := B.out.atA
    obtain ⟨-, -, t2, -, -, -, -, -, -, -, -, -⟩ := B.out.atB
    have fa := (B.out.fz 2).1
    have fb := (B.out.fz 2).2.2
    have n1 := B.out.ne.2.1
    have n2 := B.out.ne.2.1.symm
    have B2 : Hid (BT w ((V.setCell ⟨ga, 2, none⟩ (.int .i64 3)).setCell ⟨gb, 2, none⟩ (.int .i64 6)) ga gd gb { y0 with op := 3 } x1 { y2 with op := 6 }) := (B.out.setA 2 _ { y0 with op := 3 } (by rfl)).setB 2 _ { y2 with op := 6 } (by rfl)
    simp only [Nat.zero_add] at u2 t2
    go_upto_region 3 with fail
    clear u2 t2 fa fb n1 n2 B
    generalize (V.setCell ⟨ga, 2, none⟩ (.int .i64 3)).setCell ⟨gb, 2, none⟩ (.int .i64 6) = V3 at *
    obtain ⟨-, -, d2, -, -, -, -, -, -, -, -, -⟩ := B2.out.atD
    have fd := (B2.out.fz 2).2.1
    have B4 : Hid (BT w (V3.setCell ⟨gd, 2, none⟩ (.int .i64 5)) ga gd gb { y0 with op := 3 } { x1 with op := 5 } { y2 with op := 6 }) := B2.out.setD 2 _ { x1 with op := 5 } (by rfl)
    simp only [Nat.zero_add] at d2
    go_upto_region 4 with fail
    clear d2 fd B2
    generalize V3.setCell ⟨gd, 2, none⟩ (.int .i64 5) = V4 at *
    have mt := Lib.hid (fun V => md.out a3 3 (by decide) (by decide) V)
    obtain ⟨kt, hkt, hk3⟩ : ∃ k : Nat, modI a3 3 = (k : Int) ∧ k < 3 := ⟨(modI a3 3).toNat, by have := modI_lt a3 (n := 3) (by decide); omega, by have := modI_lt a3 (n := 3) (by decide); omega⟩
    rw [hkt] at mt
    have hk3' : (kt : Int) < 3 := by omega
    have EB := errsB_at V4 kt hk3
    have ER : Hid (errB (kt : Int) = 0 ∨ errB (kt : Int) = 10 ∨ errB (kt : Int) = 1) := errB_is _
    have OA : Hid (Only [] V4 (V4.alloc (.cells #[.int .i64 0, .int .i64 10, .int .i64 1] 24))) := (Only.refl [] V4).alloc _
    have B5 : Hid (BT w (V4.alloc (.cells #[.int .i64 0, .int .i64 10, .int .i64 1] 24)) ga gd gb { y0 with op := 3 } { x1 with op := 5 } { y2 with op := 6 }) := B4.out.only0 OA.out
    clear hkt md
    generalize errB (kt : Int) = er at *
    obtain ⟨-, -, -, -, -, -, d6, -, -, -, -, -⟩ := B5.out.atD
    have fd := (B5.out.fz 6).2.1
    simp only [Nat.zero_add] at d6
    try dsimp only at d6
    have B6 : Hid (BT w ((V4.alloc (.cells #[.int .i64 0, .int .i64 10, .int .i64 1] 24)).setCell ⟨gd, 6, none⟩ (.int .i64 er)) ga gd gb { y0 with op := 3 } { x1 with op := 5, e := er } { y2 with op := 6 }) := B5.out.setD 6 _ { x1 with op := 5, e := er } (by rfl)
    go_upto_region 5 with (go_at_call 5; refine (mt.out _).mono ?_; rintro e w9 ⟨rfl, hv⟩; rw [hv]; clear hv)
    clear d6 fd B5 EB mt OA B4 hk3 hk3'
    generalize (V4.alloc (.cells #[.int .i64 0, .int .i64 10, .int .i64 1] 24)).setCell ⟨gd, 6, none⟩ (.int .i64 er) = V5 at *
    have FA : Hid (({ y0 with op := 3 } : Dn).op ≠ 5 ∧ InPk w { y0 with op := 3 } p0 ∧ ({ y0 with op := 3 } : Dn).m ≤ 1048576) := ⟨by show (3 : Int) ≠ 5; decide, ⟨QQ.out.1.len, QQ.out.1.src, QQ.out.1.nil, QQ.out.1.cap⟩, SS.out.1⟩
    have FD : Hid ((({ x1 with op := 5, e := er } : Dn).op = 5 ∧ ({ x1 with op := 5, e := er } : Dn).e = er) ∧ InPk w { x1 with op := 5, e := er } p1 ∧ ({ x1 with op := 5, e := er } : Dn).m ≤ 1048576) := ⟨⟨rfl, rfl⟩, ⟨QQ.out.2.1.len, QQ.out.2.1.src, QQ.out.2.1.nil, QQ.out.2.1.cap⟩, SS.out.2.1⟩
    have FB : Hid (({ y2 with op := 6 } : Dn).op ≠ 5 ∧ InPk w { y2 with op := 6 } p2 ∧ ({ y2 with op := 6 } : Dn).m ≤ 1048576) := ⟨by show (6 : Int) ≠ 5; decide, ⟨QQ.out.2.2.len, QQ.out.2.2.src, QQ.out.2.2.nil, QQ.out.2.2.cap⟩, SS.out.2.2⟩
    generalize ({ y0 with op := 3 } : Dn) = xa at *
    generalize ({ x1 with op := 5, e := er } : Dn) = xd at *
    generalize ({ y2 with op := 6 } : Dn) = xb at *
    clear QQ SS
    have kP : Hid (∀ (V : World), Only [] V5 V → _) := fun V o => cParts (some ⟨V.heap.size, 0, none⟩) 3 3 [xa, xd, xb] [(xa.strip, p0), (xd.strip, p1), (xb.strip, p2)] (V.alloc (.cells (dE.flat [xa, xd, xb]).toArray dE.T)) rfl (by decide) (Dns.lit V _ (by simp)) ((AbsL.one (FA.out.2.1.abs.only0 ((B6.out.only.trans' o).trans' ((Only.refl [] V).alloc _)))).append ((AbsL.one (FD.out.2.1.abs.only0 ((B6.out.only.trans' o).trans' ((Only.refl [] V).alloc _)))).append (AbsL.one (FB.out.2.1.abs.only0 ((B6.out.only.trans' o).trans' ((Only.refl [] V).alloc _))))))
      (fun x hx => by
        simp at hx
        rcases hx with rfl | rfl | rfl
        · exact FA.out.2.2
        · exact FD.out.2.2
        · exact FB.out.2.2)
    obtain ⟨u0, u1, u2, u3, u4, u5, u6, u7, u8, u9, u10, u11⟩ := B6.out.atA; (try simp only [Nat.zero_add] at u0 u1 u2 u3 u4 u5 u6 u7 u8 u9 u10 u11)
    obtain ⟨d0, d1, d2, d3, d4, d5, d6, d7, d8, d9, d10, d11⟩ := B6.out.atD; (try simp only [Nat.zero_add] at d0 d1 d2 d3 d4 d5 d6 d7 d8 d9 d10 d11)
    obtain ⟨t0, t1, t2, t3, t4, t5, t6, t7, t8, t9, t10, t11⟩ := B6.out.atB; (try simp only [Nat.zero_add] at t0 t1 t2 t3 t4 t5 t6 t7 t8 t9 t10 t11)
    go_wp2_with fail
    refine (kP.out V5 (Only.refl [] V5)).mono ?_
    rintro e V6 ⟨A3, q, c3, rfl, R3, dr⟩
    have D3 := Lib.hid dr
    have OV : Hid (Only [] V5 V6) := ((Only.refl [] V5).alloc _).trans' dr.fr.only
    have B7 : Hid (BT w V6 ga gd gb xa xd xb) := B6.out.only0 OV.out
    have E3 : Hid (q = (partsD (xd.strip, p1)).length + 2) := by
      show _ = _
      have h7 := dr.fr.len
      have h8 := dr.rw_.len
      rw [parts3 FA.out.1 FB.out.1] at h8
      simp at h8
      omega
    have RW : Hid (Rw w.heap.size V6 R3 ((xa.strip, p0) :: (partsD (xd.strip, p1) ++ [(xb.strip, p2)]))) := by
      have h8 := dr.rw_.mono ((B6.out.only.trans' ((Only.refl [] V5).alloc _)).size)
      rw [parts3 FA.out.1 FB.out.1] at h8
      exact h8
    have RR : Hid (Dns V6 A3 R3 ∧ R3.length = q) := ⟨dr.fr.dns, dr.fr.len⟩
    clear kP dr D3 OV B6
    clear u0 u1 u2 u3 u4 u5 u6 u7 u8 u9 u10 u11 d0 d1 d2 d3 d4 d5 d6 d7 d8 d9 d10 d11 t0 t1 t2 t3 t4 t5 t6 t7 t8 t9 t10 t11
    have AT : Hid (∀ (k : Nat) (a : Da), ((xa.strip, p0) :: (partsD (xd.strip, p1) ++ [(xb.strip, p2)]))[k]? = some a → ∃ x g, R3[k]? = some x ∧ A3 = some ⟨g, 0, none⟩ ∧ DnAt V6 g (k * 12) x ∧ x.strip = a.1 ∧ x.m = a.2.length ∧ pE.Src V6 x.A a.2) := fun k a hk => by
      have hl : k < R3.length := by rw [RW.out.len]; exact (List.getElem?_eq_some_iff.1 hk).1
      have hx := List.getElem?_eq_getElem hl
      obtain ⟨g, e, hc⟩ := RR.out.1 k _ hx
      have pr := (RW.out.at_ k _ a hx hk).abs
      exact ⟨_, g, hx, e, hc, pr.str, pr.len, pr.src⟩
    clear RW RR
    have SRC : Hid ((xa.m = p0.length ∧ pE.Src V6 xa.A p0 ∧ xa.m ≤ 1048576) ∧ (xd.m = p1.length ∧ pE.Src V6 xd.A p1 ∧ xd.m ≤ 1048576) ∧ (xb.m = p2.length ∧ pE.Src V6 xb.A p2 ∧ xb.m ≤ 1048576)) :=
      ⟨⟨FA.out.2.1.len, FA.out.2.1.src.only0 B7.out.only, FA.out.2.2⟩, ⟨FD.out.2.1.len, FD.out.2.1.src.only0 B7.out.only, FD.out.2.2⟩, ⟨FB.out.2.1.len, FB.out.2.1.src.only0 B7.out.only, FB.out.2.2⟩⟩
    obtain ⟨r0, g3, -, eA, c0, s0, m0, u0⟩ := AT.out 0 _ rfl
    subst eA
    obtain ⟨A0, hA0⟩ : ∃ A, r0.A = A := ⟨_, rfl⟩
    obtain ⟨k0, hk0⟩ : ∃ c, r0.c = c := ⟨_, rfl⟩
    have e0 := strip_eq s0.symm
    have mm0 : r0.m = xa.m := m0.trans SRC.out.1.1.symm
    rw [hA0, hk0, mm0] at e0
    rw [e0] at c0
    rw [hA0] at u0
    have C0 : Hid (∀ V, Only [] V6 V → DnAt V g3 (0 * 12) { xa with A := A0, m := xa.m, c := k0 }) := fun V o => c0.only0 o
    have kA := Lib.hid (fun (V : World) (o : Only [] V6 V) => kDone xa V A0 xa.A xa.m k0 xa.c p0 SRC.out.1.1.symm SRC.out.1.2.2 (u0.only0 o) (SRC.out.1.2.1.only0 o))
    clear c0 s0 m0 u0 hA0 hk0 e0 mm0
    obtain ⟨n, hn⟩ : ∃ n, (partsD (xd.strip, p1)).length = n := ⟨_, rfl⟩
    obtain rfl : q = n + 2 := by rw [← hn]; exact E3.out
    have AB : Hid (((xa.strip, p0) :: (partsD (xd.strip, p1) ++ [(xb.strip, p2)]))[n + 1]? = some (xb.strip, p2)) := by
      show _ = _
      rw [List.getElem?_cons_succ, List.getElem?_append_right (by omega), hn]
      simp
    obtain ⟨rb, gb', -, eB, cb, sb, mb, ub⟩ := AT.out (n + 1) _ AB.out
    injection eB with eB
    injection eB with eB
    subst eB
    obtain ⟨Ab, hAb⟩ : ∃ A, rb.A = A := ⟨_, rfl⟩
    obtain ⟨kb, hkb⟩ : ∃ c, rb.c = c := ⟨_, rfl⟩
    have eb := strip_eq sb.symm
    have mmb : rb.m = xb.m := mb.trans SRC.out.2.2.1.symm
    rw [hAb, hkb, mmb] at eb
    rw [eb] at cb
    rw [hAb] at ub
    have CB : Hid (∀ V, Only [] V6 V → DnAt V g3 ((n + 1) * 12) { xb with A := Ab, m := xb.m, c := kb }) := fun V o => cb.only0 o
    have kB := Lib.hid (fun (V : World) (o : Only [] V6 V) => kDone xb V Ab xb.A xb.m kb xb.c p2 SRC.out.2.2.1.symm SRC.out.2.2.2.2 (ub.only0 o) (SRC.out.2.2.2.1.only0 o))
    clear cb sb mb ub hAb hkb eb mmb AB
    have kW := Lib.hid (fun (V : World) => lAwake V)
    have BX : Hid (∀ V, Only [] V6 V → DnAt V ga 0 xa ∧ DnAt V gd 0 xd ∧ DnAt V gb 0 xb) := fun V o => ⟨(B7.out.only0 o).atA, (B7.out.only0 o).atD, (B7.out.only0 o).atB⟩
    unfold DnAt at C0 CB BX
    simp only [Nat.zero_add, Nat.zero_mul] at BX C0
    dsimp only at C0 CB
    have OW : Hid (Only [] w V6) := B7.out.only
    clear B7 E3 W
    obtain ⟨-, -, -, -, -, -, -, d7, -, -, -, -⟩ := (BX.out V6 (Only.refl [] V6)).2.1
    go_upto_region 7 with fail
    clear d7
    obtain ⟨-, -, -, -, -, -, d6, -, -, -, -, d11⟩ := (BX.out V6 (Only.refl [] V6)).2.1
    by_cases ht : xd.to = -1
    · rw [ht] at d11
      have PX : Hid (partsD (xd.strip, p1) = [(xd.strip, p1)]) := by
        show _ = _
        unfold partsD
        rw [show divB (xd.strip, p1).1 = false by unfold divB opn; simp [Dn.strip, ht]]
        rfl
      obtain rfl : n = 1 := by rw [← hn, PX.out]; rfl
      obtain ⟨r1, gx, -, eB, c1, s1, m1, u1⟩ := AT.out 1 (xd.strip, p1) (by rw [PX.out]; rfl)
      injection eB with eB
      injection eB with eB
      subst eB
      obtain ⟨A1, hA1⟩ : ∃ A, r1.A = A := ⟨_, rfl⟩
      obtain ⟨k1, hk1⟩ : ∃ c, r1.c = c := ⟨_, rfl⟩
      have e1 := strip_eq s1.symm
      have mm1 : r1.m = xd.m := m1.trans SRC.out.2.1.1.symm
      rw [hA1, hk1, mm1] at e1
      rw [e1] at c1
      rw [hA1] at u1
      have CD9 : Hid (∀ V, Only [] V6 V → DnAt V g3 12 { xd with A := A1, m := xd.m, c := k1 } ∧ DnAt V gd 0 xd) := fun V o => ⟨c1.only0 o, (BX.out V o).2.1⟩
      have kD := Lib.hid (fun (V : World) (o : Only [] V6 V) => kDone xd V A1 xd.A xd.m k1 xd.c p1 SRC.out.2.1.1.symm SRC.out.2.1.2.2 (u1.only0 o) (SRC.out.2.1.2.1.only0 o))
      unfold DnAt at CD9
      simp only [Nat.zero_add] at CD9
      try dsimp only at CD9
      clear c1 s1 m1 u1 hA1 hk1 e1 mm1 AT hn PX ER
      have HT := Lib.hid ht
      clear ht
      go_upto_region 9 with fail
      clear d6 d11
      refine wp_region_held_drew (S := (fun V => (V.cell? ⟨g3, 12, none⟩ = some (.int .i64 xd.who) ∧ V.cell? ⟨g3, 13, none⟩ = some (.int .i64 xd.place) ∧ V.cell? ⟨g3, 14, none⟩ = some (.int .i64 xd.op) ∧ V.cell? ⟨g3, 15, none⟩ = some (.int .i64 xd.f) ∧ V.cell? ⟨g3, 16, none⟩ = some (.int .i64 xd.a) ∧ V.cell? ⟨g3, 17, none⟩ = some (.int .i64 xd.b) ∧ V.cell? ⟨g3, 18, none⟩ = some (.int .i64 xd.e) ∧ V.cell? ⟨g3, 19, none⟩ = some (.slice A1 xd.m k1) ∧ V.cell? ⟨g3, 20, none⟩ = some (.int .i64 xd.n) ∧ V.cell? ⟨g3, 21, none⟩ = some (.int .u64 xd.v) ∧ V.cell? ⟨g3, 22, none⟩ = some (.int .i64 xd.fr) ∧ V.cell? ⟨g3, 23, none⟩ = some (.int .i64 xd.to)) ∧ (V.cell? ⟨gd, 0, none⟩ = some (.int .i64 xd.who) ∧ V.cell? ⟨gd, 1, none⟩ = some (.int .i64 xd.place) ∧ V.cell? ⟨gd, 2, none⟩ = some (.int .i64 xd.op) ∧ V.cell? ⟨gd, 3, none⟩ = some (.int .i64 xd.f) ∧ V.cell? ⟨gd, 4, none⟩ = some (.int .i64 xd.a) ∧ V.cell? ⟨gd, 5, none⟩ = some (.int .i64 xd.b) ∧ V.cell? ⟨gd, 6, none⟩ = some (.int .i64 xd.e) ∧ V.cell? ⟨gd, 7, none⟩ = some (.slice xd.A xd.m xd.c) ∧ V.cell? ⟨gd, 8, none⟩ = some (.int .i64 xd.n) ∧ V.cell? ⟨gd, 9, none⟩ = some (.int .u64 xd.v) ∧ V.cell? ⟨gd, 10, none⟩ = some (.int .i64 xd.fr) ∧ V.cell? ⟨gd, 11, none⟩ = some (.int .i64 xd.to)))) (by kernel_rfl) (CD9.out _ (Only.drew (Only.refl [] V6))) (fun hHeld => ?_)
      refine takeH (i := 0) (v := ?_) rfl (by kernel_rfl) (by kernel_rfl) (by kernel_rfl) (fun _ _ _ h => h) (Or.inl ⟨by rfl, ?_⟩) (by assumption) ?_
      rotate_left 1
      · (intro w hSw; (try dsimp only at hSw); go_simp; try (with_reducible rfl))
      try simp only [Act.put, List.setIfInBounds_toArray, List.set_cons_zero, List.set_cons_succ]
      refine takeH (i := 1) (v := ?_) rfl (by kernel_rfl) (by kernel_rfl) (by kernel_rfl) (fun _ _ _ h => h) (Or.inl ⟨by rfl, ?_⟩) (by assumption) ?_
      rotate_left 1
      · (intro w hSw; (try dsimp only at hSw); go_simp; try (with_reducible rfl))
      try simp only [Act.put, List.setIfInBounds_toArray, List.set_cons_zero, List.set_cons_succ]
      refine takeH (i := 2) (v := ?_) rfl (by kernel_rfl) (by kernel_rfl) (by kernel_rfl) (fun _ _ _ h => h) (Or.inl ⟨by rfl, ?_⟩) (by assumption) ?_
      rotate_left 1
      · (intro w hSw; (try dsimp only at hSw); go_simp; try (with_reducible rfl))
      try simp only [Act.put, List.setIfInBounds_toArray, List.set_cons_zero, List.set_cons_succ]
      refine takeH (i := 3) (v := ?_) rfl (by kernel_rfl) (by kernel_rfl) (by kernel_rfl) (fun _ _ _ h => h) (Or.inl ⟨by rfl, ?_⟩) (by assumption) ?_
      rotate_left 1
      · (intro w hSw; (try dsimp only at hSw); go_simp; try (with_reducible rfl))
      try simp only [Act.put, List.setIfInBounds_toArray, List.set_cons_zero, List.set_cons_succ]
      refine takeH (i := 4) (v := ?_) rfl (by kernel_rfl) (by kernel_rfl) (by kernel_rfl) (fun _ _ _ h => h) (Or.inl ⟨by rfl, ?_⟩) (by assumption) ?_
      rotate_left 1
      · (intro w hSw; (try dsimp only at hSw); go_simp; try (with_reducible rfl))
      try simp only [Act.put, List.setIfInBounds_toArray, List.set_cons_zero, List.set_cons_succ]
      refine takeH (i := 5) (v := ?_) rfl (by kernel_rfl) (by kernel_rfl) (by kernel_rfl) (fun _ _ _ h => h) (Or.inl ⟨by rfl, ?_⟩) (by assumption) ?_
      rotate_left 1
      · (intro w hSw; (try dsimp only at hSw); go_simp; try (with_reducible rfl))
      try simp only [Act.put, List.setIfInBounds_toArray, List.set_cons_zero, List.set_cons_succ]
      refine takeH (i := 6) (v := ?_) rfl (by kernel_rfl) (by kernel_rfl) (by kernel_rfl) (fun _ _ _ h => h) (Or.inl ⟨by rfl, ?_⟩) (by assumption) ?_
      rotate_left 1
      · (intro w hSw; (try dsimp only at hSw); go_simp; try (with_reducible rfl))
      try simp only [Act.put, List.setIfInBounds_toArray, List.set_cons_zero, List.set_cons_succ]
      refine takeH (i := 7) (v := ?_) rfl (by kernel_rfl) (by kernel_rfl) (by kernel_rfl) (fun _ _ _ h => h) (Or.inl ⟨by rfl, ?_⟩) (by assumption) ?_
      rotate_left 1
      · (intro w hSw; (try dsimp only at hSw); go_simp; try (with_reducible rfl))
      try simp only [Act.put, List.setIfInBounds_toArray, List.set_cons_zero, List.set_cons_succ]
      refine wpAnyH_ready (rs := [8]) (by kernel_rfl) (by simp) ?_
      refine consH rfl (fun K hK => ?_) AllReadyH.nil
      go_simp
      refine (kD.out _ (Only.drew (Only.refl [] V6))).mono ?_
      rintro e v9 ⟨rfl, o⟩
      have O9 := Lib.hid ((Only.drew (Only.refl [] V6)).trans' o)
      clear o
      refine hK.out _ _ (CD9.out _ O9.out) (fun hHeld2 => ?_)
      clear hK K hHeld
      have hHeld := hHeld2
      clear hHeld2
      try simp only [Act.put, List.setIfInBounds_toArray, List.set_cons_zero, List.set_cons_succ]
      refine takeH (i := 9) (v := ?_) rfl (by kernel_rfl) (by kernel_rfl) (by kernel_rfl) (fun _ _ _ h => h) (Or.inl ⟨by rfl, ?_⟩) (by assumption) ?_
      rotate_left 1
      · (intro w hSw; (try dsimp only at hSw); go_simp; try (with_reducible rfl))
      try simp only [Act.put, List.setIfInBounds_toArray, List.set_cons_zero, List.set_cons_succ]
      refine takeH (i := 10) (v := ?_) rfl (by kernel_rfl) (by kernel_rfl) (by kernel_rfl) (fun _ _ _ h => h) (Or.inl ⟨by rfl, ?_⟩) (by assumption) ?_
      rotate_left 1
      · (intro w hSw; (try dsimp only at hSw); go_simp; try (with_reducible rfl))
      try simp only [Act.put, List.setIfInBounds_toArray, List.set_cons_zero, List.set_cons_succ]
      refine wpAnyH_done (by kernel_rfl) ?_ _
      clear kD CD9
      simp only [Nat.reduceAdd, Nat.reduceMul] at CB
      have wk3 : IntKind.i64.wrap 3 = 3 := by rfl
      have wk2 : IntKind.i64.wrap 2 = 2 := by rfl
      have CE : Hid (∀ V, Only [] V6 V → _ ∧ _ ∧ _ ∧ _) := fun V o => ⟨C0.out V o, CB.out V o, (BX.out V o).1, (BX.out V o).2.2⟩
      go_upto_region 15 with fail
      refine wp_region_held_drew (S := (fun V => (V.cell? ⟨g3, 0, none⟩ = some (.int .i64 xa.who) ∧ V.cell? ⟨g3, 1, none⟩ = some (.int .i64 xa.place) ∧ V.cell? ⟨g3, 2, none⟩ = some (.int .i64 xa.op) ∧ V.cell? ⟨g3, 3, none⟩ = some (.int .i64 xa.f) ∧ V.cell? ⟨g3, 4, none⟩ = some (.int .i64 xa.a) ∧ V.cell? ⟨g3, 5, none⟩ = some (.int .i64 xa.b) ∧ V.cell? ⟨g3, 6, none⟩ = some (.int .i64 xa.e) ∧ V.cell? ⟨g3, 7, none⟩ = some (.slice A0 xa.m k0) ∧ V.cell? ⟨g3, 8, none⟩ = some (.int .i64 xa.n) ∧ V.cell? ⟨g3, 9, none⟩ = some (.int .u64 xa.v) ∧ V.cell? ⟨g3, 10, none⟩ = some (.int .i64 xa.fr) ∧ V.cell? ⟨g3, 11, none⟩ = some (.int .i64 xa.to)) ∧ (V.cell? ⟨g3, 24, none⟩ = some (.int .i64 xb.who) ∧ V.cell? ⟨g3, 25, none⟩ = some (.int .i64 xb.place) ∧ V.cell? ⟨g3, 26, none⟩ = some (.int .i64 xb.op) ∧ V.cell? ⟨g3, 27, none⟩ = some (.int .i64 xb.f) ∧ V.cell? ⟨g3, 28, none⟩ = some (.int .i64 xb.a) ∧ V.cell? ⟨g3, 29, none⟩ = some (.int .i64 xb.b) ∧ V.cell? ⟨g3, 30, none⟩ = some (.int .i64 xb.e) ∧ V.cell? ⟨g3, 31, none⟩ = some (.slice Ab xb.m kb) ∧ V.cell? ⟨g3, 32, none⟩ = some (.int .i64 xb.n) ∧ V.cell? ⟨g3, 33, none⟩ = some (.int .u64 xb.v) ∧ V.cell? ⟨g3, 34, none⟩ = some (.int .i64 xb.fr) ∧ V.cell? ⟨g3, 35, none⟩ = some (.int .i64 xb.to)) ∧ (V.cell? ⟨ga, 0, none⟩ = some (.int .i64 xa.who) ∧ V.cell? ⟨ga, 1, none⟩ = some (.int .i64 xa.place) ∧ V.cell? ⟨ga, 2, none⟩ = some (.int .i64 xa.op) ∧ V.cell? ⟨ga, 3, none⟩ = some (.int .i64 xa.f) ∧ V.cell? ⟨ga, 4, none⟩ = some (.int .i64 xa.a) ∧ V.cell? ⟨ga, 5, none⟩ = some (.int .i64 xa.b) ∧ V.cell? ⟨ga, 6, none⟩ = some (.int .i64 xa.e) ∧ V.cell? ⟨ga, 7, none⟩ = some (.slice xa.A xa.m xa.c) ∧ V.cell? ⟨ga, 8, none⟩ = some (.int .i64 xa.n) ∧ V.cell? ⟨ga, 9, none⟩ = some (.int .u64 xa.v) ∧ V.cell? ⟨ga, 10, none⟩ = some (.int .i64 xa.fr) ∧ V.cell? ⟨ga, 11, none⟩ = some (.int .i64 xa.to)) ∧ (V.cell? ⟨gb, 0, none⟩ = some (.int .i64 xb.who) ∧ V.cell? ⟨gb, 1, none⟩ = some (.int .i64 xb.place) ∧ V.cell? ⟨gb, 2, none⟩ = some (.int .i64 xb.op) ∧ V.cell? ⟨gb, 3, none⟩ = some (.int .i64 xb.f) ∧ V.cell? ⟨gb, 4, none⟩ = some (.int .i64 xb.a) ∧ V.cell? ⟨gb, 5, none⟩ = some (.int .i64 xb.b) ∧ V.cell? ⟨gb, 6, none⟩ = some (.int .i64 xb.e) ∧ V.cell? ⟨gb, 7, none⟩ = some (.slice xb.A xb.m xb.c) ∧ V.cell? ⟨gb, 8, none⟩ = some (.int .i64 xb.n) ∧ V.cell? ⟨gb, 9, none⟩ = some (.int .u64 xb.v) ∧ V.cell? ⟨gb, 10, none⟩ = some (.int .i64 xb.fr) ∧ V.cell? ⟨gb, 11, none⟩ = some (.int .i64 xb.to)))) (by kernel_rfl) (CE.out _ (O9.out.trans' (Only.drew (Only.refl [] v9)))) (fun hHeld => ?_)
      refine wpAnyH_ready (rs := [0]) (by kernel_rfl) (by simp) ?_
      refine consH rfl (fun K hK => ?_) AllReadyH.nil
      go_simp
      refine (kW.out _).mono ?_
      rintro e v15 ⟨rfl, o⟩
      have O15 := Lib.hid ((O9.out.trans' (Only.drew (Only.refl [] v9))).trans' o)
      clear o
      refine hK.out _ _ (CE.out _ O15.out) (fun hHeld2 => ?_)
      clear hK K hHeld
      have hHeld := hHeld2
      clear hHeld2
      try simp only [Act.put, List.setIfInBounds_toArray, List.set_cons_zero, List.set_cons_succ]
      refine takeH (i := 1) (v := ?_) rfl (by kernel_rfl) (by kernel_rfl) (by kernel_rfl) (fun _ _ _ h => h) (Or.inl ⟨by rfl, ?_⟩) (by assumption) ?_
      rotate_left 1
      · (intro w hSw; (try dsimp only at hSw); go_simp; try (with_reducible rfl))
      try simp only [Act.put, List.setIfInBounds_toArray, List.set_cons_zero, List.set_cons_succ]
      refine takeH (i := 2) (v := ?_) rfl (by kernel_rfl) (by kernel_rfl) (by kernel_rfl) (fun _ _ _ h => h) (Or.inl ⟨by rfl, ?_⟩) (by assumption) ?_
      rotate_left 1
      · (intro w hSw; (try dsimp only at hSw); go_simp; try (with_reducible rfl))
      try simp only [Act.put, List.setIfInBounds_toArray, List.set_cons_zero, List.set_cons_succ]
      refine takeH (i := 3) (v := ?_) rfl (by kernel_rfl) (by kernel_rfl) (by kernel_rfl) (fun _ _ _ h => h) (Or.inl ⟨by rfl, ?_⟩) (by assumption) ?_
      rotate_left 1
      · (intro w hSw; (try dsimp only at hSw); go_simp; try (with_reducible rfl))
      try simp only [Act.put, List.setIfInBounds_toArray, List.set_cons_zero, List.set_cons_succ]
      refine takeH (i := 4) (v := ?_) rfl (by kernel_rfl) (by kernel_rfl) (by kernel_rfl) (fun _ _ _ h => h) (Or.inl ⟨by rfl, ?_⟩) (by assumption) ?_
      rotate_left 1
      · (intro w hSw; (try dsimp only at hSw); go_simp; try (with_reducible rfl))
      try simp only [Act.put, List.setIfInBounds_toArray, List.set_cons_zero, List.set_cons_succ]
      refine takeH (i := 5) (v := ?_) rfl (by kernel_rfl) (by kernel_rfl) (by kernel_rfl) (fun _ _ _ h => h) (Or.inl ⟨by rfl, ?_⟩) (by assumption) ?_
      rotate_left 1
      · (intro w hSw; (try dsimp only at hSw); go_simp; try (with_reducible rfl))
      try simp only [Act.put, List.setIfInBounds_toArray, List.set_cons_zero, List.set_cons_succ]
      refine takeH (i := 6) (v := ?_) rfl (by kernel_rfl) (by kernel_rfl) (by kernel_rfl) (fun _ _ _ h => h) (Or.inl ⟨by rfl, ?_⟩) (by assumption) ?_
      rotate_left 1
      · (intro w hSw; (try dsimp only at hSw); go_simp; try (with_reducible rfl))
      try simp only [Act.put, List.setIfInBounds_toArray, List.set_cons_zero, List.set_cons_succ]
      refine takeH (i := 7) (v := ?_) rfl (by kernel_rfl) (by kernel_rfl) (by kernel_rfl) (fun _ _ _ h => h) (Or.inl ⟨by rfl, ?_⟩) (by assumption) ?_
      rotate_left 1
      · (intro w hSw; (try dsimp only at hSw); go_simp; try (with_reducible rfl))
      try simp only [Act.put, List.setIfInBounds_toArray, List.set_cons_zero, List.set_cons_succ]
      refine takeH (i := 8) (v := ?_) rfl (by kernel_rfl) (by kernel_rfl) (by kernel_rfl) (fun _ _ _ h => h) (Or.inl ⟨by rfl, ?_⟩) (by assumption) ?_
      rotate_left 1
      · (intro w hSw; (try dsimp only at hSw); go_simp; try (with_reducible rfl))
      try simp only [Act.put, List.setIfInBounds_toArray, List.set_cons_zero, List.set_cons_succ]
      refine takeH (i := 9) (v := ?_) rfl (by kernel_rfl) (by kernel_rfl) (by kernel_rfl) (fun _ _ _ h => h) (Or.inl ⟨by rfl, ?_⟩) (by assumption) ?_
      rotate_left 1
      · (intro w hSw; (try dsimp only at hSw); go_simp; try (with_reducible rfl))
      try simp only [Act.put, List.setIfInBounds_toArray, List.set_cons_zero, List.set_cons_succ]
      refine takeH (i := 10) (v := ?_) rfl (by kernel_rfl) (by kernel_rfl) (by kernel_rfl) (fun _ _ _ h => h) (Or.inl ⟨by rfl, ?_⟩) (by assumption) ?_
      rotate_left 1
      · (intro w hSw; (try dsimp only at hSw); go_simp; try (with_reducible rfl))
      try simp only [Act.put, List.setIfInBounds_toArray, List.set_cons_zero, List.set_cons_succ]
      refine takeH (i := 11) (v := ?_) rfl (by kernel_rfl) (by kernel_rfl) (by kernel_rfl) (fun _ _ _ h => h) (Or.inl ⟨by rfl, ?_⟩) (by assumption) ?_
      rotate_left 1
      · (intro w hSw; (try dsimp only at hSw); go_simp; try (with_reducible rfl))
      try simp only [Act.put, List.setIfInBounds_toArray, List.set_cons_zero, List.set_cons_succ]
      refine takeH (i := 12) (v := ?_) rfl (by kernel_rfl) (by kernel_rfl) (by kernel_rfl) (fun _ _ _ h => h) (Or.inl ⟨by rfl, ?_⟩) (by assumption) ?_
      rotate_left 1
      · (intro w hSw; (try dsimp only at hSw); go_simp; try (with_reducible rfl))
      try simp only [Act.put, List.setIfInBounds_toArray, List.set_cons_zero, List.set_cons_succ]
      refine takeH (i := 13) (v := ?_) rfl (by kernel_rfl) (by kernel_rfl) (by kernel_rfl) (fun _ _ _ h => h) (Or.inl ⟨by rfl, ?_⟩) (by assumption) ?_
      rotate_left 1
      · (intro w hSw; (try dsimp only at hSw); go_simp; try (with_reducible rfl))
      try simp only [Act.put, List.setIfInBounds_toArray, List.set_cons_zero, List.set_cons_succ]
      refine wpAnyH_ready (rs := [14]) (by kernel_rfl) (by simp) ?_
      refine consH rfl (fun K hK => ?_) AllReadyH.nil
      go_simp
      refine (kA.out _ O15.out).mono ?_
      rintro e v16 ⟨rfl, o⟩
      have O16 := Lib.hid (O15.out.trans' o)
      clear o
      refine hK.out _ _ (CE.out _ O16.out) (fun hHeld2 => ?_)
      clear hK K hHeld
      have hHeld := hHeld2
      clear hHeld2
      try simp only [Act.put, List.setIfInBounds_toArray, List.set_cons_zero, List.set_cons_succ]
      refine takeH (i := 15) (v := ?_) rfl (by kernel_rfl) (by kernel_rfl) (by kernel_rfl) (fun _ _ _ h => h) (Or.inl ⟨by rfl, ?_⟩) (by assumption) ?_
      rotate_left 1
      · (intro w hSw; (try dsimp only at hSw); go_simp; try (with_reducible rfl))
      try simp only [Act.put, List.setIfInBounds_toArray, List.set_cons_zero, List.set_cons_succ]
      refine takeH (i := 16) (v := ?_) rfl (by kernel_rfl) (by kernel_rfl) (by kernel_rfl) (fun _ _ _ h => h) (Or.inl ⟨by rfl, ?_⟩) (by assumption) ?_
      rotate_left 1
      · (intro w hSw; (try dsimp only at hSw); go_simp; try (with_reducible rfl))
      try simp only [Act.put, List.setIfInBounds_toArray, List.set_cons_zero, List.set_cons_succ]
      refine takeH (i := 17) (v := ?_) rfl (by kernel_rfl) (by kernel_rfl) (by kernel_rfl) (fun _ _ _ h => h) (Or.inl ⟨by rfl, ?_⟩) (by assumption) ?_
      rotate_left 1
      · (intro w hSw; (try dsimp only at hSw); go_simp; try (with_reducible rfl))
      try simp only [Act.put, List.setIfInBounds_toArray, List.set_cons_zero, List.set_cons_succ]
      refine takeH (i := 18) (v := ?_) rfl (by kernel_rfl) (by kernel_rfl) (by kernel_rfl) (fun _ _ _ h => h) (Or.inl ⟨by rfl, ?_⟩) (by assumption) ?_
      rotate_left 1
      · (intro w hSw; (try dsimp only at hSw); go_simp; try (with_reducible rfl))
      try simp only [Act.put, List.setIfInBounds_toArray, List.set_cons_zero, List.set_cons_succ]
      refine takeH (i := 19) (v := ?_) rfl (by kernel_rfl) (by kernel_rfl) (by kernel_rfl) (fun _ _ _ h => h) (Or.inl ⟨by rfl, ?_⟩) (by assumption) ?_
      rotate_left 1
      · (intro w hSw; (try dsimp only at hSw); go_simp; try (with_reducible rfl))
      try simp only [Act.put, List.setIfInBounds_toArray, List.set_cons_zero, List.set_cons_succ]
      refine takeH (i := 20) (v := ?_) rfl (by kernel_rfl) (by kernel_rfl) (by kernel_rfl) (fun _ _ _ h => h) (Or.inl ⟨by rfl, ?_⟩) (by assumption) ?_
      rotate_left 1
      · (intro w hSw; (try dsimp only at hSw); go_simp; try (with_reducible rfl))
      try simp only [Act.put, List.setIfInBounds_toArray, List.set_cons_zero, List.set_cons_succ]
      refine takeH (i := 21) (v := ?_) rfl (by kernel_rfl) (by kernel_rfl) (by kernel_rfl) (fun _ _ _ h => h) (Or.inl ⟨by rfl, ?_⟩) (by assumption) ?_
      rotate_left 1
      · (intro w hSw; (try dsimp only at hSw); go_simp; try (with_reducible rfl))
      try simp only [Act.put, List.setIfInBounds_toArray, List.set_cons_zero, List.set_cons_succ]
      refine takeH (i := 22) (v := ?_) rfl (by kernel_rfl) (by kernel_rfl) (by kernel_rfl) (fun _ _ _ h => h) (Or.inl ⟨by rfl, ?_⟩) (by assumption) ?_
      rotate_left 1
      · (intro w hSw; (try dsimp only at hSw); go_simp; try (with_reducible rfl))
      try simp only [Act.put, List.setIfInBounds_toArray, List.set_cons_zero, List.set_cons_succ]
      refine takeH (i := 23) (v := ?_) rfl (by kernel_rfl) (by kernel_rfl) (by kernel_rfl) (fun _ _ _ h => h) (Or.inl ⟨by rfl, ?_⟩) (by assumption) ?_
      rotate_left 1
      · (intro w hSw; (try dsimp only at hSw); go_simp; try (with_reducible rfl))
      try simp only [Act.put, List.setIfInBounds_toArray, List.set_cons_zero, List.set_cons_succ]
      refine wpAnyH_ready (rs := [24]) (by kernel_rfl) (by simp) ?_
      refine consH rfl (fun K hK => ?_) AllReadyH.nil
      go_simp
      refine (kB.out _ O16.out).mono ?_
      rintro e v17 ⟨rfl, o⟩
      have O17 := Lib.hid (O16.out.trans' o)
      clear o
      refine hK.out _ _ (CE.out _ O17.out) (fun hHeld2 => ?_)
      clear hK K hHeld
      have hHeld := hHeld2
      clear hHeld2
      try simp only [Act.put, List.setIfInBounds_toArray, List.set_cons_zero, List.set_cons_succ]
      refine takeH (i := 25) (v := ?_) rfl (by kernel_rfl) (by kernel_rfl) (by kernel_rfl) (fun _ _ _ h => h) (Or.inl ⟨by rfl, ?_⟩) (by assumption) ?_
      rotate_left 1
      · (intro w hSw; (try dsimp only at hSw); go_simp; try (with_reducible rfl))
      try simp only [Act.put, List.setIfInBounds_toArray, List.set_cons_zero, List.set_cons_succ]
      refine takeH (i := 26) (v := ?_) rfl (by kernel_rfl) (by kernel_rfl) (by kernel_rfl) (fun _ _ _ h => h) (Or.inl ⟨by rfl, ?_⟩) (by assumption) ?_
      rotate_left 1
      · (intro w hSw; (try dsimp only at hSw); go_simp; try (with_reducible rfl))
      try simp only [Act.put, List.setIfInBounds_toArray, List.set_cons_zero, List.set_cons_succ]
      refine wpAnyH_done (by kernel_rfl) ?_ _
      clear kA kB kW CE C0 CB
      go_wp2_with fail
      go_loopg [11] 2 (fun gk si wr => si = .int .i64 1 ∧ 2 ≤ gk ∧ Hid (Only [] V6 wr))
      case atStart => exact ⟨rfl, by omega, O17.out⟩
      case round =>
        obtain ⟨rfl, hg, O⟩ := hrel
        obtain ⟨-, -, -, -, -, -, e6, -, -, -, -, e11⟩ := (BX.out wr O.out).2.1
        rw [HT.out] at e11
        go_wp2_with fail
        go_ret
        exact ⟨rfl, (OW.out.trans' O.out).toBelow⟩
    · rcases ER.out with rfl | rfl | rfl
      · rw [FD.out.1.2] at d6
        have h11 : (xd.to == -1) = false := by simpa using ht
        have h12 : (xd.to != -1) = true := by simpa using ht
        have PX : Hid (partsD (xd.strip, p1) = (p1.map fun p => partA xd.strip 0 [p])) := by
          show _ = _
          unfold partsD
          rw [show divB (xd.strip, p1).1 = true by unfold divB opn; simp [Dn.strip, ht, show xd.op = 5 from FD.out.1.1, show xd.e = 0 from FD.out.1.2], if_pos rfl]
          unfold partsA
          simp [Dn.strip, show xd.e = 0 from FD.out.1.2]
        have EN : Hid (n = xd.m) := by
          show _ = _
          rw [← hn, PX.out, SRC.out.2.1.1]
          simp
        have PB : Hid (∀ j, j < xd.m → ∃ (A : Option Addr) (c : Nat) (p : Pk), p1[j]? = some p ∧ ∀ V, Only [] V6 V → DnAt V g3 ((j + 1) * 12) (partD xd 0 A 1 c) ∧ pE.Src V A [p]) := fun j hj => by
          have hl : j < p1.length := by rw [← SRC.out.2.1.1]; exact hj
          have hp : p1[j]? = some p1[j] := List.getElem?_eq_getElem hl
          obtain ⟨r, gx, -, eB, c1, s1, m1, u1⟩ := AT.out (j + 1) (partA xd.strip 0 [p1[j]]) (by
            rw [List.getElem?_cons_succ, PX.out, List.getElem?_append_left (by simp; omega)]
            rw [List.getElem?_map, hp]
            rfl)
          injection eB with eB
          injection eB with eB
          subst eB
          have e1 := part_is s1
          rw [show r.m = 1 from m1] at e1
          rw [e1] at c1
          exact ⟨r.A, r.c, p1[j], hp, fun V o => ⟨c1.only0 o, u1.only0 o⟩⟩
        obtain rfl : n = xd.m := EN.out
        have hN : xd.m ≤ 1048577 := by have := EN.out; have := SRC.out.2.1.2.2; omega
        have w1 : IntKind.i64.wrap ((xd.m : Int) + 1) = (xd.m : Int) + 1 := by rw [IntKind.wrap_i64]; omega
        have w2 : IntKind.i64.wrap ((xd.m : Int) + 2) = (xd.m : Int) + 2 := by rw [IntKind.wrap_i64]; omega
        have w3 : (0 : Int) ≤ (xd.m : Int) + 1 := by omega
        have w4 : ((xd.m : Int) + 1).toNat = xd.m + 1 := by omega
        have w5 : decide (xd.m + 1 < xd.m + 2) = true := by simp
        have w6 : decide (xd.m < xd.m + 2) = true := by simp
        have w7 : (0 : Int) < (xd.m : Int) + 2 := by omega
        have w8 : (xd.m : Int) + 1 < (xd.m : Int) + 2 := by omega
        have w9 : (xd.m : Int) < (xd.m : Int) + 2 := by omega
        clear hn PX ER AT
        have HT := Lib.hid ht
        go_upto_region 11 with fail
        clear d11
        have CE : Hid (∀ V, Only [] V6 V → _ ∧ _ ∧ _ ∧ _) := fun V o => ⟨C0.out V o, CB.out V o, (BX.out V o).1, (BX.out V o).2.2⟩
        go_upto_region 15 with fail
        clear d6
        refine wp_region_held_drew (S := (fun V => (V.cell? ⟨g3, 0, none⟩ = some (.int .i64 xa.who) ∧ V.cell? ⟨g3, 1, none⟩ = some (.int .i64 xa.place) ∧ V.cell? ⟨g3, 2, none⟩ = some (.int .i64 xa.op) ∧ V.cell? ⟨g3, 3, none⟩ = some (.int .i64 xa.f) ∧ V.cell? ⟨g3, 4, none⟩ = some (.int .i64 xa.a) ∧ V.cell? ⟨g3, 5, none⟩ = some (.int .i64 xa.b) ∧ V.cell? ⟨g3, 6, none⟩ = some (.int .i64 xa.e) ∧ V.cell? ⟨g3, 7, none⟩ = some (.slice A0 xa.m k0) ∧ V.cell? ⟨g3, 8, none⟩ = some (.int .i64 xa.n) ∧ V.cell? ⟨g3, 9, none⟩ = some (.int .u64 xa.v) ∧ V.cell? ⟨g3, 10, none⟩ = some (.int .i64 xa.fr) ∧ V.cell? ⟨g3, 11, none⟩ = some (.int .i64 xa.to)) ∧ (V.cell? ⟨g3, (xd.m + 1) * 12, none⟩ = some (.int .i64 xb.who) ∧ V.cell? ⟨g3, (xd.m + 1) * 12 + 1, none⟩ = some (.int .i64 xb.place) ∧ V.cell? ⟨g3, (xd.m + 1) * 12 + 2, none⟩ = some (.int .i64 xb.op) ∧ V.cell? ⟨g3, (xd.m + 1) * 12 + 3, none⟩ = some (.int .i64 xb.f) ∧ V.cell? ⟨g3, (xd.m + 1) * 12 + 4, none⟩ = some (.int .i64 xb.a) ∧ V.cell? ⟨g3, (xd.m + 1) * 12 + 5, none⟩ = some (.int .i64 xb.b) ∧ V.cell? ⟨g3, (xd.m + 1) * 12 + 6, none⟩ = some (.int .i64 xb.e) ∧ V.cell? ⟨g3, (xd.m + 1) * 12 + 7, none⟩ = some (.slice Ab xb.m kb) ∧ V.cell? ⟨g3, (xd.m + 1) * 12 + 8, none⟩ = some (.int .i64 xb.n) ∧ V.cell? ⟨g3, (xd.m + 1) * 12 + 9, none⟩ = some (.int .u64 xb.v) ∧ V.cell? ⟨g3, (xd.m + 1) * 12 + 10, none⟩ = some (.int .i64 xb.fr) ∧ V.cell? ⟨g3, (xd.m + 1) * 12 + 11, none⟩ = some (.int .i64 xb.to)) ∧ (V.cell? ⟨ga, 0, none⟩ = some (.int .i64 xa.who) ∧ V.cell? ⟨ga, 1, none⟩ = some (.int .i64 xa.place) ∧ V.cell? ⟨ga, 2, none⟩ = some (.int .i64 xa.op) ∧ V.cell? ⟨ga, 3, none⟩ = some (.int .i64 xa.f) ∧ V.cell? ⟨ga, 4, none⟩ = some (.int .i64 xa.a) ∧ V.cell? ⟨ga, 5, none⟩ = some (.int .i64 xa.b) ∧ V.cell? ⟨ga, 6, none⟩ = some (.int .i64 xa.e) ∧ V.cell? ⟨ga, 7, none⟩ = some (.slice xa.A xa.m xa.c) ∧ V.cell? ⟨ga, 8, none⟩ = some (.int .i64 xa.n) ∧ V.cell? ⟨ga, 9, none⟩ = some (.int .u64 xa.v) ∧ V.cell? ⟨ga, 10, none⟩ = some (.int .i64 xa.fr) ∧ V.cell? ⟨ga, 11, none⟩ = some (.int .i64 xa.to)) ∧ (V.cell? ⟨gb, 0, none⟩ = some (.int .i64 xb.who) ∧ V.cell? ⟨gb, 1, none⟩ = some (.int .i64 xb.place) ∧ V.cell? ⟨gb, 2, none⟩ = some (.int .i64 xb.op) ∧ V.cell? ⟨gb, 3, none⟩ = some (.int .i64 xb.f) ∧ V.cell? ⟨gb, 4, none⟩ = some (.int .i64 xb.a) ∧ V.cell? ⟨gb, 5, none⟩ = some (.int .i64 xb.b) ∧ V.cell? ⟨gb, 6, none⟩ = some (.int .i64 xb.e) ∧ V.cell? ⟨gb, 7, none⟩ = some (.slice xb.A xb.m xb.c) ∧ V.cell? ⟨gb, 8, none⟩ = some (.int .i64 xb.n) ∧ V.cell? ⟨gb, 9, none⟩ = some (.int .u64 xb.v) ∧ V.cell? ⟨gb, 10, none⟩ = some (.int .i64 xb.fr) ∧ V.cell? ⟨gb, 11, none⟩ = some (.int .i64 xb.to)))) (by kernel_rfl) (CE.out _ ((Only.refl [] V6).trans' (Only.drew (Only.refl [] V6)))) (fun hHeld => ?_)
        refine wpAnyH_ready (rs := [0]) (by kernel_rfl) (by simp) ?_
        refine consH rfl (fun K hK => ?_) AllReadyH.nil
        go_simp
        refine (kW.out _).mono ?_
        rintro e v15 ⟨rfl, o⟩
        have O15 := Lib.hid (((Only.refl [] V6).trans' (Only.drew (Only.refl [] V6))).trans' o)
        clear o
        refine hK.out _ _ (CE.out _ O15.out) (fun hHeld2 => ?_)
        clear hK K hHeld
        have hHeld := hHeld2
        clear hHeld2
        try simp only [Act.put, List.setIfInBounds_toArray, List.set_cons_zero, List.set_cons_succ]
        refine takeH (i := 1) (v := ?_) rfl (by kernel_rfl) (by kernel_rfl) (by kernel_rfl) (fun _ _ _ h => h) (Or.inl ⟨by rfl, ?_⟩) (by assumption) ?_
        rotate_left 1
        · (intro w hSw; (try dsimp only at hSw); go_simp; try (with_reducible rfl))
        try simp only [Act.put, List.setIfInBounds_toArray, List.set_cons_zero, List.set_cons_succ]
        refine takeH (i := 2) (v := ?_) rfl (by kernel_rfl) (by kernel_rfl) (by kernel_rfl) (fun _ _ _ h => h) (Or.inl ⟨by rfl, ?_⟩) (by assumption) ?_
        rotate_left 1
        · (intro w hSw; (try dsimp only at hSw); go_simp; try (with_reducible rfl))
        try simp only [Act.put, List.setIfInBounds_toArray, List.set_cons_zero, List.set_cons_succ]
        refine takeH (i := 3) (v := ?_) rfl (by kernel_rfl) (by kernel_rfl) (by kernel_rfl) (fun _ _ _ h => h) (Or.inl ⟨by rfl, ?_⟩) (by assumption) ?_
        rotate_left 1
        · (intro w hSw; (try dsimp only at hSw); go_simp; try (with_reducible rfl))
        try simp only [Act.put, List.setIfInBounds_toArray, List.set_cons_zero, List.set_cons_succ]
        refine takeH (i := 4) (v := ?_) rfl (by kernel_rfl) (by kernel_rfl) (by kernel_rfl) (fun _ _ _ h => h) (Or.inl ⟨by rfl, ?_⟩) (by assumption) ?_
        rotate_left 1
        · (intro w hSw; (try dsimp only at hSw); go_simp; try (with_reducible rfl))
        try simp only [Act.put, List.setIfInBounds_toArray, List.set_cons_zero, List.set_cons_succ]
        refine takeH (i := 5) (v := ?_) rfl (by kernel_rfl) (by kernel_rfl) (by kernel_rfl) (fun _ _ _ h => h) (Or.inl ⟨by rfl, ?_⟩) (by assumption) ?_
        rotate_left 1
        · (intro w hSw; (try dsimp only at hSw); go_simp; try (with_reducible rfl))
        try simp only [Act.put, List.setIfInBounds_toArray, List.set_cons_zero, List.set_cons_succ]
        refine takeH (i := 6) (v := ?_) rfl (by kernel_rfl) (by kernel_rfl) (by kernel_rfl) (fun _ _ _ h => h) (Or.inl ⟨by rfl, ?_⟩) (by assumption) ?_
        rotate_left 1
        · (intro w hSw; (try dsimp only at hSw); go_simp; try (with_reducible rfl))
        try simp only [Act.put, List.setIfInBounds_toArray, List.set_cons_zero, List.set_cons_succ]
        refine takeH (i := 7) (v := ?_) rfl (by kernel_rfl) (by kernel_rfl) (by kernel_rfl) (fun _ _ _ h => h) (Or.inl ⟨by rfl, ?_⟩) (by assumption) ?_
        rotate_left 1
        · (intro w hSw; (try dsimp only at hSw); go_simp; try (with_reducible rfl))
        try simp only [Act.put, List.setIfInBounds_toArray, List.set_cons_zero, List.set_cons_succ]
        refine takeH (i := 8) (v := ?_) rfl (by kernel_rfl) (by kernel_rfl) (by kernel_rfl) (fun _ _ _ h => h) (Or.inl ⟨by rfl, ?_⟩) (by assumption) ?_
        rotate_left 1
        · (intro w hSw; (try dsimp only at hSw); go_simp; try (with_reducible rfl))
        try simp only [Act.put, List.setIfInBounds_toArray, List.set_cons_zero, List.set_cons_succ]
        refine takeH (i := 9) (v := ?_) rfl (by kernel_rfl) (by kernel_rfl) (by kernel_rfl) (fun _ _ _ h => h) (Or.inl ⟨by rfl, ?_⟩) (by assumption) ?_
        rotate_left 1
        · (intro w hSw; (try dsimp only at hSw); go_simp; try (with_reducible rfl))
        try simp only [Act.put, List.setIfInBounds_toArray, List.set_cons_zero, List.set_cons_succ]
        refine takeH (i := 10) (v := ?_) rfl (by kernel_rfl) (by kernel_rfl) (by kernel_rfl) (fun _ _ _ h => h) (Or.inl ⟨by rfl, ?_⟩) (by assumption) ?_
        rotate_left 1
        · (intro w hSw; (try dsimp only at hSw); go_simp; try (with_reducible rfl))
        try simp only [Act.put, List.setIfInBounds_toArray, List.set_cons_zero, List.set_cons_succ]
        refine takeH (i := 11) (v := ?_) rfl (by kernel_rfl) (by kernel_rfl) (by kernel_rfl) (fun _ _ _ h => h) (Or.inl ⟨by rfl, ?_⟩) (by assumption) ?_
        rotate_left 1
        · (intro w hSw; (try dsimp only at hSw); go_simp; try (with_reducible rfl))
        try simp only [Act.put, List.setIfInBounds_toArray, List.set_cons_zero, List.set_cons_succ]
        refine takeH (i := 12) (v := ?_) rfl (by kernel_rfl) (by kernel_rfl) (by kernel_rfl) (fun _ _ _ h => h) (Or.inl ⟨by rfl, ?_⟩) (by assumption) ?_
        rotate_left 1
        · (intro w hSw; (try dsimp only at hSw); go_simp; try (with_reducible rfl))
        try simp only [Act.put, List.setIfInBounds_toArray, List.set_cons_zero, List.set_cons_succ]
        refine takeH (i := 13) (v := ?_) rfl (by kernel_rfl) (by kernel_rfl) (by kernel_rfl) (fun _ _ _ h => h) (Or.inl ⟨by rfl, ?_⟩) (by assumption) ?_
        rotate_left 1
        · (intro w hSw; (try dsimp only at hSw); go_simp; try (with_reducible rfl))
        try simp only [Act.put, List.setIfInBounds_toArray, List.set_cons_zero, List.set_cons_succ]
        refine wpAnyH_ready (rs := [14]) (by kernel_rfl) (by simp) ?_
        refine consH rfl (fun K hK => ?_) AllReadyH.nil
        go_simp
        refine (kA.out _ O15.out).mono ?_
        rintro e v16 ⟨rfl, o⟩
        have O16 := Lib.hid (O15.out.trans' o)
        clear o
        refine hK.out _ _ (CE.out _ O16.out) (fun hHeld2 => ?_)
        clear hK K hHeld
        have hHeld := hHeld2
        clear hHeld2
        try simp only [Act.put, List.setIfInBounds_toArray, List.set_cons_zero, List.set_cons_succ]
        refine takeH (i := 15) (v := ?_) rfl (by kernel_rfl) (by kernel_rfl) (by kernel_rfl) (fun _ _ _ h => h) (Or.inl ⟨by rfl, ?_⟩) (by assumption) ?_
        rotate_left 1
        · (intro w hSw; (try dsimp only at hSw); go_simp; try (with_reducible rfl))
        try simp only [Act.put, List.setIfInBounds_toArray, List.set_cons_zero, List.set_cons_succ]
        refine takeH (i := 16) (v := ?_) rfl (by kernel_rfl) (by kernel_rfl) (by kernel_rfl) (fun _ _ _ h => h) (Or.inl ⟨by rfl, ?_⟩) (by assumption) ?_
        rotate_left 1
        · (intro w hSw; (try dsimp only at hSw); go_simp; try (with_reducible rfl))
        try simp only [Act.put, List.setIfInBounds_toArray, List.set_cons_zero, List.set_cons_succ]
        refine takeH (i := 17) (v := ?_) rfl (by kernel_rfl) (by kernel_rfl) (by kernel_rfl) (fun _ _ _ h => h) (Or.inl ⟨by rfl, ?_⟩) (by assumption) ?_
        rotate_left 1
        · (intro w hSw; (try dsimp only at hSw); go_simp; try (with_reducible rfl))
        try simp only [Act.put, List.setIfInBounds_toArray, List.set_cons_zero, List.set_cons_succ]
        refine takeH (i := 18) (v := ?_) rfl (by kernel_rfl) (by kernel_rfl) (by kernel_rfl) (fun _ _ _ h => h) (Or.inl ⟨by rfl, ?_⟩) (by assumption) ?_
        rotate_left 1
        · (intro w hSw; (try dsimp only at hSw); go_simp; try (with_reducible rfl))
        try simp only [Act.put, List.setIfInBounds_toArray, List.set_cons_zero, List.set_cons_succ]
        refine takeH (i := 19) (v := ?_) rfl (by kernel_rfl) (by kernel_rfl) (by kernel_rfl) (fun _ _ _ h => h) (Or.inl ⟨by rfl, ?_⟩) (by assumption) ?_
        rotate_left 1
        · (intro w hSw; (try dsimp only at hSw); go_simp; try (with_reducible rfl))
        try simp only [Act.put, List.setIfInBounds_toArray, List.set_cons_zero, List.set_cons_succ]
        refine takeH (i := 20) (v := ?_) rfl (by kernel_rfl) (by kernel_rfl) (by kernel_rfl) (fun _ _ _ h => h) (Or.inl ⟨by rfl, ?_⟩) (by assumption) ?_
        rotate_left 1
        · (intro w hSw; (try dsimp only at hSw); go_simp; try (with_reducible rfl))
        try simp only [Act.put, List.setIfInBounds_toArray, List.set_cons_zero, List.set_cons_succ]
        refine takeH (i := 21) (v := ?_) rfl (by kernel_rfl) (by kernel_rfl) (by kernel_rfl) (fun _ _ _ h => h) (Or.inl ⟨by rfl, ?_⟩) (by assumption) ?_
        rotate_left 1
        · (intro w hSw; (try dsimp only at hSw); go_simp; try (with_reducible rfl))
        try simp only [Act.put, List.setIfInBounds_toArray, List.set_cons_zero, List.set_cons_succ]
        refine takeH (i := 22) (v := ?_) rfl (by kernel_rfl) (by kernel_rfl) (by kernel_rfl) (fun _ _ _ h => h) (Or.inl ⟨by rfl, ?_⟩) (by assumption) ?_
        rotate_left 1
        · (intro w hSw; (try dsimp only at hSw); go_simp; try (with_reducible rfl))
        try simp only [Act.put, List.setIfInBounds_toArray, List.set_cons_zero, List.set_cons_succ]
        refine takeH (i := 23) (v := ?_) rfl (by kernel_rfl) (by kernel_rfl) (by kernel_rfl) (fun _ _ _ h => h) (Or.inl ⟨by rfl, ?_⟩) (by assumption) ?_
        rotate_left 1
        · (intro w hSw; (try dsimp only at hSw); go_simp; try (with_reducible rfl))
        try simp only [Act.put, List.setIfInBounds_toArray, List.set_cons_zero, List.set_cons_succ]
        refine wpAnyH_ready (rs := [24]) (by kernel_rfl) (by simp) ?_
        refine consH rfl (fun K hK => ?_) AllReadyH.nil
        go_simp
        refine (kB.out _ O16.out).mono ?_
        rintro e v17 ⟨rfl, o⟩
        have O17 := Lib.hid (O16.out.trans' o)
        clear o
        refine hK.out _ _ (CE.out _ O17.out) (fun hHeld2 => ?_)
        clear hK K hHeld
        have hHeld := hHeld2
        clear hHeld2
        try simp only [Act.put, List.setIfInBounds_toArray, List.set_cons_zero, List.set_cons_succ]
        refine takeH (i := 25) (v := ?_) rfl (by kernel_rfl) (by kernel_rfl) (by kernel_rfl) (fun _ _ _ h => h) (Or.inl ⟨by rfl, ?_⟩) (by assumption) ?_
        rotate_left 1
        · (intro w hSw; (try dsimp only at hSw); go_simp; try (with_reducible rfl))
        try simp only [Act.put, List.setIfInBounds_toArray, List.set_cons_zero, List.set_cons_succ]
        refine takeH (i := 26) (v := ?_) rfl (by kernel_rfl) (by kernel_rfl) (by kernel_rfl) (fun _ _ _ h => h) (Or.inl ⟨by rfl, ?_⟩) (by assumption) ?_
        rotate_left 1
        · (intro w hSw; (try dsimp only at hSw); go_simp; try (with_reducible rfl))
        try simp only [Act.put, List.setIfInBounds_toArray, List.set_cons_zero, List.set_cons_succ]
        refine wpAnyH_done (by kernel_rfl) ?_ _
        clear kA kB kW CE C0 CB w3 w4 w5 w6 w2 w7 w8 w9
        go_wp2_with fail
        go_loopg [11] (xd.m + 2) (fun gk si wr => ∃ i : Nat, si = .int .i64 (i : Int) ∧ 1 ≤ i ∧ i ≤ xd.m + 1 ∧ xd.m + 2 ≤ gk + i ∧ Hid (Only [] V6 wr))
        case atStart => exact ⟨1, rfl, by omega, by omega, by omega, O17.out⟩
        case round =>
          obtain ⟨i, rfl, hi1, hiN, hg, O⟩ := hrel
          obtain ⟨e0, e1, -, -, -, -, e6, e7, -, -, e10, e11⟩ := (BX.out wr O.out).2.1
          rw [FD.out.1.2] at e6
          by_cases hin : i ≤ xd.m
          · have hin' : (i : Int) ≤ (xd.m : Int) := by omega
            have i1 : decide (i < xd.m + 2) = true := by simp; omega
            have i2 : (i : Int) < (xd.m : Int) + 2 := by omega
            have cn := cl_neq 4 0 0 0
            have wi : IntKind.i64.wrap ((i : Int) + 1) = (i : Int) + 1 := by rw [IntKind.wrap_i64]; omega
            clear e0 e1 e7 e10
            have hA : ∃ ad, xd.A = some ad := by
              rcases h : xd.A with _ | ad
              · have := FD.out.2.1.nil h
                omega
              · exact ⟨ad, rfl⟩
            obtain ⟨ad, hA⟩ := hA
            have HA := Lib.hid hA
            clear hA
            have him : (i : Int) ≤ (xd.m : Int) := by omega
            have j1 : IntKind.i64.wrap ((i : Int) - 1) = (i : Int) - 1 := by rw [IntKind.wrap_i64]; omega
            have j2 : (1 : Int) ≤ (i : Int) := by omega
            have j3 : ((i : Int) - 1).toNat = i - 1 := by omega
            have j4 : i ≤ xd.c := by have := FD.out.2.1.cap; omega
            have j5 : i - (i - 1) = 1 := by omega
            have j6 : (i : Int) - 1 ≤ (i : Int) := by omega
            have j7 : ¬ xd.c = i - 1 := by have := FD.out.2.1.cap; omega
            obtain ⟨A, c, p, hp, HB⟩ := PB.out (i - 1) (by omega)
            have hb := (HB wr O.out).1
            rw [show i - 1 + 1 = i by omega] at hb
            unfold DnAt partD at hb
            dsimp only at hb
            obtain ⟨b0, b1, b2, b3, b4, b5, b6, b7, b8, b9, b10, b11⟩ := hb
            have OU : Hid (Only [] wr (wr.alloc (.cells #[.int .i64 xd.who, .int .i64 xd.place, .int .i64 4, .int .i64 0, .int .i64 0, .int .i64 0, .int .i64 0, .slice A 1 c, .int .i64 0, .int .u64 0, .int .i64 xd.fr, .int .i64 xd.to] 30))) := (Only.refl [] wr).alloc _
            have NBD : Hid (DnAt (wr.alloc (.cells #[.int .i64 xd.who, .int .i64 xd.place, .int .i64 4, .int .i64 0, .int .i64 0, .int .i64 0, .int .i64 0, .slice A 1 c, .int .i64 0, .int .u64 0, .int .i64 xd.fr, .int .i64 xd.to] 30)) wr.heap.size 0 (partD xd 0 A 1 c)) := DnAt.of_cells (heap_alloc_new wr _)
            have HBH := Lib.hid HB
            clear HB
            have HP := Lib.hid hp
            clear hp
            go_upto_region 21 with fail
            clear b0 b1 b2 b3 b4 b5 b6 b7 b8 b9 b10 b11
            generalize wr.alloc (.cells #[.int .i64 xd.who, .int .i64 xd.place, .int .i64 4, .int .i64 0, .int .i64 0, .int .i64 0, .int .i64 0, .slice A 1 c, .int .i64 0, .int .u64 0, .int .i64 xd.fr, .int .i64 xd.to] 30) = U at *
            generalize wr.heap.size = nb at *
            have hf := NBD.out
            unfold DnAt partD at hf
            dsimp only at hf
            simp only [Nat.zero_add] at hf
            obtain ⟨f0, f1, f2, f3, f4, f5, f6, f7, f8, f9, f10, f11⟩ := hf
            obtain ⟨y0, y1, -, -, -, -, -, y7, -, -, y10, y11⟩ := (BX.out U (O.out.trans' OU.out)).2.1
            go_upto_region 23 with fail
            clear f0 f1 f2 f3 f4 f5 f6 f7 f8 f9 f10 f11 y0 y1 y7 y10 y11
            have kR := Lib.hid (fun (V : World) (o : Only [] U V) => kRet 0 0 0 V A (some (ad.add ((i - 1) * 3))) 1 c (xd.c - (i - 1)) [p] rfl (by decide) (HBH.out V ((O.out.trans' OU.out).trans' o)).2 (src_sub (by rw [← HA.out]; exact SRC.out.2.1.2.1.only0 ((O.out.trans' OU.out).trans' o)) HP.out))
            have CR : Hid (∀ V, Only [] U V → V.cell? ⟨nb, 6, none⟩ = some (.int .i64 0) ∧ V.cell? ⟨nb, 7, none⟩ = some (.slice A 1 c) ∧ V.cell? ⟨nb, 8, none⟩ = some (.int .i64 0) ∧ V.cell? ⟨nb, 9, none⟩ = some (.int .u64 0) ∧ V.cell? ⟨gd, 7, none⟩ = some (.slice (some ad) xd.m xd.c)) := fun V o => by
              have h7 := (BX.out V ((O.out.trans' OU.out).trans' o)).2.1.2.2.2.2.2.2.2.1
              rw [HA.out] at h7
              have h8 := NBD.out.only0 o
              unfold DnAt partD at h8
              simp only [Nat.zero_add] at h8
              exact ⟨h8.2.2.2.2.2.2.1, h8.2.2.2.2.2.2.2.1, h8.2.2.2.2.2.2.2.2.1, h8.2.2.2.2.2.2.2.2.2.1, h7⟩
            refine wp_region_held_drew (S := (fun V => V.cell? ⟨nb, 6, none⟩ = some (.int .i64 0) ∧ V.cell? ⟨nb, 7, none⟩ = some (.slice A 1 c) ∧ V.cell? ⟨nb, 8, none⟩ = some (.int .i64 0) ∧ V.cell? ⟨nb, 9, none⟩ = some (.int .u64 0) ∧ V.cell? ⟨gd, 7, none⟩ = some (.slice (some ad) xd.m xd.c))) (by kernel_rfl) (CR.out _ (Only.drew (Only.refl [] U))) (fun hHeld => ?_)
            refine takeH (i := 0) (v := ?_) rfl (by kernel_rfl) (by kernel_rfl) (by kernel_rfl) (fun _ _ _ h => h) (Or.inl ⟨by rfl, ?_⟩) (by assumption) ?_
            rotate_left 1
            · (intro w hSw; (try dsimp only at hSw); go_simp; try (with_reducible rfl))
            try simp only [Act.put, List.setIfInBounds_toArray, List.set_cons_zero, List.set_cons_succ]
            refine takeH (i := 1) (v := ?_) rfl (by kernel_rfl) (by kernel_rfl) (by kernel_rfl) (fun _ _ _ h => h) (Or.inl ⟨by rfl, ?_⟩) (by assumption) ?_
            rotate_left 1
            · (intro w hSw; (try dsimp only at hSw); go_simp; try (with_reducible rfl))
            try simp only [Act.put, List.setIfInBounds_toArray, List.set_cons_zero, List.set_cons_succ]
            refine takeH (i := 2) (v := ?_) rfl (by kernel_rfl) (by kernel_rfl) (by kernel_rfl) (fun _ _ _ h => h) (Or.inl ⟨by rfl, ?_⟩) (by assumption) ?_
            rotate_left 1
            · (intro w hSw; (try dsimp only at hSw); go_simp; try (with_reducible rfl))
            try simp only [Act.put, List.setIfInBounds_toArray, List.set_cons_zero, List.set_cons_succ]
            refine takeH (i := 3) (v := ?_) rfl (by kernel_rfl) (by kernel_rfl) (by kernel_rfl) (fun _ _ _ h => h) (Or.inl ⟨by rfl, ?_⟩) (by assumption) ?_
            rotate_left 1
            · (intro w hSw; (try dsimp only at hSw); go_simp; try (with_reducible rfl))
            try simp only [Act.put, List.setIfInBounds_toArray, List.set_cons_zero, List.set_cons_succ]
            refine takeH (i := 4) (v := ?_) rfl (by kernel_rfl) (by kernel_rfl) (by kernel_rfl) (fun _ _ _ h => h) (Or.inl ⟨by rfl, ?_⟩) (by assumption) ?_
            rotate_left 1
            · (intro w hSw; (try dsimp only at hSw); go_simp; try (with_reducible rfl))
            try simp only [Act.put, List.setIfInBounds_toArray, List.set_cons_zero, List.set_cons_succ]
            refine takeH (i := 5) (v := ?_) rfl (by kernel_rfl) (by kernel_rfl) (by kernel_rfl) (fun _ _ _ h => h) (Or.inl ⟨by rfl, ?_⟩) (by assumption) ?_
            rotate_left 1
            · (intro w hSw; (try dsimp only at hSw); go_simp; try (with_reducible rfl))
            try simp only [Act.put, List.setIfInBounds_toArray, List.set_cons_zero, List.set_cons_succ]
            refine takeH (i := 6) (v := ?_) rfl (by kernel_rfl) (by kernel_rfl) (by kernel_rfl) (fun _ _ _ h => h) (Or.inl ⟨by rfl, ?_⟩) (by assumption) ?_
            rotate_left 1
            · (intro w hSw; (try dsimp only at hSw); go_simp; try (with_reducible rfl))
            try simp only [Act.put, List.setIfInBounds_toArray, List.set_cons_zero, List.set_cons_succ]
            refine takeH (i := 7) (v := ?_) rfl (by kernel_rfl) (by kernel_rfl) (by kernel_rfl) (fun _ _ _ h => h) (Or.inl ⟨by rfl, ?_⟩) (by assumption) ?_
            rotate_left 1
            · (intro w hSw; (try dsimp only at hSw); go_simp; try (with_reducible rfl))
            try simp only [Act.put, List.setIfInBounds_toArray, List.set_cons_zero, List.set_cons_succ]
            refine takeH (i := 8) (v := ?_) rfl (by kernel_rfl) (by kernel_rfl) (by kernel_rfl) (fun _ _ _ h => h) (Or.inl ⟨by rfl, ?_⟩) (by assumption) ?_
            rotate_left 1
            · (intro w hSw; (try dsimp only at hSw); go_simp; try (with_reducible rfl))
            try simp only [Act.put, List.setIfInBounds_toArray, List.set_cons_zero, List.set_cons_succ]
            refine takeH (i := 9) (v := ?_) rfl (by kernel_rfl) (by kernel_rfl) (by kernel_rfl) (fun _ _ _ h => h) (Or.inl ⟨by rfl, ?_⟩) (by assumption) ?_
            rotate_left 1
            · (intro w hSw; (try dsimp only at hSw); go_simp; try (with_reducible rfl))
            try simp only [Act.put, List.setIfInBounds_toArray, List.set_cons_zero, List.set_cons_succ]
            refine takeH (i := 10) (v := ?_) rfl (by kernel_rfl) (by kernel_rfl) (by kernel_rfl) (fun _ _ _ h => h) (Or.inl ⟨by rfl, ?_⟩) (by assumption) ?_
            rotate_left 1
            · (intro w hSw; (try dsimp only at hSw); go_simp; try (with_reducible rfl))
            try simp only [Act.put, List.setIfInBounds_toArray, List.set_cons_zero, List.set_cons_succ]
            refine takeH (i := 11) (v := ?_) rfl (by kernel_rfl) (by kernel_rfl) (by kernel_rfl) (fun _ _ _ h => h) (Or.inl ⟨by rfl, ?_⟩) (by assumption) ?_
            rotate_left 1
            · (intro w hSw; (try dsimp only at hSw); go_simp; try (with_reducible rfl))
            try simp only [Act.put, List.setIfInBounds_toArray, List.set_cons_zero, List.set_cons_succ]
            refine takeH (i := 12) (v := ?_) rfl (by kernel_rfl) (by kernel_rfl) (by kernel_rfl) (fun _ _ _ h => h) (Or.inl ⟨by rfl, ?_⟩) (by assumption) ?_
            rotate_left 1
            · (intro w hSw; (try dsimp only at hSw); go_simp; try (with_reducible rfl))
            try simp only [Act.put, List.setIfInBounds_toArray, List.set_cons_zero, List.set_cons_succ]
            refine takeH (i := 13) (v := ?_) rfl (by kernel_rfl) (by kernel_rfl) (by kernel_rfl) (fun _ _ _ h => h) (Or.inl ⟨by rfl, ?_⟩) (by assumption) ?_
            rotate_left 1
            · (intro w hSw; (try dsimp only at hSw); go_simp; try (with_reducible rfl))
            try simp only [Act.put, List.setIfInBounds_toArray, List.set_cons_zero, List.set_cons_succ]
            refine takeH (i := 14) (v := ?_) rfl (by kernel_rfl) (by kernel_rfl) (by kernel_rfl) (fun _ _ _ h => h) (Or.inl ⟨by rfl, ?_⟩) (by assumption) ?_
            rotate_left 1
            · (intro w hSw; (try dsimp only at hSw); go_simp; try (with_reducible rfl))
            try simp only [Act.put, List.setIfInBounds_toArray, List.set_cons_zero, List.set_cons_succ]
            refine takeH (i := 15) (v := ?_) rfl (by kernel_rfl) (by kernel_rfl) (by kernel_rfl) (fun _ _ _ h => h) (Or.inl ⟨by rfl, ?_⟩) (by assumption) ?_
            rotate_left 1
            · (intro w hSw; (try dsimp only at hSw); go_simp; try (with_reducible rfl))
            try simp only [Act.put, List.setIfInBounds_toArray, List.set_cons_zero, List.set_cons_succ]
            refine takeH (i := 16) (v := ?_) rfl (by kernel_rfl) (by kernel_rfl) (by kernel_rfl) (fun _ _ _ h => h) (Or.inl ⟨by rfl, ?_⟩) (by assumption) ?_
            rotate_left 1
            · (intro w hSw; (try dsimp only at hSw); go_simp; try (with_reducible rfl))
            try simp only [Act.put, List.setIfInBounds_toArray, List.set_cons_zero, List.set_cons_succ]
            refine wpAnyH_ready (rs := [17]) (by kernel_rfl) (by simp) ?_
            refine consH rfl (fun K hK => ?_) AllReadyH.nil
            go_simp
            refine (kR.out _ (Only.drew (Only.refl [] U))).mono ?_
            rintro e v23 ⟨rfl, o⟩
            have O23 := Lib.hid ((Only.drew (Only.refl [] U)).trans' o)
            clear o
            refine hK.out _ _ (CR.out _ O23.out) (fun hHeld2 => ?_)
            clear hK K hHeld
            have hHeld := hHeld2
            clear hHeld2
            try simp only [Act.put, List.setIfInBounds_toArray, List.set_cons_zero, List.set_cons_succ]
            refine takeH (i := 18) (v := ?_) rfl (by kernel_rfl) (by kernel_rfl) (by kernel_rfl) (fun _ _ _ h => h) (Or.inl ⟨by rfl, ?_⟩) (by assumption) ?_
            rotate_left 1
            · (intro w hSw; (try dsimp only at hSw); go_simp; try (with_reducible rfl))
            try simp only [Act.put, List.setIfInBounds_toArray, List.set_cons_zero, List.set_cons_succ]
            refine takeH (i := 19) (v := ?_) rfl (by kernel_rfl) (by kernel_rfl) (by kernel_rfl) (fun _ _ _ h => h) (Or.inl ⟨by rfl, ?_⟩) (by assumption) ?_
            rotate_left 1
            · (intro w hSw; (try dsimp only at hSw); go_simp; try (with_reducible rfl))
            try simp only [Act.put, List.setIfInBounds_toArray, List.set_cons_zero, List.set_cons_succ]
            refine wpAnyH_done (by kernel_rfl) ?_ _
            clear CR
            go_wp2_with fail
            go_roundg (xd.m + 2 - (i + 1))
            case measure => omega
            case rel => exact ⟨i + 1, by simp, by omega, by omega, by omega, (O.out.trans' OU.out).trans' O23.out⟩
          · have hin' : ¬ (i : Int) ≤ (xd.m : Int) := by omega
            have hin2 : decide ((i : Int) ≤ (xd.m : Int)) = false := decide_eq_false hin'
            clear e0 e1 e7 e10
            go_wp2_with fail
            go_ret
            exact ⟨rfl, (OW.out.trans' O.out).toBelow⟩
      · rw [FD.out.1.2] at d6
        have h11 : (xd.to == -1) = false := by simpa using ht
        have h12 : (xd.to != -1) = true := by simpa using ht
        have PX : Hid (partsD (xd.strip, p1) = (p1.map fun p => partA xd.strip 0 [p]) ++ [partA xd.strip 10 []]) := by
          show _ = _
          unfold partsD
          rw [show divB (xd.strip, p1).1 = true by unfold divB opn; simp [Dn.strip, ht, show xd.op = 5 from FD.out.1.1, show xd.e = 10 from FD.out.1.2], if_pos rfl]
          unfold partsA
          simp [Dn.strip, show xd.e = 10 from FD.out.1.2]
        have EN : Hid (n = xd.m + 1) := by
          show _ = _
          rw [← hn, PX.out, SRC.out.2.1.1]
          simp
        have PB : Hid (∀ j, j < xd.m → ∃ (A : Option Addr) (c : Nat) (p : Pk), p1[j]? = some p ∧ ∀ V, Only [] V6 V → DnAt V g3 ((j + 1) * 12) (partD xd 0 A 1 c) ∧ pE.Src V A [p]) := fun j hj => by
          have hl : j < p1.length := by rw [← SRC.out.2.1.1]; exact hj
          have hp : p1[j]? = some p1[j] := List.getElem?_eq_getElem hl
          obtain ⟨r, gx, -, eB, c1, s1, m1, u1⟩ := AT.out (j + 1) (partA xd.strip 0 [p1[j]]) (by
            rw [List.getElem?_cons_succ, PX.out, List.getElem?_append_left (by simp; omega)]
            rw [List.getElem?_append_left (by simpa using hl)]
            rw [List.getElem?_map, hp]
            rfl)
          injection eB with eB
          injection eB with eB
          subst eB
          have e1 := part_is s1
          rw [show r.m = 1 from m1] at e1
          rw [e1] at c1
          exact ⟨r.A, r.c, p1[j], hp, fun V o => ⟨c1.only0 o, u1.only0 o⟩⟩
        have PZ : Hid (∃ (A : Option Addr) (c : Nat), ∀ V, Only [] V6 V → DnAt V g3 ((xd.m + 1) * 12) (partD xd 10 A 0 c)) := by
          obtain ⟨r, gx, -, eB, c1, s1, m1, u1⟩ := AT.out (xd.m + 1) (partA xd.strip 10 []) (by
            rw [List.getElem?_cons_succ, PX.out, List.getElem?_append_left (by simp; have := SRC.out.2.1.1; omega), List.getElem?_append_right (by simp; have := SRC.out.2.1.1; omega)]
            simp [SRC.out.2.1.1])
          injection eB with eB
          injection eB with eB
          subst eB
          have e1 := part_is s1
          rw [show r.m = 0 from m1] at e1
          rw [e1] at c1
          exact ⟨r.A, r.c, fun V o => c1.only0 o⟩
        have hN : n ≤ 1048577 := by have := EN.out; have := SRC.out.2.1.2.2; omega
        have w1 : IntKind.i64.wrap ((n : Int) + 1) = (n : Int) + 1 := by rw [IntKind.wrap_i64]; omega
        have w2 : IntKind.i64.wrap ((n : Int) + 2) = (n : Int) + 2 := by rw [IntKind.wrap_i64]; omega
        have w3 : (0 : Int) ≤ (n : Int) + 1 := by omega
        have w4 : ((n : Int) + 1).toNat = n + 1 := by omega
        have w5 : decide (n + 1 < n + 2) = true := by simp
        have w6 : decide (n < n + 2) = true := by simp
        have w7 : (0 : Int) < (n : Int) + 2 := by omega
        have w8 : (n : Int) + 1 < (n : Int) + 2 := by omega
        have w9 : (n : Int) < (n : Int) + 2 := by omega
        clear hn PX ER AT
        have HT := Lib.hid ht
        have wm : IntKind.i64.wrap ((xd.m : Int) + 1) = (n : Int) := by have := EN.out; rw [IntKind.wrap_i64]; omega
        go_upto_region 13 with fail
        clear d6 d11
        obtain ⟨Az, cz, HZ⟩ := PZ.out
        have hz := HZ V6 (Only.refl [] V6)
        rw [show xd.m + 1 = n by have := EN.out; omega] at hz
        unfold DnAt partD at hz
        dsimp only at hz
        obtain ⟨-, -, -, -, -, -, z6, z7, z8, z9, -, -⟩ := hz
        have kZ := Lib.hid (kRet 10 0 0 V6 Az none 0 cz 0 [] rfl (by decide) (El.Src.nil _ _) (El.Src.nil _ _))
        clear HZ
        go_wp2_with fail
        refine kZ.out.mono ?_
        rintro e v13 ⟨rfl, o13⟩
        have O13 := Lib.hid o13
        clear o13 kZ z6 z7 z8 z9
        have CE : Hid (∀ V, Only [] V6 V → _ ∧ _ ∧ _ ∧ _) := fun V o => ⟨C0.out V o, CB.out V o, (BX.out V o).1, (BX.out V o).2.2⟩
        go_upto_region 15 with fail

        refine wp_region_held_drew (S := (fun V => (V.cell? ⟨g3, 0, none⟩ = some (.int .i64 xa.who) ∧ V.cell? ⟨g3, 1, none⟩ = some (.int .i64 xa.place) ∧ V.cell? ⟨g3, 2, none⟩ = some (.int .i64 xa.op) ∧ V.cell? ⟨g3, 3, none⟩ = some (.int .i64 xa.f) ∧ V.cell? ⟨g3, 4, none⟩ = some (.int .i64 xa.a) ∧ V.cell? ⟨g3, 5, none⟩ = some (.int .i64 xa.b) ∧ V.cell? ⟨g3, 6, none⟩ = some (.int .i64 xa.e) ∧ V.cell? ⟨g3, 7, none⟩ = some (.slice A0 xa.m k0) ∧ V.cell? ⟨g3, 8, none⟩ = some (.int .i64 xa.n) ∧ V.cell? ⟨g3, 9, none⟩ = some (.int .u64 xa.v) ∧ V.cell? ⟨g3, 10, none⟩ = some (.int .i64 xa.fr) ∧ V.cell? ⟨g3, 11, none⟩ = some (.int .i64 xa.to)) ∧ (V.cell? ⟨g3, (n + 1) * 12, none⟩ = some (.int .i64 xb.who) ∧ V.cell? ⟨g3, (n + 1) * 12 + 1, none⟩ = some (.int .i64 xb.place) ∧ V.cell? ⟨g3, (n + 1) * 12 + 2, none⟩ = some (.int .i64 xb.op) ∧ V.cell? ⟨g3, (n + 1) * 12 + 3, none⟩ = some (.int .i64 xb.f) ∧ V.cell? ⟨g3, (n + 1) * 12 + 4, none⟩ = some (.int .i64 xb.a) ∧ V.cell? ⟨g3, (n + 1) * 12 + 5, none⟩ = some (.int .i64 xb.b) ∧ V.cell? ⟨g3, (n + 1) * 12 + 6, none⟩ = some (.int .i64 xb.e) ∧ V.cell? ⟨g3, (n + 1) * 12 + 7, none⟩ = some (.slice Ab xb.m kb) ∧ V.cell? ⟨g3, (n + 1) * 12 + 8, none⟩ = some (.int .i64 xb.n) ∧ V.cell? ⟨g3, (n + 1) * 12 + 9, none⟩ = some (.int .u64 xb.v) ∧ V.cell? ⟨g3, (n + 1) * 12 + 10, none⟩ = some (.int .i64 xb.fr) ∧ V.cell? ⟨g3, (n + 1) * 12 + 11, none⟩ = some (.int .i64 xb.to)) ∧ (V.cell? ⟨ga, 0, none⟩ = some (.int .i64 xa.who) ∧ V.cell? ⟨ga, 1, none⟩ = some (.int .i64 xa.place) ∧ V.cell? ⟨ga, 2, none⟩ = some (.int .i64 xa.op) ∧ V.cell? ⟨ga, 3, none⟩ = some (.int .i64 xa.f) ∧ V.cell? ⟨ga, 4, none⟩ = some (.int .i64 xa.a) ∧ V.cell? ⟨ga, 5, none⟩ = some (.int .i64 xa.b) ∧ V.cell? ⟨ga, 6, none⟩ = some (.int .i64 xa.e) ∧ V.cell? ⟨ga, 7, none⟩ = some (.slice xa.A xa.m xa.c) ∧ V.cell? ⟨ga, 8, none⟩ = some (.int .i64 xa.n) ∧ V.cell? ⟨ga, 9, none⟩ = some (.int .u64 xa.v) ∧ V.cell? ⟨ga, 10, none⟩ = some (.int .i64 xa.fr) ∧ V.cell? ⟨ga, 11, none⟩ = some (.int .i64 xa.to)) ∧ (V.cell? ⟨gb, 0, none⟩ = some (.int .i64 xb.who) ∧ V.cell? ⟨gb, 1, none⟩ = some (.int .i64 xb.place) ∧ V.cell? ⟨gb, 2, none⟩ = some (.int .i64 xb.op) ∧ V.cell? ⟨gb, 3, none⟩ = some (.int .i64 xb.f) ∧ V.cell? ⟨gb, 4, none⟩ = some (.int .i64 xb.a) ∧ V.cell? ⟨gb, 5, none⟩ = some (.int .i64 xb.b) ∧ V.cell? ⟨gb, 6, none⟩ = some (.int .i64 xb.e) ∧ V.cell? ⟨gb, 7, none⟩ = some (.slice xb.A xb.m xb.c) ∧ V.cell? ⟨gb, 8, none⟩ = some (.int .i64 xb.n) ∧ V.cell? ⟨gb, 9, none⟩ = some (.int .u64 xb.v) ∧ V.cell? ⟨gb, 10, none⟩ = some (.int .i64 xb.fr) ∧ V.cell? ⟨gb, 11, none⟩ = some (.int .i64 xb.to)))) (by kernel_rfl) (CE.out _ (O13.out.trans' (Only.drew (Only.refl [] v13)))) (fun hHeld => ?_)
        refine wpAnyH_ready (rs := [0]) (by kernel_rfl) (by simp) ?_
        refine consH rfl (fun K hK => ?_) AllReadyH.nil
        go_simp
        refine (kW.out _).mono ?_
        rintro e v15 ⟨rfl, o⟩
        have O15 := Lib.hid ((O13.out.trans' (Only.drew (Only.refl [] v13))).trans' o)
        clear o
        refine hK.out _ _ (CE.out _ O15.out) (fun hHeld2 => ?_)
        clear hK K hHeld
        have hHeld := hHeld2
        clear hHeld2
        try simp only [Act.put, List.setIfInBounds_toArray, List.set_cons_zero, List.set_cons_succ]
        refine takeH (i := 1) (v := ?_) rfl (by kernel_rfl) (by kernel_rfl) (by kernel_rfl) (fun _ _ _ h => h) (Or.inl ⟨by rfl, ?_⟩) (by assumption) ?_
        rotate_left 1
        · (intro w hSw; (try dsimp only at hSw); go_simp; try (with_reducible rfl))
        try simp only [Act.put, List.setIfInBounds_toArray, List.set_cons_zero, List.set_cons_succ]
        refine takeH (i := 2) (v := ?_) rfl (by kernel_rfl) (by kernel_rfl) (by kernel_rfl) (fun _ _ _ h => h) (Or.inl ⟨by rfl, ?_⟩) (by assumption) ?_
        rotate_left 1
        · (intro w hSw; (try dsimp only at hSw); go_simp; try (with_reducible rfl))
        try simp only [Act.put, List.setIfInBounds_toArray, List.set_cons_zero, List.set_cons_succ]
        refine takeH (i := 3) (v := ?_) rfl (by kernel_rfl) (by kernel_rfl) (by kernel_rfl) (fun _ _ _ h => h) (Or.inl ⟨by rfl, ?_⟩) (by assumption) ?_
        rotate_left 1
        · (intro w hSw; (try dsimp only at hSw); go_simp; try (with_reducible rfl))
        try simp only [Act.put, List.setIfInBounds_toArray, List.set_cons_zero, List.set_cons_succ]
        refine takeH (i := 4) (v := ?_) rfl (by kernel_rfl) (by kernel_rfl) (by kernel_rfl) (fun _ _ _ h => h) (Or.inl ⟨by rfl, ?_⟩) (by assumption) ?_
        rotate_left 1
        · (intro w hSw; (try dsimp only at hSw); go_simp; try (with_reducible rfl))
        try simp only [Act.put, List.setIfInBounds_toArray, List.set_cons_zero, List.set_cons_succ]
        refine takeH (i := 5) (v := ?_) rfl (by kernel_rfl) (by kernel_rfl) (by kernel_rfl) (fun _ _ _ h => h) (Or.inl ⟨by rfl, ?_⟩) (by assumption) ?_
        rotate_left 1
        · (intro w hSw; (try dsimp only at hSw); go_simp; try (with_reducible rfl))
        try simp only [Act.put, List.setIfInBounds_toArray, List.set_cons_zero, List.set_cons_succ]
        refine takeH (i := 6) (v := ?_) rfl (by kernel_rfl) (by kernel_rfl) (by kernel_rfl) (fun _ _ _ h => h) (Or.inl ⟨by rfl, ?_⟩) (by assumption) ?_
        rotate_left 1
        · (intro w hSw; (try dsimp only at hSw); go_simp; try (with_reducible rfl))
        try simp only [Act.put, List.setIfInBounds_toArray, List.set_cons_zero, List.set_cons_succ]
        refine takeH (i := 7) (v := ?_) rfl (by kernel_rfl) (by kernel_rfl) (by kernel_rfl) (fun _ _ _ h => h) (Or.inl ⟨by rfl, ?_⟩) (by assumption) ?_
        rotate_left 1
        · (intro w hSw; (try dsimp only at hSw); go_simp; try (with_reducible rfl))
        try simp only [Act.put, List.setIfInBounds_toArray, List.set_cons_zero, List.set_cons_succ]
        refine takeH (i := 8) (v := ?_) rfl (by kernel_rfl) (by kernel_rfl) (by kernel_rfl) (fun _ _ _ h => h) (Or.inl ⟨by rfl, ?_⟩) (by assumption) ?_
        rotate_left 1
        · (intro w hSw; (try dsimp only at hSw); go_simp; try (with_reducible rfl))
        try simp only [Act.put, List.setIfInBounds_toArray, List.set_cons_zero, List.set_cons_succ]
        refine takeH (i := 9) (v := ?_) rfl (by kernel_rfl) (by kernel_rfl) (by kernel_rfl) (fun _ _ _ h => h) (Or.inl ⟨by rfl, ?_⟩) (by assumption) ?_
        rotate_left 1
        · (intro w hSw; (try dsimp only at hSw); go_simp; try (with_reducible rfl))
        try simp only [Act.put, List.setIfInBounds_toArray, List.set_cons_zero, List.set_cons_succ]
        refine takeH (i := 10) (v := ?_) rfl (by kernel_rfl) (by kernel_rfl) (by kernel_rfl) (fun _ _ _ h => h) (Or.inl ⟨by rfl, ?_⟩) (by assumption) ?_
        rotate_left 1
        · (intro w hSw; (try dsimp only at hSw); go_simp; try (with_reducible rfl))
        try simp only [Act.put, List.setIfInBounds_toArray, List.set_cons_zero, List.set_cons_succ]
        refine takeH (i := 11) (v := ?_) rfl (by kernel_rfl) (by kernel_rfl) (by kernel_rfl) (fun _ _ _ h => h) (Or.inl ⟨by rfl, ?_⟩) (by assumption) ?_
        rotate_left 1
        · (intro w hSw; (try dsimp only at hSw); go_simp; try (with_reducible rfl))
        try simp only [Act.put, List.setIfInBounds_toArray, List.set_cons_zero, List.set_cons_succ]
        refine takeH (i := 12) (v := ?_) rfl (by kernel_rfl) (by kernel_rfl) (by kernel_rfl) (fun _ _ _ h => h) (Or.inl ⟨by rfl, ?_⟩) (by assumption) ?_
        rotate_left 1
        · (intro w hSw; (try dsimp only at hSw); go_simp; try (with_reducible rfl))
        try simp only [Act.put, List.setIfInBounds_toArray, List.set_cons_zero, List.set_cons_succ]
        refine takeH (i := 13) (v := ?_) rfl (by kernel_rfl) (by kernel_rfl) (by kernel_rfl) (fun _ _ _ h => h) (Or.inl ⟨by rfl, ?_⟩) (by assumption) ?_
        rotate_left 1
        · (intro w hSw; (try dsimp only at hSw); go_simp; try (with_reducible rfl))
        try simp only [Act.put, List.setIfInBounds_toArray, List.set_cons_zero, List.set_cons_succ]
        refine wpAnyH_ready (rs := [14]) (by kernel_rfl) (by simp) ?_
        refine consH rfl (fun K hK => ?_) AllReadyH.nil
        go_simp
        refine (kA.out _ O15.out).mono ?_
        rintro e v16 ⟨rfl, o⟩
        have O16 := Lib.hid (O15.out.trans' o)
        clear o
        refine hK.out _ _ (CE.out _ O16.out) (fun hHeld2 => ?_)
        clear hK K hHeld
        have hHeld := hHeld2
        clear hHeld2
        try simp only [Act.put, List.setIfInBounds_toArray, List.set_cons_zero, List.set_cons_succ]
        refine takeH (i := 15) (v := ?_) rfl (by kernel_rfl) (by kernel_rfl) (by kernel_rfl) (fun _ _ _ h => h) (Or.inl ⟨by rfl, ?_⟩) (by assumption) ?_
        rotate_left 1
        · (intro w hSw; (try dsimp only at hSw); go_simp; try (with_reducible rfl))
        try simp only [Act.put, List.setIfInBounds_toArray, List.set_cons_zero, List.set_cons_succ]
        refine takeH (i := 16) (v := ?_) rfl (by kernel_rfl) (by kernel_rfl) (by kernel_rfl) (fun _ _ _ h => h) (Or.inl ⟨by rfl, ?_⟩) (by assumption) ?_
        rotate_left 1
        · (intro w hSw; (try dsimp only at hSw); go_simp; try (with_reducible rfl))
        try simp only [Act.put, List.setIfInBounds_toArray, List.set_cons_zero, List.set_cons_succ]
        refine takeH (i := 17) (v := ?_) rfl (by kernel_rfl) (by kernel_rfl) (by kernel_rfl) (fun _ _ _ h => h) (Or.inl ⟨by rfl, ?_⟩) (by assumption) ?_
        rotate_left 1
        · (intro w hSw; (try dsimp only at hSw); go_simp; try (with_reducible rfl))
        try simp only [Act.put, List.setIfInBounds_toArray, List.set_cons_zero, List.set_cons_succ]
        refine takeH (i := 18) (v := ?_) rfl (by kernel_rfl) (by kernel_rfl) (by kernel_rfl) (fun _ _ _ h => h) (Or.inl ⟨by rfl, ?_⟩) (by assumption) ?_
        rotate_left 1
        · (intro w hSw; (try dsimp only at hSw); go_simp; try (with_reducible rfl))
        try simp only [Act.put, List.setIfInBounds_toArray, List.set_cons_zero, List.set_cons_succ]
        refine takeH (i := 19) (v := ?_) rfl (by kernel_rfl) (by kernel_rfl) (by kernel_rfl) (fun _ _ _ h => h) (Or.inl ⟨by rfl, ?_⟩) (by assumption) ?_
        rotate_left 1
        · (intro w hSw; (try dsimp only at hSw); go_simp; try (with_reducible rfl))
        try simp only [Act.put, List.setIfInBounds_toArray, List.set_cons_zero, List.set_cons_succ]
        refine takeH (i := 20) (v := ?_) rfl (by kernel_rfl) (by kernel_rfl) (by kernel_rfl) (fun _ _ _ h => h) (Or.inl ⟨by rfl, ?_⟩) (by assumption) ?_
        rotate_left 1
        · (intro w hSw; (try dsimp only at hSw); go_simp; try (with_reducible rfl))
        try simp only [Act.put, List.setIfInBounds_toArray, List.set_cons_zero, List.set_cons_succ]
        refine takeH (i := 21) (v := ?_) rfl (by kernel_rfl) (by kernel_rfl) (by kernel_rfl) (fun _ _ _ h => h) (Or.inl ⟨by rfl, ?_⟩) (by assumption) ?_
        rotate_left 1
        · (intro w hSw; (try dsimp only at hSw); go_simp; try (with_reducible rfl))
        try simp only [Act.put, List.setIfInBounds_toArray, List.set_cons_zero, List.set_cons_succ]
        refine takeH (i := 22) (v := ?_) rfl (by kernel_rfl) (by kernel_rfl) (by kernel_rfl) (fun _ _ _ h => h) (Or.inl ⟨by rfl, ?_⟩) (by assumption) ?_
        rotate_left 1
        · (intro w hSw; (try dsimp only at hSw); go_simp; try (with_reducible rfl))
        try simp only [Act.put, List.setIfInBounds_toArray, List.set_cons_zero, List.set_cons_succ]
        refine takeH (i := 23) (v := ?_) rfl (by kernel_rfl) (by kernel_rfl) (by kernel_rfl) (fun _ _ _ h => h) (Or.inl ⟨by rfl, ?_⟩) (by assumption) ?_
        rotate_left 1
        · (intro w hSw; (try dsimp only at hSw); go_simp; try (with_reducible rfl))
        try simp only [Act.put, List.setIfInBounds_toArray, List.set_cons_zero, List.set_cons_succ]
        refine wpAnyH_ready (rs := [24]) (by kernel_rfl) (by simp) ?_
        refine consH rfl (fun K hK => ?_) AllReadyH.nil
        go_simp
        refine (kB.out _ O16.out).mono ?_
        rintro e v17 ⟨rfl, o⟩
        have O17 := Lib.hid (O16.out.trans' o)
        clear o
        refine hK.out _ _ (CE.out _ O17.out) (fun hHeld2 => ?_)
        clear hK K hHeld
        have hHeld := hHeld2
        clear hHeld2
        try simp only [Act.put, List.setIfInBounds_toArray, List.set_cons_zero, List.set_cons_succ]
        refine takeH (i := 25) (v := ?_) rfl (by kernel_rfl) (by kernel_rfl) (by kernel_rfl) (fun _ _ _ h => h) (Or.inl ⟨by rfl, ?_⟩) (by assumption) ?_
        rotate_left 1
        · (intro w hSw; (try dsimp only at hSw); go_simp; try (with_reducible rfl))
        try simp only [Act.put, List.setIfInBounds_toArray, List.set_cons_zero, List.set_cons_succ]
        refine takeH (i := 26) (v := ?_) rfl (by kernel_rfl) (by kernel_rfl) (by kernel_rfl) (fun _ _ _ h => h) (Or.inl ⟨by rfl, ?_⟩) (by assumption) ?_
        rotate_left 1
        · (intro w hSw; (try dsimp only at hSw); go_simp; try (with_reducible rfl))
        try simp only [Act.put, List.setIfInBounds_toArray, List.set_cons_zero, List.set_cons_succ]
        refine wpAnyH_done (by kernel_rfl) ?_ _
        clear kA kB kW CE C0 CB w3 w4 w5 w6 w2 w7 w8 w9
        go_wp2_with fail
        go_loopg [11] (n + 2) (fun gk si wr => ∃ i : Nat, si = .int .i64 (i : Int) ∧ 1 ≤ i ∧ i ≤ n + 1 ∧ n + 2 ≤ gk + i ∧ Hid (Only [] V6 wr))
        case atStart => exact ⟨1, rfl, by omega, by omega, by omega, O17.out⟩
        case round =>
          obtain ⟨i, rfl, hi1, hiN, hg, O⟩ := hrel
          obtain ⟨e0, e1, -, -, -, -, e6, e7, -, -, e10, e11⟩ := (BX.out wr O.out).2.1
          rw [FD.out.1.2] at e6
          by_cases hin : i ≤ n
          · have hin' : (i : Int) ≤ (n : Int) := by omega
            have i1 : decide (i < n + 2) = true := by simp; omega
            have i2 : (i : Int) < (n : Int) + 2 := by omega
            have cn := cl_neq 4 0 0 0
            have wi : IntKind.i64.wrap ((i : Int) + 1) = (i : Int) + 1 := by rw [IntKind.wrap_i64]; omega
            clear e0 e1 e7 e10
            by_cases him0 : i ≤ xd.m
            · have hA : ∃ ad, xd.A = some ad := by
                rcases h : xd.A with _ | ad
                · have := FD.out.2.1.nil h
                  omega
                · exact ⟨ad, rfl⟩
              obtain ⟨ad, hA⟩ := hA
              have HA := Lib.hid hA
              clear hA
              have him : (i : Int) ≤ (xd.m : Int) := by omega
              have j1 : IntKind.i64.wrap ((i : Int) - 1) = (i : Int) - 1 := by rw [IntKind.wrap_i64]; omega
              have j2 : (1 : Int) ≤ (i : Int) := by omega
              have j3 : ((i : Int) - 1).toNat = i - 1 := by omega
              have j4 : i ≤ xd.c := by have := FD.out.2.1.cap; omega
              have j5 : i - (i - 1) = 1 := by omega
              have j6 : (i : Int) - 1 ≤ (i : Int) := by omega
              have j7 : ¬ xd.c = i - 1 := by have := FD.out.2.1.cap; omega
              obtain ⟨A, c, p, hp, HB⟩ := PB.out (i - 1) (by omega)
              have hb := (HB wr O.out).1
              rw [show i - 1 + 1 = i by omega] at hb
              unfold DnAt partD at hb
              dsimp only at hb
              obtain ⟨b0, b1, b2, b3, b4, b5, b6, b7, b8, b9, b10, b11⟩ := hb
              have OU : Hid (Only [] wr (wr.alloc (.cells #[.int .i64 xd.who, .int .i64 xd.place, .int .i64 4, .int .i64 0, .int .i64 0, .int .i64 0, .int .i64 0, .slice A 1 c, .int .i64 0, .int .u64 0, .int .i64 xd.fr, .int .i64 xd.to] 30))) := (Only.refl [] wr).alloc _
              have NBD : Hid (DnAt (wr.alloc (.cells #[.int .i64 xd.who, .int .i64 xd.place, .int .i64 4, .int .i64 0, .int .i64 0, .int .i64 0, .int .i64 0, .slice A 1 c, .int .i64 0, .int .u64 0, .int .i64 xd.fr, .int .i64 xd.to] 30)) wr.heap.size 0 (partD xd 0 A 1 c)) := DnAt.of_cells (heap_alloc_new wr _)
              have HBH := Lib.hid HB
              clear HB
              have HP := Lib.hid hp
              clear hp
              go_upto_region 21 with fail
              clear b0 b1 b2 b3 b4 b5 b6 b7 b8 b9 b10 b11
              generalize wr.alloc (.cells #[.int .i64 xd.who, .int .i64 xd.place, .int .i64 4, .int .i64 0, .int .i64 0, .int .i64 0, .int .i64 0, .slice A 1 c, .int .i64 0, .int .u64 0, .int .i64 xd.fr, .int .i64 xd.to] 30) = U at *
              generalize wr.heap.size = nb at *
              have hf := NBD.out
              unfold DnAt partD at hf
              dsimp only at hf
              simp only [Nat.zero_add] at hf
              obtain ⟨f0, f1, f2, f3, f4, f5, f6, f7, f8, f9, f10, f11⟩ := hf
              obtain ⟨y0, y1, -, -, -, -, -, y7, -, -, y10, y11⟩ := (BX.out U (O.out.trans' OU.out)).2.1
              go_upto_region 23 with fail
              clear f0 f1 f2 f3 f4 f5 f6 f7 f8 f9 f10 f11 y0 y1 y7 y10 y11
              have kR := Lib.hid (fun (V : World) (o : Only [] U V) => kRet 0 0 0 V A (some (ad.add ((i - 1) * 3))) 1 c (xd.c - (i - 1)) [p] rfl (by decide) (HBH.out V ((O.out.trans' OU.out).trans' o)).2 (src_sub (by rw [← HA.out]; exact SRC.out.2.1.2.1.only0 ((O.out.trans' OU.out).trans' o)) HP.out))
              have CR : Hid (∀ V, Only [] U V → V.cell? ⟨nb, 6, none⟩ = some (.int .i64 0) ∧ V.cell? ⟨nb, 7, none⟩ = some (.slice A 1 c) ∧ V.cell? ⟨nb, 8, none⟩ = some (.int .i64 0) ∧ V.cell? ⟨nb, 9, none⟩ = some (.int .u64 0) ∧ V.cell? ⟨gd, 7, none⟩ = some (.slice (some ad) xd.m xd.c)) := fun V o => by
                have h7 := (BX.out V ((O.out.trans' OU.out).trans' o)).2.1.2.2.2.2.2.2.2.1
                rw [HA.out] at h7
                have h8 := NBD.out.only0 o
                unfold DnAt partD at h8
                simp only [Nat.zero_add] at h8
                exact ⟨h8.2.2.2.2.2.2.1, h8.2.2.2.2.2.2.2.1, h8.2.2.2.2.2.2.2.2.1, h8.2.2.2.2.2.2.2.2.2.1, h7⟩
              refine wp_region_held_drew (S := (fun V => V.cell? ⟨nb, 6, none⟩ = some (.int .i64 0) ∧ V.cell? ⟨nb, 7, none⟩ = some (.slice A 1 c) ∧ V.cell? ⟨nb, 8, none⟩ = some (.int .i64 0) ∧ V.cell? ⟨nb, 9, none⟩ = some (.int .u64 0) ∧ V.cell? ⟨gd, 7, none⟩ = some (.slice (some ad) xd.m xd.c))) (by kernel_rfl) (CR.out _ (Only.drew (Only.refl [] U))) (fun hHeld => ?_)
              refine takeH (i := 0) (v := ?_) rfl (by kernel_rfl) (by kernel_rfl) (by kernel_rfl) (fun _ _ _ h => h) (Or.inl ⟨by rfl, ?_⟩) (by assumption) ?_
              rotate_left 1
              · (intro w hSw; (try dsimp only at hSw); go_simp; try (with_reducible rfl))
              try simp only [Act.put, List.setIfInBounds_toArray, List.set_cons_zero, List.set_cons_succ]
              refine takeH (i := 1) (v := ?_) rfl (by kernel_rfl) (by kernel_rfl) (by kernel_rfl) (fun _ _ _ h => h) (Or.inl ⟨by rfl, ?_⟩) (by assumption) ?_
              rotate_left 1
              · (intro w hSw; (try dsimp only at hSw); go_simp; try (with_reducible rfl))
              try simp only [Act.put, List.setIfInBounds_toArray, List.set_cons_zero, List.set_cons_succ]
              refine takeH (i := 2) (v := ?_) rfl (by kernel_rfl) (by kernel_rfl) (by kernel_rfl) (fun _ _ _ h => h) (Or.inl ⟨by rfl, ?_⟩) (by assumption) ?_
              rotate_left 1
              · (intro w hSw; (try dsimp only at hSw); go_simp; try (with_reducible rfl))
              try simp only [Act.put, List.setIfInBounds_toArray, List.set_cons_zero, List.set_cons_succ]
              refine takeH (i := 3) (v := ?_) rfl (by kernel_rfl) (by kernel_rfl) (by kernel_rfl) (fun _ _ _ h => h) (Or.inl ⟨by rfl, ?_⟩) (by assumption) ?_
              rotate_left 1
              · (intro w hSw; (try dsimp only at hSw); go_simp; try (with_reducible rfl))
              try simp only [Act.put, List.setIfInBounds_toArray, List.set_cons_zero, List.set_cons_succ]
              refine takeH (i := 4) (v := ?_) rfl (by kernel_rfl) (by kernel_rfl) (by kernel_rfl) (fun _ _ _ h => h) (Or.inl ⟨by rfl, ?_⟩) (by assumption) ?_
              rotate_left 1
              · (intro w hSw; (try dsimp only at hSw); go_simp; try (with_reducible rfl))
              try simp only [Act.put, List.setIfInBounds_toArray, List.set_cons_zero, List.set_cons_succ]
              refine takeH (i := 5) (v := ?_) rfl (by kernel_rfl) (by kernel_rfl) (by kernel_rfl) (fun _ _ _ h => h) (Or.inl ⟨by rfl, ?_⟩) (by assumption) ?_
              rotate_left 1
              · (intro w hSw; (try dsimp only at hSw); go_simp; try (with_reducible rfl))
              try simp only [Act.put, List.setIfInBounds_toArray, List.set_cons_zero, List.set_cons_succ]
              refine takeH (i := 6) (v := ?_) rfl (by kernel_rfl) (by kernel_rfl) (by kernel_rfl) (fun _ _ _ h => h) (Or.inl ⟨by rfl, ?_⟩) (by assumption) ?_
              rotate_left 1
              · (intro w hSw; (try dsimp only at hSw); go_simp; try (with_reducible rfl))
              try simp only [Act.put, List.setIfInBounds_toArray, List.set_cons_zero, List.set_cons_succ]
              refine takeH (i := 7) (v := ?_) rfl (by kernel_rfl) (by kernel_rfl) (by kernel_rfl) (fun _ _ _ h => h) (Or.inl ⟨by rfl, ?_⟩) (by assumption) ?_
              rotate_left 1
              · (intro w hSw; (try dsimp only at hSw); go_simp; try (with_reducible rfl))
              try simp only [Act.put, List.setIfInBounds_toArray, List.set_cons_zero, List.set_cons_succ]
              refine takeH (i := 8) (v := ?_) rfl (by kernel_rfl) (by kernel_rfl) (by kernel_rfl) (fun _ _ _ h => h) (Or.inl ⟨by rfl, ?_⟩) (by assumption) ?_
              rotate_left 1
              · (intro w hSw; (try dsimp only at hSw); go_simp; try (with_reducible rfl))
              try simp only [Act.put, List.setIfInBounds_toArray, List.set_cons_zero, List.set_cons_succ]
              refine takeH (i := 9) (v := ?_) rfl (by kernel_rfl) (by kernel_rfl) (by kernel_rfl) (fun _ _ _ h => h) (Or.inl ⟨by rfl, ?_⟩) (by assumption) ?_
              rotate_left 1
              · (intro w hSw; (try dsimp only at hSw); go_simp; try (with_reducible rfl))
              try simp only [Act.put, List.setIfInBounds_toArray, List.set_cons_zero, List.set_cons_succ]
              refine takeH (i := 10) (v := ?_) rfl (by kernel_rfl) (by kernel_rfl) (by kernel_rfl) (fun _ _ _ h => h) (Or.inl ⟨by rfl, ?_⟩) (by assumption) ?_
              rotate_left 1
              · (intro w hSw; (try dsimp only at hSw); go_simp; try (with_reducible rfl))
              try simp only [Act.put, List.setIfInBounds_toArray, List.set_cons_zero, List.set_cons_succ]
              refine takeH (i := 11) (v := ?_) rfl (by kernel_rfl) (by kernel_rfl) (by kernel_rfl) (fun _ _ _ h => h) (Or.inl ⟨by rfl, ?_⟩) (by assumption) ?_
              rotate_left 1
              · (intro w hSw; (try dsimp only at hSw); go_simp; try (with_reducible rfl))
              try simp only [Act.put, List.setIfInBounds_toArray, List.set_cons_zero, List.set_cons_succ]
              refine takeH (i := 12) (v := ?_) rfl (by kernel_rfl) (by kernel_rfl) (by kernel_rfl) (fun _ _ _ h => h) (Or.inl ⟨by rfl, ?_⟩) (by assumption) ?_
              rotate_left 1
              · (intro w hSw; (try dsimp only at hSw); go_simp; try (with_reducible rfl))
              try simp only [Act.put, List.setIfInBounds_toArray, List.set_cons_zero, List.set_cons_succ]
              refine takeH (i := 13) (v := ?_) rfl (by kernel_rfl) (by kernel_rfl) (by kernel_rfl) (fun _ _ _ h => h) (Or.inl ⟨by rfl, ?_⟩) (by assumption) ?_
              rotate_left 1
              · (intro w hSw; (try dsimp only at hSw); go_simp; try (with_reducible rfl))
              try simp only [Act.put, List.setIfInBounds_toArray, List.set_cons_zero, List.set_cons_succ]
              refine takeH (i := 14) (v := ?_) rfl (by kernel_rfl) (by kernel_rfl) (by kernel_rfl) (fun _ _ _ h => h) (Or.inl ⟨by rfl, ?_⟩) (by assumption) ?_
              rotate_left 1
              · (intro w hSw; (try dsimp only at hSw); go_simp; try (with_reducible rfl))
              try simp only [Act.put, List.setIfInBounds_toArray, List.set_cons_zero, List.set_cons_succ]
              refine takeH (i := 15) (v := ?_) rfl (by kernel_rfl) (by kernel_rfl) (by kernel_rfl) (fun _ _ _ h => h) (Or.inl ⟨by rfl, ?_⟩) (by assumption) ?_
              rotate_left 1
              · (intro w hSw; (try dsimp only at hSw); go_simp; try (with_reducible rfl))
              try simp only [Act.put, List.setIfInBounds_toArray, List.set_cons_zero, List.set_cons_succ]
              refine takeH (i := 16) (v := ?_) rfl (by kernel_rfl) (by kernel_rfl) (by kernel_rfl) (fun _ _ _ h => h) (Or.inl ⟨by rfl, ?_⟩) (by assumption) ?_
              rotate_left 1
              · (intro w hSw; (try dsimp only at hSw); go_simp; try (with_reducible rfl))
              try simp only [Act.put, List.setIfInBounds_toArray, List.set_cons_zero, List.set_cons_succ]
              refine wpAnyH_ready (rs := [17]) (by kernel_rfl) (by simp) ?_
              refine consH rfl (fun K hK => ?_) AllReadyH.nil
              go_simp
              refine (kR.out _ (Only.drew (Only.refl [] U))).mono ?_
              rintro e v23 ⟨rfl, o⟩
              have O23 := Lib.hid ((Only.drew (Only.refl [] U)).trans' o)
              clear o
              refine hK.out _ _ (CR.out _ O23.out) (fun hHeld2 => ?_)
              clear hK K hHeld
              have hHeld := hHeld2
              clear hHeld2
              try simp only [Act.put, List.setIfInBounds_toArray, List.set_cons_zero, List.set_cons_succ]
              refine takeH (i := 18) (v := ?_) rfl (by kernel_rfl) (by kernel_rfl) (by kernel_rfl) (fun _ _ _ h => h) (Or.inl ⟨by rfl, ?_⟩) (by assumption) ?_
              rotate_left 1
              · (intro w hSw; (try dsimp only at hSw); go_simp; try (with_reducible rfl))
              try simp only [Act.put, List.setIfInBounds_toArray, List.set_cons_zero, List.set_cons_succ]
              refine takeH (i := 19) (v := ?_) rfl (by kernel_rfl) (by kernel_rfl) (by kernel_rfl) (fun _ _ _ h => h) (Or.inl ⟨by rfl, ?_⟩) (by assumption) ?_
              rotate_left 1
              · (intro w hSw; (try dsimp only at hSw); go_simp; try (with_reducible rfl))
              try simp only [Act.put, List.setIfInBounds_toArray, List.set_cons_zero, List.set_cons_succ]
              refine wpAnyH_done (by kernel_rfl) ?_ _
              clear CR
              go_wp2_with fail
              go_roundg (n + 2 - (i + 1))
              case measure => omega
              case rel => exact ⟨i + 1, by simp, by omega, by omega, by omega, (O.out.trans' OU.out).trans' O23.out⟩
            · have HI0 : Hid (xd.m + 1 = i) := by have := EN.out; show _ = _; omega
              have him : ¬ (i : Int) ≤ (xd.m : Int) := by omega
              clear him0
              obtain ⟨A, c, HB⟩ := PZ.out
              have hb := HB wr O.out
              rw [HI0.out] at hb
              unfold DnAt partD at hb
              dsimp only at hb
              obtain ⟨b0, b1, b2, b3, b4, b5, b6, b7, b8, b9, b10, b11⟩ := hb
              have OU : Hid (Only [] wr (wr.alloc (.cells #[.int .i64 xd.who, .int .i64 xd.place, .int .i64 4, .int .i64 0, .int .i64 0, .int .i64 0, .int .i64 10, .slice A 0 c, .int .i64 0, .int .u64 0, .int .i64 xd.fr, .int .i64 xd.to] 30))) := (Only.refl [] wr).alloc _
              have NBD : Hid (DnAt (wr.alloc (.cells #[.int .i64 xd.who, .int .i64 xd.place, .int .i64 4, .int .i64 0, .int .i64 0, .int .i64 0, .int .i64 10, .slice A 0 c, .int .i64 0, .int .u64 0, .int .i64 xd.fr, .int .i64 xd.to] 30)) wr.heap.size 0 (partD xd 10 A 0 c)) := DnAt.of_cells (heap_alloc_new wr _)
              have HBH := Lib.hid HB
              clear HB

              go_upto_region 21 with fail
              clear b0 b1 b2 b3 b4 b5 b6 b7 b8 b9 b10 b11
              generalize wr.alloc (.cells #[.int .i64 xd.who, .int .i64 xd.place, .int .i64 4, .int .i64 0, .int .i64 0, .int .i64 0, .int .i64 10, .slice A 0 c, .int .i64 0, .int .u64 0, .int .i64 xd.fr, .int .i64 xd.to] 30) = U at *
              generalize wr.heap.size = nb at *
              have hf := NBD.out
              unfold DnAt partD at hf
              dsimp only at hf
              simp only [Nat.zero_add] at hf
              obtain ⟨f0, f1, f2, f3, f4, f5, f6, f7, f8, f9, f10, f11⟩ := hf
              obtain ⟨y0, y1, -, -, -, -, -, y7, -, -, y10, y11⟩ := (BX.out U (O.out.trans' OU.out)).2.1
              go_upto_region 23 with fail
              clear f0 f1 f2 f3 f4 f5 f6 f7 f8 f9 f10 f11 y0 y1 y7 y10 y11
              have CR : Hid (∀ V, Only [] U V → V.cell? ⟨gd, 7, none⟩ = some (.slice xd.A xd.m xd.c)) := fun V o => by
                have h7 := (BX.out V ((O.out.trans' OU.out).trans' o)).2.1.2.2.2.2.2.2.2.1
                exact h7
              refine wp_region_held_drew (S := (fun V => V.cell? ⟨gd, 7, none⟩ = some (.slice xd.A xd.m xd.c))) (by kernel_rfl) (CR.out _ (Only.drew (Only.refl [] U))) (fun hHeld => ?_)
              refine takeH (i := 0) (v := ?_) rfl (by kernel_rfl) (by kernel_rfl) (by kernel_rfl) (fun _ _ _ h => h) (Or.inl ⟨by rfl, ?_⟩) (by assumption) ?_
              rotate_left 1
              · (intro w hSw; (try dsimp only at hSw); go_simp; try (with_reducible rfl))
              try simp only [Act.put, List.setIfInBounds_toArray, List.set_cons_zero, List.set_cons_succ]
              refine takeH (i := 1) (v := ?_) rfl (by kernel_rfl) (by kernel_rfl) (by kernel_rfl) (fun _ _ _ h => h) (Or.inl ⟨by rfl, ?_⟩) (by assumption) ?_
              rotate_left 1
              · (intro w hSw; (try dsimp only at hSw); go_simp; try (with_reducible rfl))
              try simp only [Act.put, List.setIfInBounds_toArray, List.set_cons_zero, List.set_cons_succ]
              refine takeH (i := 2) (v := ?_) rfl (by kernel_rfl) (by kernel_rfl) (by kernel_rfl) (fun _ _ _ h => h) (Or.inl ⟨by rfl, ?_⟩) (by assumption) ?_
              rotate_left 1
              · (intro w hSw; (try dsimp only at hSw); go_simp; try (with_reducible rfl))
              try simp only [Act.put, List.setIfInBounds_toArray, List.set_cons_zero, List.set_cons_succ]
              refine takeH (i := 3) (v := ?_) rfl (by kernel_rfl) (by kernel_rfl) (by kernel_rfl) (fun _ _ _ h => h) (Or.inl ⟨by rfl, ?_⟩) (by assumption) ?_
              rotate_left 1
              · (intro w hSw; (try dsimp only at hSw); go_simp; try (with_reducible rfl))
              try simp only [Act.put, List.setIfInBounds_toArray, List.set_cons_zero, List.set_cons_succ]
              refine takeH (i := 4) (v := ?_) rfl (by kernel_rfl) (by kernel_rfl) (by kernel_rfl) (fun _ _ _ h => h) (Or.inl ⟨by rfl, ?_⟩) (by assumption) ?_
              rotate_left 1
              · (intro w hSw; (try dsimp only at hSw); go_simp; try (with_reducible rfl))
              try simp only [Act.put, List.setIfInBounds_toArray, List.set_cons_zero, List.set_cons_succ]
              refine takeH (i := 5) (v := ?_) rfl (by kernel_rfl) (by kernel_rfl) (by kernel_rfl) (fun _ _ _ h => h) (Or.inl ⟨by rfl, ?_⟩) (by assumption) ?_
              rotate_left 1
              · (intro w hSw; (try dsimp only at hSw); go_simp; try (with_reducible rfl))
              try simp only [Act.put, List.setIfInBounds_toArray, List.set_cons_zero, List.set_cons_succ]
              refine takeH (i := 6) (v := ?_) rfl (by kernel_rfl) (by kernel_rfl) (by kernel_rfl) (fun _ _ _ h => h) (Or.inl ⟨by rfl, ?_⟩) (by assumption) ?_
              rotate_left 1
              · (intro w hSw; (try dsimp only at hSw); go_simp; try (with_reducible rfl))
              try simp only [Act.put, List.setIfInBounds_toArray, List.set_cons_zero, List.set_cons_succ]
              refine takeH (i := 7) (v := undef) rfl (by kernel_rfl) (by kernel_rfl) (by kernel_rfl) (fun _ _ _ h => h) (Or.inr ⟨by rfl, rfl⟩) (by assumption) ?_
              try simp only [Act.put, List.setIfInBounds_toArray, List.set_cons_zero, List.set_cons_succ]
              refine takeH (i := 8) (v := undef) rfl (by kernel_rfl) (by kernel_rfl) (by kernel_rfl) (fun _ _ _ h => h) (Or.inr ⟨by rfl, rfl⟩) (by assumption) ?_
              try simp only [Act.put, List.setIfInBounds_toArray, List.set_cons_zero, List.set_cons_succ]
              refine takeH (i := 9) (v := undef) rfl (by kernel_rfl) (by kernel_rfl) (by kernel_rfl) (fun _ _ _ h => h) (Or.inr ⟨by rfl, rfl⟩) (by assumption) ?_
              try simp only [Act.put, List.setIfInBounds_toArray, List.set_cons_zero, List.set_cons_succ]
              refine takeH (i := 10) (v := undef) rfl (by kernel_rfl) (by kernel_rfl) (by kernel_rfl) (fun _ _ _ h => h) (Or.inr ⟨by rfl, rfl⟩) (by assumption) ?_
              try simp only [Act.put, List.setIfInBounds_toArray, List.set_cons_zero, List.set_cons_succ]
              refine takeH (i := 11) (v := undef) rfl (by kernel_rfl) (by kernel_rfl) (by kernel_rfl) (fun _ _ _ h => h) (Or.inr ⟨by rfl, rfl⟩) (by assumption) ?_
              try simp only [Act.put, List.setIfInBounds_toArray, List.set_cons_zero, List.set_cons_succ]
              refine takeH (i := 12) (v := undef) rfl (by kernel_rfl) (by kernel_rfl) (by kernel_rfl) (fun _ _ _ h => h) (Or.inr ⟨by rfl, rfl⟩) (by assumption) ?_
              try simp only [Act.put, List.setIfInBounds_toArray, List.set_cons_zero, List.set_cons_succ]
              refine takeH (i := 13) (v := undef) rfl (by kernel_rfl) (by kernel_rfl) (by kernel_rfl) (fun _ _ _ h => h) (Or.inr ⟨by rfl, rfl⟩) (by assumption) ?_
              try simp only [Act.put, List.setIfInBounds_toArray, List.set_cons_zero, List.set_cons_succ]
              refine takeH (i := 14) (v := undef) rfl (by kernel_rfl) (by kernel_rfl) (by kernel_rfl) (fun _ _ _ h => h) (Or.inr ⟨by rfl, rfl⟩) (by assumption) ?_
              try simp only [Act.put, List.setIfInBounds_toArray, List.set_cons_zero, List.set_cons_succ]
              refine takeH (i := 15) (v := undef) rfl (by kernel_rfl) (by kernel_rfl) (by kernel_rfl) (fun _ _ _ h => h) (Or.inr ⟨by rfl, rfl⟩) (by assumption) ?_
              try simp only [Act.put, List.setIfInBounds_toArray, List.set_cons_zero, List.set_cons_succ]
              refine takeH (i := 16) (v := undef) rfl (by kernel_rfl) (by kernel_rfl) (by kernel_rfl) (fun _ _ _ h => h) (Or.inr ⟨by rfl, rfl⟩) (by assumption) ?_
              try simp only [Act.put, List.setIfInBounds_toArray, List.set_cons_zero, List.set_cons_succ]
              refine takeH (i := 17) (v := undef) rfl (by kernel_rfl) (by kernel_rfl) (by kernel_rfl) (fun _ _ _ h => h) (Or.inr ⟨by rfl, rfl⟩) (by assumption) ?_
              try simp only [Act.put, List.setIfInBounds_toArray, List.set_cons_zero, List.set_cons_succ]
              refine takeH (i := 18) (v := undef) rfl (by kernel_rfl) (by kernel_rfl) (by kernel_rfl) (fun _ _ _ h => h) (Or.inr ⟨by rfl, rfl⟩) (by assumption) ?_
              try simp only [Act.put, List.setIfInBounds_toArray, List.set_cons_zero, List.set_cons_succ]
              refine takeH (i := 19) (v := ?_) rfl (by kernel_rfl) (by kernel_rfl) (by kernel_rfl) (fun _ _ _ h => h) (Or.inl ⟨by rfl, ?_⟩) (by assumption) ?_
              rotate_left 1
              · (intro w hSw; (try dsimp only at hSw); go_simp; try (with_reducible rfl))
              try simp only [Act.put, List.setIfInBounds_toArray, List.set_cons_zero, List.set_cons_succ]
              refine wpAnyH_done (by kernel_rfl) ?_ _
              clear CR
              go_wp2_with fail
              go_roundg (n + 2 - (i + 1))
              case measure => omega
              case rel => exact ⟨i + 1, by simp, by omega, by omega, by omega, (O.out.trans' OU.out).trans' (Only.drew (Only.refl [] U))⟩
          · have hin' : ¬ (i : Int) ≤ (n : Int) := by omega
            have hin2 : decide ((i : Int) ≤ (n : Int)) = false := decide_eq_false hin'
            clear e0 e1 e7 e10
            go_wp2_with fail
            go_ret
            exact ⟨rfl, (OW.out.trans' O.out).toBelow⟩
      · rw [FD.out.1.2] at d6
        have h11 : (xd.to == -1) = false := by simpa using ht
        have PX : Hid (partsD (xd.strip, p1) = [(xd.strip, p1)]) := by
          show _ = _
          unfold partsD
          rw [show divB (xd.strip, p1).1 = false by unfold divB; simp [Dn.strip, show xd.e = 1 from FD.out.1.2]]
          rfl
        obtain rfl : n = 1 := by rw [← hn, PX.out]; rfl
        obtain ⟨r1, gx, -, eB, c1, s1, m1, u1⟩ := AT.out 1 (xd.strip, p1) (by rw [PX.out]; rfl)
        injection eB with eB
        injection eB with eB
        subst eB
        obtain ⟨A1, hA1⟩ : ∃ A, r1.A = A := ⟨_, rfl⟩
        obtain ⟨k1, hk1⟩ : ∃ c, r1.c = c := ⟨_, rfl⟩
        have e1 := strip_eq s1.symm
        have mm1 : r1.m = xd.m := m1.trans SRC.out.2.1.1.symm
        rw [hA1, hk1, mm1] at e1
        rw [e1] at c1
        rw [hA1] at u1
        have CD9 : Hid (∀ V, Only [] V6 V → DnAt V g3 12 { xd with A := A1, m := xd.m, c := k1 } ∧ DnAt V gd 0 xd) := fun V o => ⟨c1.only0 o, (BX.out V o).2.1⟩
        have kD := Lib.hid (fun (V : World) (o : Only [] V6 V) => kDone xd V A1 xd.A xd.m k1 xd.c p1 SRC.out.2.1.1.symm SRC.out.2.1.2.2 (u1.only0 o) (SRC.out.2.1.2.1.only0 o))
        unfold DnAt at CD9
        simp only [Nat.zero_add] at CD9
        try dsimp only at CD9
        clear c1 s1 m1 u1 hA1 hk1 e1 mm1 AT hn PX ER
        have HT := Lib.hid ht

        go_upto_region 9 with fail
        clear d6 d11
        refine wp_region_held_drew (S := (fun V => (V.cell? ⟨g3, 12, none⟩ = some (.int .i64 xd.who) ∧ V.cell? ⟨g3, 13, none⟩ = some (.int .i64 xd.place) ∧ V.cell? ⟨g3, 14, none⟩ = some (.int .i64 xd.op) ∧ V.cell? ⟨g3, 15, none⟩ = some (.int .i64 xd.f) ∧ V.cell? ⟨g3, 16, none⟩ = some (.int .i64 xd.a) ∧ V.cell? ⟨g3, 17, none⟩ = some (.int .i64 xd.b) ∧ V.cell? ⟨g3, 18, none⟩ = some (.int .i64 xd.e) ∧ V.cell? ⟨g3, 19, none⟩ = some (.slice A1 xd.m k1) ∧ V.cell? ⟨g3, 20, none⟩ = some (.int .i64 xd.n) ∧ V.cell? ⟨g3, 21, none⟩ = some (.int .u64 xd.v) ∧ V.cell? ⟨g3, 22, none⟩ = some (.int .i64 xd.fr) ∧ V.cell? ⟨g3, 23, none⟩ = some (.int .i64 xd.to)) ∧ (V.cell? ⟨gd, 0, none⟩ = some (.int .i64 xd.who) ∧ V.cell? ⟨gd, 1, none⟩ = some (.int .i64 xd.place) ∧ V.cell? ⟨gd, 2, none⟩ = some (.int .i64 xd.op) ∧ V.cell? ⟨gd, 3, none⟩ = some (.int .i64 xd.f) ∧ V.cell? ⟨gd, 4, none⟩ = some (.int .i64 xd.a) ∧ V.cell? ⟨gd, 5, none⟩ = some (.int .i64 xd.b) ∧ V.cell? ⟨gd, 6, none⟩ = some (.int .i64 xd.e) ∧ V.cell? ⟨gd, 7, none⟩ = some (.slice xd.A xd.m xd.c) ∧ V.cell? ⟨gd, 8, none⟩ = some (.int .i64 xd.n) ∧ V.cell? ⟨gd, 9, none⟩ = some (.int .u64 xd.v) ∧ V.cell? ⟨gd, 10, none⟩ = some (.int .i64 xd.fr) ∧ V.cell? ⟨gd, 11, none⟩ = some (.int .i64 xd.to)))) (by kernel_rfl) (CD9.out _ (Only.drew (Only.refl [] V6))) (fun hHeld => ?_)
        refine takeH (i := 0) (v := ?_) rfl (by kernel_rfl) (by kernel_rfl) (by kernel_rfl) (fun _ _ _ h => h) (Or.inl ⟨by rfl, ?_⟩) (by assumption) ?_
        rotate_left 1
        · (intro w hSw; (try dsimp only at hSw); go_simp; try (with_reducible rfl))
        try simp only [Act.put, List.setIfInBounds_toArray, List.set_cons_zero, List.set_cons_succ]
        refine takeH (i := 1) (v := ?_) rfl (by kernel_rfl) (by kernel_rfl) (by kernel_rfl) (fun _ _ _ h => h) (Or.inl ⟨by rfl, ?_⟩) (by assumption) ?_
        rotate_left 1
        · (intro w hSw; (try dsimp only at hSw); go_simp; try (with_reducible rfl))
        try simp only [Act.put, List.setIfInBounds_toArray, List.set_cons_zero, List.set_cons_succ]
        refine takeH (i := 2) (v := ?_) rfl (by kernel_rfl) (by kernel_rfl) (by kernel_rfl) (fun _ _ _ h => h) (Or.inl ⟨by rfl, ?_⟩) (by assumption) ?_
        rotate_left 1
        · (intro w hSw; (try dsimp only at hSw); go_simp; try (with_reducible rfl))
        try simp only [Act.put, List.setIfInBounds_toArray, List.set_cons_zero, List.set_cons_succ]
        refine takeH (i := 3) (v := ?_) rfl (by kernel_rfl) (by kernel_rfl) (by kernel_rfl) (fun _ _ _ h => h) (Or.inl ⟨by rfl, ?_⟩) (by assumption) ?_
        rotate_left 1
        · (intro w hSw; (try dsimp only at hSw); go_simp; try (with_reducible rfl))
        try simp only [Act.put, List.setIfInBounds_toArray, List.set_cons_zero, List.set_cons_succ]
        refine takeH (i := 4) (v := ?_) rfl (by kernel_rfl) (by kernel_rfl) (by kernel_rfl) (fun _ _ _ h => h) (Or.inl ⟨by rfl, ?_⟩) (by assumption) ?_
        rotate_left 1
        · (intro w hSw; (try dsimp only at hSw); go_simp; try (with_reducible rfl))
        try simp only [Act.put, List.setIfInBounds_toArray, List.set_cons_zero, List.set_cons_succ]
        refine takeH (i := 5) (v := ?_) rfl (by kernel_rfl) (by kernel_rfl) (by kernel_rfl) (fun _ _ _ h => h) (Or.inl ⟨by rfl, ?_⟩) (by assumption) ?_
        rotate_left 1
        · (intro w hSw; (try dsimp only at hSw); go_simp; try (with_reducible rfl))
        try simp only [Act.put, List.setIfInBounds_toArray, List.set_cons_zero, List.set_cons_succ]
        refine takeH (i := 6) (v := ?_) rfl (by kernel_rfl) (by kernel_rfl) (by kernel_rfl) (fun _ _ _ h => h) (Or.inl ⟨by rfl, ?_⟩) (by assumption) ?_
        rotate_left 1
        · (intro w hSw; (try dsimp only at hSw); go_simp; try (with_reducible rfl))
        try simp only [Act.put, List.setIfInBounds_toArray, List.set_cons_zero, List.set_cons_succ]
        refine takeH (i := 7) (v := ?_) rfl (by kernel_rfl) (by kernel_rfl) (by kernel_rfl) (fun _ _ _ h => h) (Or.inl ⟨by rfl, ?_⟩) (by assumption) ?_
        rotate_left 1
        · (intro w hSw; (try dsimp only at hSw); go_simp; try (with_reducible rfl))
        try simp only [Act.put, List.setIfInBounds_toArray, List.set_cons_zero, List.set_cons_succ]
        refine wpAnyH_ready (rs := [8]) (by kernel_rfl) (by simp) ?_
        refine consH rfl (fun K hK => ?_) AllReadyH.nil
        go_simp
        refine (kD.out _ (Only.drew (Only.refl [] V6))).mono ?_
        rintro e v9 ⟨rfl, o⟩
        have O9 := Lib.hid ((Only.drew (Only.refl [] V6)).trans' o)
        clear o
        refine hK.out _ _ (CD9.out _ O9.out) (fun hHeld2 => ?_)
        clear hK K hHeld
        have hHeld := hHeld2
        clear hHeld2
        try simp only [Act.put, List.setIfInBounds_toArray, List.set_cons_zero, List.set_cons_succ]
        refine takeH (i := 9) (v := ?_) rfl (by kernel_rfl) (by kernel_rfl) (by kernel_rfl) (fun _ _ _ h => h) (Or.inl ⟨by rfl, ?_⟩) (by assumption) ?_
        rotate_left 1
        · (intro w hSw; (try dsimp only at hSw); go_simp; try (with_reducible rfl))
        try simp only [Act.put, List.setIfInBounds_toArray, List.set_cons_zero, List.set_cons_succ]
        refine takeH (i := 10) (v := ?_) rfl (by kernel_rfl) (by kernel_rfl) (by kernel_rfl) (fun _ _ _ h => h) (Or.inl ⟨by rfl, ?_⟩) (by assumption) ?_
        rotate_left 1
        · (intro w hSw; (try dsimp only at hSw); go_simp; try (with_reducible rfl))
        try simp only [Act.put, List.setIfInBounds_toArray, List.set_cons_zero, List.set_cons_succ]
        refine wpAnyH_done (by kernel_rfl) ?_ _
        clear kD CD9
        simp only [Nat.reduceAdd, Nat.reduceMul] at CB
        have wk3 : IntKind.i64.wrap 3 = 3 := by rfl
        have wk2 : IntKind.i64.wrap 2 = 2 := by rfl
        have CE : Hid (∀ V, Only [] V6 V → _ ∧ _ ∧ _ ∧ _) := fun V o => ⟨C0.out V o, CB.out V o, (BX.out V o).1, (BX.out V o).2.2⟩
        go_upto_region 15 with fail
        refine wp_region_held_drew (S := (fun V => (V.cell? ⟨g3, 0, none⟩ = some (.int .i64 xa.who) ∧ V.cell? ⟨g3, 1, none⟩ = some (.int .i64 xa.place) ∧ V.cell? ⟨g3, 2, none⟩ = some (.int .i64 xa.op) ∧ V.cell? ⟨g3, 3, none⟩ = some (.int .i64 xa.f) ∧ V.cell? ⟨g3, 4, none⟩ = some (.int .i64 xa.a) ∧ V.cell? ⟨g3, 5, none⟩ = some (.int .i64 xa.b) ∧ V.cell? ⟨g3, 6, none⟩ = some (.int .i64 xa.e) ∧ V.cell? ⟨g3, 7, none⟩ = some (.slice A0 xa.m k0) ∧ V.cell? ⟨g3, 8, none⟩ = some (.int .i64 xa.n) ∧ V.cell? ⟨g3, 9, none⟩ = some (.int .u64 xa.v) ∧ V.cell? ⟨g3, 10, none⟩ = some (.int .i64 xa.fr) ∧ V.cell? ⟨g3, 11, none⟩ = some (.int .i64 xa.to)) ∧ (V.cell? ⟨g3, 24, none⟩ = some (.int .i64 xb.who) ∧ V.cell? ⟨g3, 25, none⟩ = some (.int .i64 xb.place) ∧ V.cell? ⟨g3, 26, none⟩ = some (.int .i64 xb.op) ∧ V.cell? ⟨g3, 27, none⟩ = some (.int .i64 xb.f) ∧ V.cell? ⟨g3, 28, none⟩ = some (.int .i64 xb.a) ∧ V.cell? ⟨g3, 29, none⟩ = some (.int .i64 xb.b) ∧ V.cell? ⟨g3, 30, none⟩ = some (.int .i64 xb.e) ∧ V.cell? ⟨g3, 31, none⟩ = some (.slice Ab xb.m kb) ∧ V.cell? ⟨g3, 32, none⟩ = some (.int .i64 xb.n) ∧ V.cell? ⟨g3, 33, none⟩ = some (.int .u64 xb.v) ∧ V.cell? ⟨g3, 34, none⟩ = some (.int .i64 xb.fr) ∧ V.cell? ⟨g3, 35, none⟩ = some (.int .i64 xb.to)) ∧ (V.cell? ⟨ga, 0, none⟩ = some (.int .i64 xa.who) ∧ V.cell? ⟨ga, 1, none⟩ = some (.int .i64 xa.place) ∧ V.cell? ⟨ga, 2, none⟩ = some (.int .i64 xa.op) ∧ V.cell? ⟨ga, 3, none⟩ = some (.int .i64 xa.f) ∧ V.cell? ⟨ga, 4, none⟩ = some (.int .i64 xa.a) ∧ V.cell? ⟨ga, 5, none⟩ = some (.int .i64 xa.b) ∧ V.cell? ⟨ga, 6, none⟩ = some (.int .i64 xa.e) ∧ V.cell? ⟨ga, 7, none⟩ = some (.slice xa.A xa.m xa.c) ∧ V.cell? ⟨ga, 8, none⟩ = some (.int .i64 xa.n) ∧ V.cell? ⟨ga, 9, none⟩ = some (.int .u64 xa.v) ∧ V.cell? ⟨ga, 10, none⟩ = some (.int .i64 xa.fr) ∧ V.cell? ⟨ga, 11, none⟩ = some (.int .i64 xa.to)) ∧ (V.cell? ⟨gb, 0, none⟩ = some (.int .i64 xb.who) ∧ V.cell? ⟨gb, 1, none⟩ = some (.int .i64 xb.place) ∧ V.cell? ⟨gb, 2, none⟩ = some (.int .i64 xb.op) ∧ V.cell? ⟨gb, 3, none⟩ = some (.int .i64 xb.f) ∧ V.cell? ⟨gb, 4, none⟩ = some (.int .i64 xb.a) ∧ V.cell? ⟨gb, 5, none⟩ = some (.int .i64 xb.b) ∧ V.cell? ⟨gb, 6, none⟩ = some (.int .i64 xb.e) ∧ V.cell? ⟨gb, 7, none⟩ = some (.slice xb.A xb.m xb.c) ∧ V.cell? ⟨gb, 8, none⟩ = some (.int .i64 xb.n) ∧ V.cell? ⟨gb, 9, none⟩ = some (.int .u64 xb.v) ∧ V.cell? ⟨gb, 10, none⟩ = some (.int .i64 xb.fr) ∧ V.cell? ⟨gb, 11, none⟩ = some (.int .i64 xb.to)))) (by kernel_rfl) (CE.out _ (O9.out.trans' (Only.drew (Only.refl [] v9)))) (fun hHeld => ?_)
        refine wpAnyH_ready (rs := [0]) (by kernel_rfl) (by simp) ?_
        refine consH rfl (fun K hK => ?_) AllReadyH.nil
        go_simp
        refine (kW.out _).mono ?_
        rintro e v15 ⟨rfl, o⟩
        have O15 := Lib.hid ((O9.out.trans' (Only.drew (Only.refl [] v9))).trans' o)
        clear o
        refine hK.out _ _ (CE.out _ O15.out) (fun hHeld2 => ?_)
        clear hK K hHeld
        have hHeld := hHeld2
        clear hHeld2
        try simp only [Act.put, List.setIfInBounds_toArray, List.set_cons_zero, List.set_cons_succ]
        refine takeH (i := 1) (v := ?_) rfl (by kernel_rfl) (by kernel_rfl) (by kernel_rfl) (fun _ _ _ h => h) (Or.inl ⟨by rfl, ?_⟩) (by assumption) ?_
        rotate_left 1
        · (intro w hSw; (try dsimp only at hSw); go_simp; try (with_reducible rfl))
        try simp only [Act.put, List.setIfInBounds_toArray, List.set_cons_zero, List.set_cons_succ]
        refine takeH (i := 2) (v := ?_) rfl (by kernel_rfl) (by kernel_rfl) (by kernel_rfl) (fun _ _ _ h => h) (Or.inl ⟨by rfl, ?_⟩) (by assumption) ?_
        rotate_left 1
        · (intro w hSw; (try dsimp only at hSw); go_simp; try (with_reducible rfl))
        try simp only [Act.put, List.setIfInBounds_toArray, List.set_cons_zero, List.set_cons_succ]
        refine takeH (i := 3) (v := ?_) rfl (by kernel_rfl) (by kernel_rfl) (by kernel_rfl) (fun _ _ _ h => h) (Or.inl ⟨by rfl, ?_⟩) (by assumption) ?_
        rotate_left 1
        · (intro w hSw; (try dsimp only at hSw); go_simp; try (with_reducible rfl))
        try simp only [Act.put, List.setIfInBounds_toArray, List.set_cons_zero, List.set_cons_succ]
        refine takeH (i := 4) (v := ?_) rfl (by kernel_rfl) (by kernel_rfl) (by kernel_rfl) (fun _ _ _ h => h) (Or.inl ⟨by rfl, ?_⟩) (by assumption) ?_
        rotate_left 1
        · (intro w hSw; (try dsimp only at hSw); go_simp; try (with_reducible rfl))
        try simp only [Act.put, List.setIfInBounds_toArray, List.set_cons_zero, List.set_cons_succ]
        refine takeH (i := 5) (v := ?_) rfl (by kernel_rfl) (by kernel_rfl) (by kernel_rfl) (fun _ _ _ h => h) (Or.inl ⟨by rfl, ?_⟩) (by assumption) ?_
        rotate_left 1
        · (intro w hSw; (try dsimp only at hSw); go_simp; try (with_reducible rfl))
        try simp only [Act.put, List.setIfInBounds_toArray, List.set_cons_zero, List.set_cons_succ]
        refine takeH (i := 6) (v := ?_) rfl (by kernel_rfl) (by kernel_rfl) (by kernel_rfl) (fun _ _ _ h => h) (Or.inl ⟨by rfl, ?_⟩) (by assumption) ?_
        rotate_left 1
        · (intro w hSw; (try dsimp only at hSw); go_simp; try (with_reducible rfl))
        try simp only [Act.put, List.setIfInBounds_toArray, List.set_cons_zero, List.set_cons_succ]
        refine takeH (i := 7) (v := ?_) rfl (by kernel_rfl) (by kernel_rfl) (by kernel_rfl) (fun _ _ _ h => h) (Or.inl ⟨by rfl, ?_⟩) (by assumption) ?_
        rotate_left 1
        · (intro w hSw; (try dsimp only at hSw); go_simp; try (with_reducible rfl))
        try simp only [Act.put, List.setIfInBounds_toArray, List.set_cons_zero, List.set_cons_succ]
        refine takeH (i := 8) (v := ?_) rfl (by kernel_rfl) (by kernel_rfl) (by kernel_rfl) (fun _ _ _ h => h) (Or.inl ⟨by rfl, ?_⟩) (by assumption) ?_
        rotate_left 1
        · (intro w hSw; (try dsimp only at hSw); go_simp; try (with_reducible rfl))
        try simp only [Act.put, List.setIfInBounds_toArray, List.set_cons_zero, List.set_cons_succ]
        refine takeH (i := 9) (v := ?_) rfl (by kernel_rfl) (by kernel_rfl) (by kernel_rfl) (fun _ _ _ h => h) (Or.inl ⟨by rfl, ?_⟩) (by assumption) ?_
        rotate_left 1
        · (intro w hSw; (try dsimp only at hSw); go_simp; try (with_reducible rfl))
        try simp only [Act.put, List.setIfInBounds_toArray, List.set_cons_zero, List.set_cons_succ]
        refine takeH (i := 10) (v := ?_) rfl (by kernel_rfl) (by kernel_rfl) (by kernel_rfl) (fun _ _ _ h => h) (Or.inl ⟨by rfl, ?_⟩) (by assumption) ?_
        rotate_left 1
        · (intro w hSw; (try dsimp only at hSw); go_simp; try (with_reducible rfl))
        try simp only [Act.put, List.setIfInBounds_toArray, List.set_cons_zero, List.set_cons_succ]
        refine takeH (i := 11) (v := ?_) rfl (by kernel_rfl) (by kernel_rfl) (by kernel_rfl) (fun _ _ _ h => h) (Or.inl ⟨by rfl, ?_⟩) (by assumption) ?_
        rotate_left 1
        · (intro w hSw; (try dsimp only at hSw); go_simp; try (with_reducible rfl))
        try simp only [Act.put, List.setIfInBounds_toArray, List.set_cons_zero, List.set_cons_succ]
        refine takeH (i := 12) (v := ?_) rfl (by kernel_rfl) (by kernel_rfl) (by kernel_rfl) (fun _ _ _ h => h) (Or.inl ⟨by rfl, ?_⟩) (by assumption) ?_
        rotate_left 1
        · (intro w hSw; (try dsimp only at hSw); go_simp; try (with_reducible rfl))
        try simp only [Act.put, List.setIfInBounds_toArray, List.set_cons_zero, List.set_cons_succ]
        refine takeH (i := 13) (v := ?_) rfl (by kernel_rfl) (by kernel_rfl) (by kernel_rfl) (fun _ _ _ h => h) (Or.inl ⟨by rfl, ?_⟩) (by assumption) ?_
        rotate_left 1
        · (intro w hSw; (try dsimp only at hSw); go_simp; try (with_reducible rfl))
        try simp only [Act.put, List.setIfInBounds_toArray, List.set_cons_zero, List.set_cons_succ]
        refine wpAnyH_ready (rs := [14]) (by kernel_rfl) (by simp) ?_
        refine consH rfl (fun K hK => ?_) AllReadyH.nil
        go_simp
        refine (kA.out _ O15.out).mono ?_
        rintro e v16 ⟨rfl, o⟩
        have O16 := Lib.hid (O15.out.trans' o)
        clear o
        refine hK.out _ _ (CE.out _ O16.out) (fun hHeld2 => ?_)
        clear hK K hHeld
        have hHeld := hHeld2
        clear hHeld2
        try simp only [Act.put, List.setIfInBounds_toArray, List.set_cons_zero, List.set_cons_succ]
        refine takeH (i := 15) (v := ?_) rfl (by kernel_rfl) (by kernel_rfl) (by kernel_rfl) (fun _ _ _ h => h) (Or.inl ⟨by rfl, ?_⟩) (by assumption) ?_
        rotate_left 1
        · (intro w hSw; (try dsimp only at hSw); go_simp; try (with_reducible rfl))
        try simp only [Act.put, List.setIfInBounds_toArray, List.set_cons_zero, List.set_cons_succ]
        refine takeH (i := 16) (v := ?_) rfl (by kernel_rfl) (by kernel_rfl) (by kernel_rfl) (fun _ _ _ h => h) (Or.inl ⟨by rfl, ?_⟩) (by assumption) ?_
        rotate_left 1
        · (intro w hSw; (try dsimp only at hSw); go_simp; try (with_reducible rfl))
        try simp only [Act.put, List.setIfInBounds_toArray, List.set_cons_zero, List.set_cons_succ]
        refine takeH (i := 17) (v := ?_) rfl (by kernel_rfl) (by kernel_rfl) (by kernel_rfl) (fun _ _ _ h => h) (Or.inl ⟨by rfl, ?_⟩) (by assumption) ?_
        rotate_left 1
        · (intro w hSw; (try dsimp only at hSw); go_simp; try (with_reducible rfl))
        try simp only [Act.put, List.setIfInBounds_toArray, List.set_cons_zero, List.set_cons_succ]
        refine takeH (i := 18) (v := ?_) rfl (by kernel_rfl) (by kernel_rfl) (by kernel_rfl) (fun _ _ _ h => h) (Or.inl ⟨by rfl, ?_⟩) (by assumption) ?_
        rotate_left 1
        · (intro w hSw; (try dsimp only at hSw); go_simp; try (with_reducible rfl))
        try simp only [Act.put, List.setIfInBounds_toArray, List.set_cons_zero, List.set_cons_succ]
        refine takeH (i := 19) (v := ?_) rfl (by kernel_rfl) (by kernel_rfl) (by kernel_rfl) (fun _ _ _ h => h) (Or.inl ⟨by rfl, ?_⟩) (by assumption) ?_
        rotate_left 1
        · (intro w hSw; (try dsimp only at hSw); go_simp; try (with_reducible rfl))
        try simp only [Act.put, List.setIfInBounds_toArray, List.set_cons_zero, List.set_cons_succ]
        refine takeH (i := 20) (v := ?_) rfl (by kernel_rfl) (by kernel_rfl) (by kernel_rfl) (fun _ _ _ h => h) (Or.inl ⟨by rfl, ?_⟩) (by assumption) ?_
        rotate_left 1
        · (intro w hSw; (try dsimp only at hSw); go_simp; try (with_reducible rfl))
        try simp only [Act.put, List.setIfInBounds_toArray, List.set_cons_zero, List.set_cons_succ]
        refine takeH (i := 21) (v := ?_) rfl (by kernel_rfl) (by kernel_rfl) (by kernel_rfl) (fun _ _ _ h => h) (Or.inl ⟨by rfl, ?_⟩) (by assumption) ?_
        rotate_left 1
        · (intro w hSw; (try dsimp only at hSw); go_simp; try (with_reducible rfl))
        try simp only [Act.put, List.setIfInBounds_toArray, List.set_cons_zero, List.set_cons_succ]
        refine takeH (i := 22) (v := ?_) rfl (by kernel_rfl) (by kernel_rfl) (by kernel_rfl) (fun _ _ _ h => h) (Or.inl ⟨by rfl, ?_⟩) (by assumption) ?_
        rotate_left 1
        · (intro w hSw; (try dsimp only at hSw); go_simp; try (with_reducible rfl))
        try simp only [Act.put, List.setIfInBounds_toArray, List.set_cons_zero, List.set_cons_succ]
        refine takeH (i := 23) (v := ?_) rfl (by kernel_rfl) (by kernel_rfl) (by kernel_rfl) (fun _ _ _ h => h) (Or.inl ⟨by rfl, ?_⟩) (by assumption) ?_
        rotate_left 1
        · (intro w hSw; (try dsimp only at hSw); go_simp; try (with_reducible rfl))
        try simp only [Act.put, List.setIfInBounds_toArray, List.set_cons_zero, List.set_cons_succ]
        refine wpAnyH_ready (rs := [24]) (by kernel_rfl) (by simp) ?_
        refine consH rfl (fun K hK => ?_) AllReadyH.nil
        go_simp
        refine (kB.out _ O16.out).mono ?_
        rintro e v17 ⟨rfl, o⟩
        have O17 := Lib.hid (O16.out.trans' o)
        clear o
        refine hK.out _ _ (CE.out _ O17.out) (fun hHeld2 => ?_)
        clear hK K hHeld
        have hHeld := hHeld2
        clear hHeld2
        try simp only [Act.put, List.setIfInBounds_toArray, List.set_cons_zero, List.set_cons_succ]
        refine takeH (i := 25) (v := ?_) rfl (by kernel_rfl) (by kernel_rfl) (by kernel_rfl) (fun _ _ _ h => h) (Or.inl ⟨by rfl, ?_⟩) (by assumption) ?_
        rotate_left 1
        · (intro w hSw; (try dsimp only at hSw); go_simp; try (with_reducible rfl))
        try simp only [Act.put, List.setIfInBounds_toArray, List.set_cons_zero, List.set_cons_succ]
        refine takeH (i := 26) (v := ?_) rfl (by kernel_rfl) (by kernel_rfl) (by kernel_rfl) (fun _ _ _ h => h) (Or.inl ⟨by rfl, ?_⟩) (by assumption) ?_
        rotate_left 1
        · (intro w hSw; (try dsimp only at hSw); go_simp; try (with_reducible rfl))
        try simp only [Act.put, List.setIfInBounds_toArray, List.set_cons_zero, List.set_cons_succ]
        refine wpAnyH_done (by kernel_rfl) ?_ _
        clear kA kB kW CE C0 CB
        go_wp2_with fail
        go_loopg [11] 2 (fun gk si wr => si = .int .i64 1 ∧ 2 ≤ gk ∧ Hid (Only [] V6 wr))
        case atStart => exact ⟨rfl, by omega, O17.out⟩
        case round =>
          obtain ⟨rfl, hg, O⟩ := hrel
          obtain ⟨-, -, -, -, -, -, e6, -, -, -, -, e11⟩ := (BX.out wr O.out).2.1
          rw [FD.out.1.2] at e6
          go_wp2_with fail
          go_ret
          exact ⟨rfl, (OW.out.trans' O.out).toBelow⟩

/-! ### The step from the walk to the statement -/
set_option maxRecDepth 100000 in
theorem contract (H : Type) (enc : TypeId × Value → H) (W : World) (base : Nat) (args : Array Value) (ds gs : List (DataW H)) (before : List MemPlace)
    (hval0 : ∀ (j : Nat) t v, Try.f3.params[j]? = some t → args[j]? = some v → Value.okWide Try.prog W .any base t v)
    (hW : DataW.Whole enc Try.prog Try.f3.params.toList Rows.histBatchSpec.vars false W args.toList ds gs before) (hk : Rows.uptoSmall H (ds ++ gs) = true) :
    Calls Try.prog 3 args W fun e W' => ∃ v, e = .returned v ∧ Rows.histBatchSpec.post enc Try.prog Try.f3 false true false false W args v W' := by
  have hval : ∀ (j : Nat) t v, Try.f3.params[j]? = some t → args[j]? = some v → Value.okWide Try.prog W .any base t v := hval0
  have hW' := hW
  obtain ⟨p, q, hA0, hV, rfl, hfz, hnd⟩ := hW
  have hA : DataW.TrodAll enc Try.prog W 0 (fun _ => true) true Try.f3.params.toList args.toList ds p := hA0
  rw [Try.params3] at hA hval
  obtain ⟨v0, vs0, d0, ds0, pl0, ql0, hargs, rfl, rfl, h0, r0⟩ := trodAll_cons hA
  obtain ⟨v1, vs1, d1, ds1, pl1, ql1, rfl, rfl, rfl, h1, r1⟩ := trodAll_cons r0
  obtain ⟨v2, vs2, d2, ds2, pl2, ql2, rfl, rfl, rfl, h2, r2⟩ := trodAll_cons r1
  obtain ⟨v3, vs3, d3, ds3, pl3, ql3, rfl, rfl, rfl, h3, r3⟩ := trodAll_cons r2
  obtain ⟨rfl, rfl, rfl⟩ := trodAll_nil r3
  obtain rfl : args = #[v0, v1, v2, v3] := by cases args; simp_all
  obtain ⟨rfl, rfl⟩ := trodVars_none hV
  have hkb : Rows.uptoBulkAll [d0, d1, d2, d3] ≤ 1048576 := of_decide_eq_true (by simpa [Rows.uptoSmall] using hk)
  have k0 := h0
  have lt0 : ∀ x ∈ pl0, x.block < W.heap.size := by obtain ⟨m, hm⟩ := k0; exact DataW.trod_lt m _ _ _ hm
  obtain ⟨x0, p0, rfl, q0, sb0⟩ := open_doneV (hval 0 30 v0 rfl rfl) h0
  have s0 : x0.m ≤ 1048576 := Nat.le_trans sb0 (Nat.le_trans (bulk_part (by simp)) hkb)
  have k1 := h1
  have lt1 : ∀ x ∈ pl1, x.block < W.heap.size := by obtain ⟨m, hm⟩ := k1; exact DataW.trod_lt m _ _ _ hm
  obtain ⟨x1, p1, rfl, q1, sb1⟩ := open_doneV (hval 1 30 v1 rfl rfl) h1
  have s1 : x1.m ≤ 1048576 := Nat.le_trans sb1 (Nat.le_trans (bulk_part (by simp)) hkb)
  have k2 := h2
  have lt2 : ∀ x ∈ pl2, x.block < W.heap.size := by obtain ⟨m, hm⟩ := k2; exact DataW.trod_lt m _ _ _ hm
  obtain ⟨x2, p2, rfl, q2, sb2⟩ := open_doneV (hval 2 30 v2 rfl rfl) h2
  have s2 : x2.m ≤ 1048576 := Nat.le_trans sb2 (Nat.le_trans (bulk_part (by simp)) hkb)
  obtain ⟨a3, rfl, rfl, rfl, w3⟩ := open_int Try.underlying3 (hval 3 3 v3 rfl rfl) h3
  clear hA0 hval0
  refine (walk x0 p0 x1 p1 x2 p2 a3 W q0 s0 q1 s1 q2 s2 w3).mono fun e W' ⟨he, bel⟩ => ?_
  subst he
  exact ⟨_, rfl, _, _, _, [], _, [], hW', trodAll_mk1 (shut_bool Try.underlying4 _), (trodAll_cons_mk (Below.trod laidOut (by kernel_rfl) (of_decide_eq_true (by kernel_rfl)) k0 bel lt0) (trodAll_cons_mk (Below.trod laidOut (by kernel_rfl) (of_decide_eq_true (by kernel_rfl)) k1 bel lt1) (trodAll_cons_mk (Below.trod laidOut (by kernel_rfl) (of_decide_eq_true (by kernel_rfl)) k2 bel lt2) (trodAll_cons_mk (shut_int Try.underlying3 w3) trodAll_mk0)))), rfl, bel.frame _, fun h => by cases h⟩

set_option maxRecDepth 100000 in
theorem lifted (os : Os) (started : os.Started) (H : Type) (enc : TypeId × Value → H) (F : Stop.Interp) :
    ReturnsInHanded {} Try.checked os 3 .any ((Rows.OpenSpec.upto Rows.histBatchSpec).pre6 enc Try.prog Try.f3 Rows.histBatchUptoRow.domain false) (((Rows.OpenSpec.upto Rows.histBatchSpec).at F).post enc Try.prog Try.f3 false true false false) := by
  refine returnsInHanded_of_cond (C := Try.checked) (s := Rows.OpenSpec.upto Rows.histBatchSpec) (k := Rows.uptoSmall) rfl own started (by kernel_rfl) Try.func3
    (OpenSpec.witness (enc := enc) (C := Try.checked) (s := Rows.OpenSpec.upto Rows.histBatchSpec) (k := Rows.uptoSmall) rfl false ⟨#[], #[.agg #[.int .i64 0, .int .i64 0, .int .i64 0, .int .i64 0, .int .i64 0, .int .i64 0, .int .i64 0, .slice none 0 0, .int .i64 0, .int .u64 0, .int .i64 0, .int .i64 0], .agg #[.int .i64 0, .int .i64 0, .int .i64 0, .int .i64 0, .int .i64 0, .int .i64 0, .int .i64 0, .slice none 0 0, .int .i64 0, .int .u64 0, .int .i64 0, .int .i64 0], .agg #[.int .i64 0, .int .i64 0, .int .i64 0, .int .i64 0, .int .i64 0, .int .i64 0, .int .i64 0, .slice none 0 0, .int .i64 0, .int .u64 0, .int .i64 0, .int .i64 0], .int .i64 0], []⟩ 8 (by kernel_rfl) (by kernel_rfl) (by kernel_rfl)
      (x := ([.agg [.lit (.int .i64 0), .lit (.int .i64 0), .agg [.lit (.int .i64 0), .lit (.int .i64 0), .lit (.int .i64 0), .lit (.int .i64 0)], .agg [.lit (.int .i64 0), .nil, .lit (.int .i64 0), .lit (.int .u64 0)], .lit (.int .i64 0), .lit (.int .i64 0)], .agg [.lit (.int .i64 0), .lit (.int .i64 0), .agg [.lit (.int .i64 0), .lit (.int .i64 0), .lit (.int .i64 0), .lit (.int .i64 0)], .agg [.lit (.int .i64 0), .nil, .lit (.int .i64 0), .lit (.int .u64 0)], .lit (.int .i64 0), .lit (.int .i64 0)], .agg [.lit (.int .i64 0), .lit (.int .i64 0), .agg [.lit (.int .i64 0), .lit (.int .i64 0), .lit (.int .i64 0), .lit (.int .i64 0)], .agg [.lit (.int .i64 0), .nil, .lit (.int .i64 0), .lit (.int .u64 0)], .lit (.int .i64 0), .lit (.int .i64 0)], .lit (.int .i64 0)], [], [])) (by kernel_rfl) rfl (by kernel_rfl)) ?_
  intro W base args ds gs before hval0 hW _ hk _
  exact contract H enc W base args ds gs before hval0 hW hk
/-- The statement. -/
theorem proved : Rows.HistBatchUptoSaid :=
  OpenClaim.holds_of_cond 3 Try.f3 rfl rfl rfl rfl rfl rfl rfl ⟨rfl, rfl, rfl, rfl, rfl⟩ rfl rfl rfl rfl rfl (by kernel_rfl) Try.func3 (by kernel_rfl)
    (of_decide_eq_true (by kernel_rfl)) (by unfold Func.isWrapper; first | (rw [if_pos (by decide +kernel)]; kernel_rfl) | (rw [if_neg (by decide +kernel)]; exact ⟨rfl, rfl⟩))
    (fun os started H enc _ F => lifted os started H enc F)
#print axioms proved
end Go.Proofs.Ytaaolacfhdfagaa.histBatch
