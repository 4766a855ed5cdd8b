/-
  weighbridgelaw13.RaceConflict returns true for every input, and leaves its arguments as they were. No condition but that the arguments are values of their types.
-/
import Derived.Test.YtmgmfihjojhilaaRows
import Derived.Test.YtmgmfihjojhilaaRcU
import Derived.WalkKit
import Derived.ProofKit
import Derived.OpenShut
import Derived.ChangeOld
import Derived.Below
namespace Go.Proofs.Ytmgmfihjojhilaa.raceConflict
open Go.ChangeShapes Go.WideShapes Go.ChangeAt Go.RowKit
set_option linter.unusedVariables false
set_option linter.unusedSimpArgs false

set_option maxRecDepth 100000 in
set_option maxHeartbeats 4000000 in
theorem walk (who0 kind0 lk0 la0 lb0 : Int) (who1 kind1 lk1 la1 lb1 : Int) (a2 : Int) (w : World) (wwho0 : (Lit.int .i64 who0).wf = true) (wkind0 : (Lit.int .i64 kind0).wf = true) (wlk0 : (Lit.int .i64 lk0).wf = true) (wla0 : (Lit.int .i64 la0).wf = true) (wlb0 : (Lit.int .i64 lb0).wf = true) (wwho1 : (Lit.int .i64 who1).wf = true) (wkind1 : (Lit.int .i64 kind1).wf = true) (wlk1 : (Lit.int .i64 lk1).wf = true) (wla1 : (Lit.int .i64 la1).wf = true) (wlb1 : (Lit.int .i64 lb1).wf = true) (w2 : (Lit.int .i64 a2).wf = true) :
    Calls Try.prog 9 #[.agg #[.int .i64 who0, .int .i64 kind0, .int .i64 lk0, .int .i64 la0, .int .i64 lb0], .agg #[.int .i64 who1, .int .i64 kind1, .int .i64 lk1, .int .i64 la1, .int .i64 lb1], .int .i64 a2] w fun e w' => e = .returned (.bool true) ∧ Below w.heap.size w w' := by
  have BX := EvAt.boxes w ⟨who0, kind0, ⟨lk0, la0, lb0⟩⟩ ⟨who1, kind1, ⟨lk1, la1, lb1⟩⟩
  dsimp only at BX
  have OB : Hid (Only [] w ((w.alloc (.cells #[.int .i64 who0, .int .i64 kind0, .int .i64 lk0, .int .i64 la0, .int .i64 lb0] 36)).alloc (.cells #[.int .i64 who1, .int .i64 kind1, .int .i64 lk1, .int .i64 la1, .int .i64 lb1] 36))) := ((Only.refl [] w).alloc _).alloc _
  have fr : ∀ b k, (b = w.heap.size ∨ b = w.heap.size + 1) → ((w.alloc (.cells #[.int .i64 who0, .int .i64 kind0, .int .i64 lk0, .int .i64 la0, .int .i64 lb0] 36)).alloc (.cells #[.int .i64 who1, .int .i64 kind1, .int .i64 lk1, .int .i64 la1, .int .i64 lb1] 36)).frozen? ⟨b, k, none⟩ = false := fun b k hb => by
    have h8 := heap_alloc_new w (.cells #[.int .i64 who0, .int .i64 kind0, .int .i64 lk0, .int .i64 la0, .int .i64 lb0] 36)
    have h9 := heap_alloc_new (w.alloc (.cells #[.int .i64 who0, .int .i64 kind0, .int .i64 lk0, .int .i64 la0, .int .i64 lb0] 36)) (.cells #[.int .i64 who1, .int .i64 kind1, .int .i64 lk1, .int .i64 la1, .int .i64 lb1] 36)
    have h7 := ((Only.refl [] (w.alloc (.cells #[.int .i64 who0, .int .i64 kind0, .int .i64 lk0, .int .i64 la0, .int .i64 lb0] 36))).alloc (.cells #[.int .i64 who1, .int .i64 kind1, .int .i64 lk1, .int .i64 la1, .int .i64 lb1] 36)).get h8 (by simp)
    rw [World.size_alloc] at h9
    generalize (w.alloc (.cells #[.int .i64 who0, .int .i64 kind0, .int .i64 lk0, .int .i64 la0, .int .i64 lb0] 36)).alloc (.cells #[.int .i64 who1, .int .i64 kind1, .int .i64 lk1, .int .i64 la1, .int .i64 lb1] 36) = X at *
    by_cases e1 : b = w.heap.size
    · subst e1
      simp [World.frozen?, h7]
    · by_cases e2 : b = w.heap.size + 1
      · subst e2
        simp [World.frozen?, h9]
      · omega
  go_enter Try.func9, Try.ntmps9
  go_upto_region 1 with fail
  generalize (w.alloc (.cells #[.int .i64 who0, .int .i64 kind0, .int .i64 lk0, .int .i64 la0, .int .i64 lb0] 36)).alloc (.cells #[.int .i64 who1, .int .i64 kind1, .int .i64 lk1, .int .i64 la1, .int .i64 lb1] 36) = W at *
  obtain ⟨g, hg⟩ : ∃ g, w.heap.size = g := ⟨_, rfl⟩
  have HG := Lib.hid hg
  rw [hg] at BX fr ⊢
  clear hg
  obtain ⟨⟨x0, x1, x2, x3, x4⟩, ⟨y0, y1, y2, y3, y4⟩⟩ := BX
  simp only [Nat.zero_add] at x0 x1 x2 x3 x4 y0 y1 y2 y3 y4
  have fx1 := fr g 1 (.inl rfl)
  have fy1 := fr (g + 1) 1 (.inr rfl)
  have fy2 := fr (g + 1) 2 (.inr rfl)
  have fy3 := fr (g + 1) 3 (.inr rfl)
  have fy4 := fr (g + 1) 4 (.inr rfl)
  clear fr
  have md := Lib.hid (fun (v n : Int) (h : 0 < n) (hn : n ≤ 1000000) (w : World) => cMod v n h hn w)
  have q1 := modI_lt kind0 (n := 6) (by decide)
  have q2 := modI_lt kind1 (n := 6) (by decide)
  have h1w : IntKind.i64.wrap (1 + modI kind0 6) = 1 + modI kind0 6 := by rw [IntKind.wrap_i64]; omega
  have h2w : IntKind.i64.wrap (1 + modI kind1 6) = 1 + modI kind1 6 := by rw [IntKind.wrap_i64]; omega
  have m1 := Lib.hid (fun (W : World) => md.out kind0 6 (by decide) (by decide) W)
  have m2 := Lib.hid (fun (W : World) => md.out kind1 6 (by decide) (by decide) W)
  generalize modI kind0 6 = n0 at *
  generalize modI kind1 6 = n1 at *
  by_cases h3 : 0 < a2.tmod 3
  · go_wp2_with fail
    refine (fun (main : (?G : Prop)) => ?body) ?pf
    case body =>
      refine wp_region_held_drew (S := fun _ => True) (by kernel_rfl) trivial (fun hHeld => ?_)
      refine takeH (i := 0) (v := ?_) rfl (by kernel_rfl) (by kernel_rfl) (by kernel_rfl) (fun _ _ _ h => h) (Or.inl ⟨by rfl, ?_⟩) (by assumption) ?_
      rotate_left 1
      · (intro w hSw; (try dsimp only at hSw); go_simp; try (with_reducible rfl))
      try simp only [Act.put, List.setIfInBounds_toArray, List.set_cons_zero, List.set_cons_succ]
      refine takeH (i := 4) (v := ?_) rfl (by kernel_rfl) (by kernel_rfl) (by kernel_rfl) (fun _ _ _ h => h) (Or.inl ⟨by rfl, ?_⟩) (by assumption) ?_
      rotate_left 1
      · (intro w hSw; (try dsimp only at hSw); go_simp; try (with_reducible rfl))
      try simp only [Act.put, List.setIfInBounds_toArray, List.set_cons_zero, List.set_cons_succ]
      refine wpAnyH_ready (rs := [1, 5]) (by kernel_rfl) (by simp) ?_
      refine consH rfl (fun K hK => ?_) (consH rfl (fun K hK => ?_) AllReadyH.nil)
      · go_simp
      
        refine hK.out _ _ trivial (fun hHeld2 => ?_)
        clear hK K hHeld
        have hHeld := hHeld2
        clear hHeld2
        try simp only [Act.put, List.setIfInBounds_toArray, List.set_cons_zero, List.set_cons_succ]
        refine wpAnyH_ready (rs := [2, 5]) (by kernel_rfl) (by simp) ?_
        refine consH rfl (fun K hK => ?_) (consH rfl (fun K hK => ?_) AllReadyH.nil)
        · go_simp
          refine (m1.out _).mono ?_
          rintro e v ⟨rfl, hv⟩
          rw [hv]
          clear hv
          refine hK.out _ _ trivial (fun hHeld2 => ?_)
          clear hK K hHeld
          have hHeld := hHeld2
          clear hHeld2
          try simp only [Act.put, List.setIfInBounds_toArray, List.set_cons_zero, List.set_cons_succ]
          refine takeH (i := 3) (v := ?_) rfl (by kernel_rfl) (by kernel_rfl) (by kernel_rfl) (fun _ _ _ h => h) (Or.inl ⟨by rfl, ?_⟩) (by assumption) ?_
          rotate_left 1
          · (intro w hSw; (try dsimp only at hSw); go_simp; try (with_reducible rfl))
          try simp only [Act.put, List.setIfInBounds_toArray, List.set_cons_zero, List.set_cons_succ]
          refine takeH (i := 8) (v := ?_) rfl (by kernel_rfl) (by kernel_rfl) (by kernel_rfl) (fun _ _ _ h => h) (Or.inl ⟨by rfl, ?_⟩) (by assumption) ?_
          rotate_left 1
          · (intro w hSw; (try dsimp only at hSw); go_simp; try (with_reducible rfl))
          try simp only [Act.put, List.setIfInBounds_toArray, List.set_cons_zero, List.set_cons_succ]
          refine wpAnyH_ready (rs := [5]) (by kernel_rfl) (by simp) ?_
          refine consH rfl (fun K hK => ?_) AllReadyH.nil
          go_simp
          
          refine hK.out _ _ trivial (fun hHeld2 => ?_)
          clear hK K hHeld
          have hHeld := hHeld2
          clear hHeld2
          try simp only [Act.put, List.setIfInBounds_toArray, List.set_cons_zero, List.set_cons_succ]
          refine wpAnyH_ready (rs := [6]) (by kernel_rfl) (by simp) ?_
          refine consH rfl (fun K hK => ?_) AllReadyH.nil
          go_simp
          refine (m2.out _).mono ?_
          rintro e v ⟨rfl, hv⟩
          rw [hv]
          clear hv
          refine hK.out _ _ trivial (fun hHeld2 => ?_)
          clear hK K hHeld
          have hHeld := hHeld2
          clear hHeld2
          try simp only [Act.put, List.setIfInBounds_toArray, List.set_cons_zero, List.set_cons_succ]
          refine takeH (i := 7) (v := ?_) rfl (by kernel_rfl) (by kernel_rfl) (by kernel_rfl) (fun _ _ _ h => h) (Or.inl ⟨by rfl, ?_⟩) (by assumption) ?_
          rotate_left 1
          · (intro w hSw; (try dsimp only at hSw); go_simp; try (with_reducible rfl))
          try simp only [Act.put, List.setIfInBounds_toArray, List.set_cons_zero, List.set_cons_succ]
          refine wpAnyH_ready (rs := [9]) (by kernel_rfl) (by simp) ?_
          refine consH rfl (fun K hK => ?_) AllReadyH.nil
          go_simp
          
          refine hK.out _ _ trivial (fun hHeld2 => ?_)
          clear hK K hHeld
          have hHeld := hHeld2
          clear hHeld2
          try simp only [Act.put, List.setIfInBounds_toArray, List.set_cons_zero, List.set_cons_succ]
          refine takeH (i := 10) (v := ?_) rfl (by kernel_rfl) (by kernel_rfl) (by kernel_rfl) (fun _ _ _ h => h) (Or.inl ⟨by rfl, ?_⟩) (by assumption) ?_
          rotate_left 1
          · (intro w hSw; (try dsimp only at hSw); go_simp; try (with_reducible rfl))
          try simp only [Act.put, List.setIfInBounds_toArray, List.set_cons_zero, List.set_cons_succ]
          refine wpAnyH_ready (rs := [11]) (by kernel_rfl) (by simp) ?_
          refine consH rfl (fun K hK => ?_) AllReadyH.nil
          go_simp
          
          refine hK.out _ _ trivial (fun hHeld2 => ?_)
          clear hK K hHeld
          have hHeld := hHeld2
          clear hHeld2
          try simp only [Act.put, List.setIfInBounds_toArray, List.set_cons_zero, List.set_cons_succ]
          refine wpAnyH_done (by kernel_rfl) ?_ _
          exact main
        · go_simp
        
          refine hK.out _ _ trivial (fun hHeld2 => ?_)
          clear hK K hHeld
          have hHeld := hHeld2
          clear hHeld2
          try simp only [Act.put, List.setIfInBounds_toArray, List.set_cons_zero, List.set_cons_succ]
          refine wpAnyH_ready (rs := [2]) (by kernel_rfl) (by simp) ?_
          refine consH rfl (fun K hK => ?_) AllReadyH.nil
          go_simp
          refine (m1.out _).mono ?_
          rintro e v ⟨rfl, hv⟩
          rw [hv]
          clear hv
          refine hK.out _ _ trivial (fun hHeld2 => ?_)
          clear hK K hHeld
          have hHeld := hHeld2
          clear hHeld2
          try simp only [Act.put, List.setIfInBounds_toArray, List.set_cons_zero, List.set_cons_succ]
          refine takeH (i := 3) (v := ?_) rfl (by kernel_rfl) (by kernel_rfl) (by kernel_rfl) (fun _ _ _ h => h) (Or.inl ⟨by rfl, ?_⟩) (by assumption) ?_
          rotate_left 1
          · (intro w hSw; (try dsimp only at hSw); go_simp; try (with_reducible rfl))
          try simp only [Act.put, List.setIfInBounds_toArray, List.set_cons_zero, List.set_cons_succ]
          refine takeH (i := 8) (v := ?_) rfl (by kernel_rfl) (by kernel_rfl) (by kernel_rfl) (fun _ _ _ h => h) (Or.inl ⟨by rfl, ?_⟩) (by assumption) ?_
          rotate_left 1
          · (intro w hSw; (try dsimp only at hSw); go_simp; try (with_reducible rfl))
          try simp only [Act.put, List.setIfInBounds_toArray, List.set_cons_zero, List.set_cons_succ]
          refine wpAnyH_ready (rs := [6]) (by kernel_rfl) (by simp) ?_
          refine consH rfl (fun K hK => ?_) AllReadyH.nil
          go_simp
          refine (m2.out _).mono ?_
          rintro e v ⟨rfl, hv⟩
          rw [hv]
          clear hv
          refine hK.out _ _ trivial (fun hHeld2 => ?_)
          clear hK K hHeld
          have hHeld := hHeld2
          clear hHeld2
          try simp only [Act.put, List.setIfInBounds_toArray, List.set_cons_zero, List.set_cons_succ]
          refine takeH (i := 7) (v := ?_) rfl (by kernel_rfl) (by kernel_rfl) (by kernel_rfl) (fun _ _ _ h => h) (Or.inl ⟨by rfl, ?_⟩) (by assumption) ?_
          rotate_left 1
          · (intro w hSw; (try dsimp only at hSw); go_simp; try (with_reducible rfl))
          try simp only [Act.put, List.setIfInBounds_toArray, List.set_cons_zero, List.set_cons_succ]
          refine wpAnyH_ready (rs := [9]) (by kernel_rfl) (by simp) ?_
          refine consH rfl (fun K hK => ?_) AllReadyH.nil
          go_simp
          
          refine hK.out _ _ trivial (fun hHeld2 => ?_)
          clear hK K hHeld
          have hHeld := hHeld2
          clear hHeld2
          try simp only [Act.put, List.setIfInBounds_toArray, List.set_cons_zero, List.set_cons_succ]
          refine takeH (i := 10) (v := ?_) rfl (by kernel_rfl) (by kernel_rfl) (by kernel_rfl) (fun _ _ _ h => h) (Or.inl ⟨by rfl, ?_⟩) (by assumption) ?_
          rotate_left 1
          · (intro w hSw; (try dsimp only at hSw); go_simp; try (with_reducible rfl))
          try simp only [Act.put, List.setIfInBounds_toArray, List.set_cons_zero, List.set_cons_succ]
          refine wpAnyH_ready (rs := [11]) (by kernel_rfl) (by simp) ?_
          refine consH rfl (fun K hK => ?_) AllReadyH.nil
          go_simp
          
          refine hK.out _ _ trivial (fun hHeld2 => ?_)
          clear hK K hHeld
          have hHeld := hHeld2
          clear hHeld2
          try simp only [Act.put, List.setIfInBounds_toArray, List.set_cons_zero, List.set_cons_succ]
          refine wpAnyH_done (by kernel_rfl) ?_ _
          exact main
      · go_simp
      
        refine hK.out _ _ trivial (fun hHeld2 => ?_)
        clear hK K hHeld
        have hHeld := hHeld2
        clear hHeld2
        try simp only [Act.put, List.setIfInBounds_toArray, List.set_cons_zero, List.set_cons_succ]
        refine wpAnyH_ready (rs := [1]) (by kernel_rfl) (by simp) ?_
        refine consH rfl (fun K hK => ?_) AllReadyH.nil
        go_simp
        
        refine hK.out _ _ trivial (fun hHeld2 => ?_)
        clear hK K hHeld
        have hHeld := hHeld2
        clear hHeld2
        try simp only [Act.put, List.setIfInBounds_toArray, List.set_cons_zero, List.set_cons_succ]
        refine wpAnyH_ready (rs := [2]) (by kernel_rfl) (by simp) ?_
        refine consH rfl (fun K hK => ?_) AllReadyH.nil
        go_simp
        refine (m1.out _).mono ?_
        rintro e v ⟨rfl, hv⟩
        rw [hv]
        clear hv
        refine hK.out _ _ trivial (fun hHeld2 => ?_)
        clear hK K hHeld
        have hHeld := hHeld2
        clear hHeld2
        try simp only [Act.put, List.setIfInBounds_toArray, List.set_cons_zero, List.set_cons_succ]
        refine takeH (i := 3) (v := ?_) rfl (by kernel_rfl) (by kernel_rfl) (by kernel_rfl) (fun _ _ _ h => h) (Or.inl ⟨by rfl, ?_⟩) (by assumption) ?_
        rotate_left 1
        · (intro w hSw; (try dsimp only at hSw); go_simp; try (with_reducible rfl))
        try simp only [Act.put, List.setIfInBounds_toArray, List.set_cons_zero, List.set_cons_succ]
        refine takeH (i := 8) (v := ?_) rfl (by kernel_rfl) (by kernel_rfl) (by kernel_rfl) (fun _ _ _ h => h) (Or.inl ⟨by rfl, ?_⟩) (by assumption) ?_
        rotate_left 1
        · (intro w hSw; (try dsimp only at hSw); go_simp; try (with_reducible rfl))
        try simp only [Act.put, List.setIfInBounds_toArray, List.set_cons_zero, List.set_cons_succ]
        refine wpAnyH_ready (rs := [6]) (by kernel_rfl) (by simp) ?_
        refine consH rfl (fun K hK => ?_) AllReadyH.nil
        go_simp
        refine (m2.out _).mono ?_
        rintro e v ⟨rfl, hv⟩
        rw [hv]
        clear hv
        refine hK.out _ _ trivial (fun hHeld2 => ?_)
        clear hK K hHeld
        have hHeld := hHeld2
        clear hHeld2
        try simp only [Act.put, List.setIfInBounds_toArray, List.set_cons_zero, List.set_cons_succ]
        refine takeH (i := 7) (v := ?_) rfl (by kernel_rfl) (by kernel_rfl) (by kernel_rfl) (fun _ _ _ h => h) (Or.inl ⟨by rfl, ?_⟩) (by assumption) ?_
        rotate_left 1
        · (intro w hSw; (try dsimp only at hSw); go_simp; try (with_reducible rfl))
        try simp only [Act.put, List.setIfInBounds_toArray, List.set_cons_zero, List.set_cons_succ]
        refine wpAnyH_ready (rs := [9]) (by kernel_rfl) (by simp) ?_
        refine consH rfl (fun K hK => ?_) AllReadyH.nil
        go_simp
        
        refine hK.out _ _ trivial (fun hHeld2 => ?_)
        clear hK K hHeld
        have hHeld := hHeld2
        clear hHeld2
        try simp only [Act.put, List.setIfInBounds_toArray, List.set_cons_zero, List.set_cons_succ]
        refine takeH (i := 10) (v := ?_) rfl (by kernel_rfl) (by kernel_rfl) (by kernel_rfl) (fun _ _ _ h => h) (Or.inl ⟨by rfl, ?_⟩) (by assumption) ?_
        rotate_left 1
        · (intro w hSw; (try dsimp only at hSw); go_simp; try (with_reducible rfl))
        try simp only [Act.put, List.setIfInBounds_toArray, List.set_cons_zero, List.set_cons_succ]
        refine wpAnyH_ready (rs := [11]) (by kernel_rfl) (by simp) ?_
        refine consH rfl (fun K hK => ?_) AllReadyH.nil
        go_simp
        
        refine hK.out _ _ trivial (fun hHeld2 => ?_)
        clear hK K hHeld
        have hHeld := hHeld2
        clear hHeld2
        try simp only [Act.put, List.setIfInBounds_toArray, List.set_cons_zero, List.set_cons_succ]
        refine wpAnyH_done (by kernel_rfl) ?_ _
        exact main
    case pf =>
      obtain ⟨k0, hk0⟩ : ∃ k0, 1 + n0 = k0 := ⟨_, rfl⟩
      obtain ⟨k1, hk1⟩ : ∃ k1, 1 + n1 = k1 := ⟨_, rfl⟩
      have r0 : 1 ≤ k0 ∧ k0 ≤ 6 := by omega
      have r1 : 1 ≤ k1 ∧ k1 ≤ 6 := by omega
      rw [hk0, hk1]
      have neA : ∀ c, c ≠ 1 → ((W.setCell ⟨g, 1, none⟩ (.int .i64 k0)).setCell ⟨g + 1, 1, none⟩ (.int .i64 k1)).drew.cell? ⟨g, c, none⟩ = W.cell? ⟨g, c, none⟩ := fun c hc => (World.cell?_setCell_other _ _ _ _ (by intro e9; injection e9 with e9; omega)).trans (World.cell?_setCell_other _ _ _ _ (by intro e9; injection e9 with _ e9; omega))
      have neB : ∀ c, c ≠ 1 → ((W.setCell ⟨g, 1, none⟩ (.int .i64 k0)).setCell ⟨g + 1, 1, none⟩ (.int .i64 k1)).drew.cell? ⟨g + 1, c, none⟩ = W.cell? ⟨g + 1, c, none⟩ := fun c hc => (World.cell?_setCell_other _ _ _ _ (by intro e9; injection e9 with _ e9; omega)).trans (World.cell?_setCell_other _ _ _ _ (by intro e9; injection e9 with e9; omega))
      have u0 := (neA 0 (by decide)).trans x0
      have u2 := (neA 2 (by decide)).trans x2
      have u3 := (neA 3 (by decide)).trans x3
      have u4 := (neA 4 (by decide)).trans x4
      have v0 := (neB 0 (by decide)).trans y0
      have v2 := (neB 2 (by decide)).trans y2
      have v3 := (neB 3 (by decide)).trans y3
      have v4 := (neB 4 (by decide)).trans y4
      have u1 : ((W.setCell ⟨g, 1, none⟩ (.int .i64 k0)).setCell ⟨g + 1, 1, none⟩ (.int .i64 k1)).drew.cell? ⟨g, 1, none⟩ = some (.int .i64 k0) := (World.cell?_setCell_other (W.setCell ⟨g, 1, none⟩ (.int .i64 k0)) _ _ _ (by intro e9; injection e9 with e9; omega)).trans (World.cell?_setCell_same' _ _ _ (by rw [x1]; rfl))
      have v1 : ((W.setCell ⟨g, 1, none⟩ (.int .i64 k0)).setCell ⟨g + 1, 1, none⟩ (.int .i64 k1)).drew.cell? ⟨g + 1, 1, none⟩ = some (.int .i64 k1) := World.cell?_setCell_same' (W.setCell ⟨g, 1, none⟩ (.int .i64 k0)) _ _ (by rw [World.cell?_setCell_other _ _ _ _ (by intro e9; injection e9 with e9; omega), y1]; rfl)
      have HU : Hid (Only [] w ((W.setCell ⟨g, 1, none⟩ (.int .i64 k0)).setCell ⟨g + 1, 1, none⟩ (.int .i64 k1)).drew) := ((OB.out.setCell (.inr (by have := HG.out; show _ ≤ g; omega)) _).setCell (.inr (by have := HG.out; show _ ≤ g + 1; omega)) _).drew
      have gy2 : ((W.setCell ⟨g, 1, none⟩ (.int .i64 k0)).setCell ⟨g + 1, 1, none⟩ (.int .i64 k1)).drew.frozen? ⟨g + 1, 2, none⟩ = false := (World.frozen?_setCell _ _ _ _).trans ((World.frozen?_setCell _ _ _ _).trans fy2)
      have gy3 : ((W.setCell ⟨g, 1, none⟩ (.int .i64 k0)).setCell ⟨g + 1, 1, none⟩ (.int .i64 k1)).drew.frozen? ⟨g + 1, 3, none⟩ = false := (World.frozen?_setCell _ _ _ _).trans ((World.frozen?_setCell _ _ _ _).trans fy3)
      have gy4 : ((W.setCell ⟨g, 1, none⟩ (.int .i64 k0)).setCell ⟨g + 1, 1, none⟩ (.int .i64 k1)).drew.frozen? ⟨g + 1, 4, none⟩ = false := (World.frozen?_setCell _ _ _ _).trans ((World.frozen?_setCell _ _ _ _).trans fy4)
      clear neA neB x0 x1 x2 x3 x4 y0 y1 y2 y3 y4 fx1 fy1 fy2 fy3 fy4 m1 m2 h1w h2w hk0 hk1 q1 q2
      have fy2 := gy2
      have fy3 := gy3
      have fy4 := gy4
      clear gy2 gy3 gy4
      generalize ((W.setCell ⟨g, 1, none⟩ (.int .i64 k0)).setCell ⟨g + 1, 1, none⟩ (.int .i64 k1)).drew = U0 at *
      have w1 : ¬ (k0 < 1) := by omega
      have w2 : ¬ (6 < k0) := by omega
      have w3 : ¬ (k1 < 1) := by omega
      have w4 : ¬ (6 < k1) := by omega
      have w5 := decide_eq_false w1
      have w6 := decide_eq_false w2
      have w7 := decide_eq_false w3
      have w8 := decide_eq_false w4
      by_cases h4 : a2.tmod 2 = 0
      · have h4b : (a2.tmod 2 == 0) = true := by simp [h4]
        clear h4
        go_upto_region 5 with fail
        have HX : Hid (∀ V, Only [] (((U0.setCell ⟨g + 1, 2, none⟩ (.int .i64 lk0)).setCell ⟨g + 1, 3, none⟩ (.int .i64 la0)).setCell ⟨g + 1, 4, none⟩ (.int .i64 lb0)) V → EvAt V g 0 ⟨who0, k0, ⟨lk0, la0, lb0⟩⟩) := fun V o => by
          have ne : ∀ (X : World) (k : Nat) (v : Value) (c : Nat), (X.setCell ⟨g + 1, k, none⟩ v).cell? ⟨g, c, none⟩ = X.cell? ⟨g, c, none⟩ := fun X k v c => World.cell?_setCell_other _ _ _ _ (by intro e9; injection e9 with e9; omega)
          refine EvAt.only0 ?_ o
          simp only [EvAt, Nat.zero_add, ne]
          exact ⟨u0, u1, u2, u3, u4⟩
        have HY : Hid (∀ V, Only [] (((U0.setCell ⟨g + 1, 2, none⟩ (.int .i64 lk0)).setCell ⟨g + 1, 3, none⟩ (.int .i64 la0)).setCell ⟨g + 1, 4, none⟩ (.int .i64 lb0)) V → EvAt V (g + 1) 0 ⟨who1, k1, ⟨lk0, la0, lb0⟩⟩) := fun V o => by
          have ne : ∀ (X : World) (k : Nat) (v : Value) (c : Nat), c ≠ k → (X.setCell ⟨g + 1, k, none⟩ v).cell? ⟨g + 1, c, none⟩ = X.cell? ⟨g + 1, c, none⟩ := fun X k v c h => World.cell?_setCell_other _ _ _ _ (by intro e9; injection e9 with _ e9; omega)
          have sm : ∀ (X : World) (k : Nat) (v u : Value), X.cell? ⟨g + 1, k, none⟩ = some u → (X.setCell ⟨g + 1, k, none⟩ v).cell? ⟨g + 1, k, none⟩ = some v := fun X k v u h => World.cell?_setCell_same' _ _ _ (by rw [h]; rfl)
          refine EvAt.only0 ?_ o
          simp only [EvAt, Nat.zero_add]
          refine ⟨?_, ?_, ?_, ?_, ?_⟩
          · rw [ne _ _ _ _ (by decide), ne _ _ _ _ (by decide), ne _ _ _ _ (by decide)]; exact v0
          · rw [ne _ _ _ _ (by decide), ne _ _ _ _ (by decide), ne _ _ _ _ (by decide)]; exact v1
          · rw [ne _ _ _ _ (by decide), ne _ _ _ _ (by decide)]; exact sm _ _ _ _ v2
          · rw [ne _ _ _ _ (by decide)]; exact sm _ _ _ _ ((ne _ _ _ _ (by decide)).trans v3)
          · exact sm _ _ _ _ ((ne _ _ _ _ (by decide)).trans ((ne _ _ _ _ (by decide)).trans v4))
        have HO : Hid (Only [] w (((U0.setCell ⟨g + 1, 2, none⟩ (.int .i64 lk0)).setCell ⟨g + 1, 3, none⟩ (.int .i64 la0)).setCell ⟨g + 1, 4, none⟩ (.int .i64 lb0))) := ((HU.out.setCell (.inr (by have := HG.out; show _ ≤ g + 1; omega)) _).setCell (.inr (by have := HG.out; show _ ≤ g + 1; omega)) _).setCell (.inr (by have := HG.out; show _ ≤ g + 1; omega)) _
        clear u0 u1 u2 u3 u4 v0 v1 v2 v3 v4 fy2 fy3 fy4 h4b HU
        generalize ((U0.setCell ⟨g + 1, 2, none⟩ (.int .i64 lk0)).setCell ⟨g + 1, 3, none⟩ (.int .i64 la0)).setCell ⟨g + 1, 4, none⟩ (.int .i64 lb0) = U at *
        have cf := Lib.hid (fun (V : World) => cConf ⟨who0, k0, ⟨lk0, la0, lb0⟩⟩ ⟨who1, k1, ⟨lk0, la0, lb0⟩⟩ V)
        have rf := Lib.hid (fun (h0 : 1 ≤ k0 ∧ k0 ≤ 6) (h1 : 1 ≤ k1 ∧ k1 ≤ 6) (V : World) => rConf ⟨who0, k0, ⟨lk0, la0, lb0⟩⟩ ⟨who1, k1, ⟨lk0, la0, lb0⟩⟩ h0 h1 V)
        have cg := Lib.hid (fun (V : World) => cConf ⟨who1, k1, ⟨lk0, la0, lb0⟩⟩ ⟨who0, k0, ⟨lk0, la0, lb0⟩⟩ V)
        have cs := Lib.hid (fun (V : World) => cConf ⟨who0, k0, ⟨lk0, la0, lb0⟩⟩ ⟨who0, k0, ⟨lk0, la0, lb0⟩⟩ V)
        rw [conf_turned] at cg
        rw [conf_self] at cs
        have CA : Hid (k0 < 5 → k1 < 5 → confB ⟨who0, k0, ⟨lk0, la0, lb0⟩⟩ ⟨who1, k1, ⟨lk0, la0, lb0⟩⟩ = false) := fun h0 h1 => conf_atomic h0 h1
        generalize confB ⟨who0, k0, ⟨lk0, la0, lb0⟩⟩ ⟨who1, k1, ⟨lk0, la0, lb0⟩⟩ = cb at *
        dsimp only at cf rf cg cs
        have O : Hid (Only [] U U) := Only.refl [] U
        obtain ⟨i0, i1, i2, i3, i4⟩ := HX.out U O.out
        obtain ⟨j0, j1, j2, j3, j4⟩ := HY.out U O.out
        simp only [Nat.zero_add] at i0 i1 i2 i3 i4 j0 j1 j2 j3 j4
        have cf := cf
        have rf := rf.out (by omega) (by omega)
        have E9 : Hid (k0 < 5 → k1 < 5 → cb = false) := CA.out
        by_cases p0 : k0 < 5
        · by_cases p1 : k1 < 5
          · obtain rfl := E9.out p0 p1
            have p0' := decide_eq_true p0
            have p1' := decide_eq_true p1
            clear CA E9
            go_wp2_with fail
            refine (cf.out _).mono ?_
            rintro e V ⟨rfl, o⟩
            clear i0 i1 i2 i3 i4 j0 j1 j2 j3 j4
            have O := Lib.hid (O.out.trans' o)
            clear o
            obtain ⟨i0, i1, i2, i3, i4⟩ := HX.out V O.out
            obtain ⟨j0, j1, j2, j3, j4⟩ := HY.out V O.out
            simp only [Nat.zero_add] at i0 i1 i2 i3 i4 j0 j1 j2 j3 j4
            go_wp2_with fail
            refine (lAwake _).mono ?_
            rintro e V ⟨rfl, o⟩
            clear i0 i1 i2 i3 i4 j0 j1 j2 j3 j4
            have O := Lib.hid (O.out.trans' o)
            clear o
            obtain ⟨i0, i1, i2, i3, i4⟩ := HX.out V O.out
            obtain ⟨j0, j1, j2, j3, j4⟩ := HY.out V O.out
            simp only [Nat.zero_add] at i0 i1 i2 i3 i4 j0 j1 j2 j3 j4
            go_wp2_with fail
            refine (rf _).mono ?_
            rintro e V ⟨rfl, o⟩
            clear i0 i1 i2 i3 i4 j0 j1 j2 j3 j4
            have O := Lib.hid (O.out.trans' o)
            clear o
            obtain ⟨i0, i1, i2, i3, i4⟩ := HX.out V O.out
            obtain ⟨j0, j1, j2, j3, j4⟩ := HY.out V O.out
            simp only [Nat.zero_add] at i0 i1 i2 i3 i4 j0 j1 j2 j3 j4
            go_wp2_with fail
            refine (cg.out _).mono ?_
            rintro e V ⟨rfl, o⟩
            clear i0 i1 i2 i3 i4 j0 j1 j2 j3 j4
            have O := Lib.hid (O.out.trans' o)
            clear o
            obtain ⟨i0, i1, i2, i3, i4⟩ := HX.out V O.out
            obtain ⟨j0, j1, j2, j3, j4⟩ := HY.out V O.out
            simp only [Nat.zero_add] at i0 i1 i2 i3 i4 j0 j1 j2 j3 j4
            go_wp2_with fail
            refine (cs.out _).mono ?_
            rintro e V ⟨rfl, o⟩
            clear i0 i1 i2 i3 i4 j0 j1 j2 j3 j4
            have O := Lib.hid (O.out.trans' o)
            clear o
            obtain ⟨i0, i1, i2, i3, i4⟩ := HX.out V O.out
            obtain ⟨j0, j1, j2, j3, j4⟩ := HY.out V O.out
            simp only [Nat.zero_add] at i0 i1 i2 i3 i4 j0 j1 j2 j3 j4
            go_wp2_with fail
            go_ret
            exact ⟨by simp, (HO.out.trans' O.out).below (Nat.le_refl _) (by simp)⟩
          · have p1' := decide_eq_false p1
            clear CA E9
            rcases cb
            · -- c
              go_wp2_with fail
              refine (cf.out _).mono ?_
              rintro e V ⟨rfl, o⟩
              clear i0 i1 i2 i3 i4 j0 j1 j2 j3 j4
              have O := Lib.hid (O.out.trans' o)
              clear o
              obtain ⟨i0, i1, i2, i3, i4⟩ := HX.out V O.out
              obtain ⟨j0, j1, j2, j3, j4⟩ := HY.out V O.out
              simp only [Nat.zero_add] at i0 i1 i2 i3 i4 j0 j1 j2 j3 j4
              go_wp2_with fail
              refine (lAwake _).mono ?_
              rintro e V ⟨rfl, o⟩
              clear i0 i1 i2 i3 i4 j0 j1 j2 j3 j4
              have O := Lib.hid (O.out.trans' o)
              clear o
              obtain ⟨i0, i1, i2, i3, i4⟩ := HX.out V O.out
              obtain ⟨j0, j1, j2, j3, j4⟩ := HY.out V O.out
              simp only [Nat.zero_add] at i0 i1 i2 i3 i4 j0 j1 j2 j3 j4
              go_wp2_with fail
              refine (rf _).mono ?_
              rintro e V ⟨rfl, o⟩
              clear i0 i1 i2 i3 i4 j0 j1 j2 j3 j4
              have O := Lib.hid (O.out.trans' o)
              clear o
              obtain ⟨i0, i1, i2, i3, i4⟩ := HX.out V O.out
              obtain ⟨j0, j1, j2, j3, j4⟩ := HY.out V O.out
              simp only [Nat.zero_add] at i0 i1 i2 i3 i4 j0 j1 j2 j3 j4
              go_wp2_with fail
              refine (cg.out _).mono ?_
              rintro e V ⟨rfl, o⟩
              clear i0 i1 i2 i3 i4 j0 j1 j2 j3 j4
              have O := Lib.hid (O.out.trans' o)
              clear o
              obtain ⟨i0, i1, i2, i3, i4⟩ := HX.out V O.out
              obtain ⟨j0, j1, j2, j3, j4⟩ := HY.out V O.out
              simp only [Nat.zero_add] at i0 i1 i2 i3 i4 j0 j1 j2 j3 j4
              go_wp2_with fail
              refine (cs.out _).mono ?_
              rintro e V ⟨rfl, o⟩
              clear i0 i1 i2 i3 i4 j0 j1 j2 j3 j4
              have O := Lib.hid (O.out.trans' o)
              clear o
              obtain ⟨i0, i1, i2, i3, i4⟩ := HX.out V O.out
              obtain ⟨j0, j1, j2, j3, j4⟩ := HY.out V O.out
              simp only [Nat.zero_add] at i0 i1 i2 i3 i4 j0 j1 j2 j3 j4
              go_wp2_with fail
              go_ret
              exact ⟨by simp, (HO.out.trans' O.out).below (Nat.le_refl _) (by simp)⟩
            · -- c
              go_wp2_with fail
              refine (cf.out _).mono ?_
              rintro e V ⟨rfl, o⟩
              clear i0 i1 i2 i3 i4 j0 j1 j2 j3 j4
              have O := Lib.hid (O.out.trans' o)
              clear o
              obtain ⟨i0, i1, i2, i3, i4⟩ := HX.out V O.out
              obtain ⟨j0, j1, j2, j3, j4⟩ := HY.out V O.out
              simp only [Nat.zero_add] at i0 i1 i2 i3 i4 j0 j1 j2 j3 j4
              go_wp2_with fail
              refine (lAwake _).mono ?_
              rintro e V ⟨rfl, o⟩
              clear i0 i1 i2 i3 i4 j0 j1 j2 j3 j4
              have O := Lib.hid (O.out.trans' o)
              clear o
              obtain ⟨i0, i1, i2, i3, i4⟩ := HX.out V O.out
              obtain ⟨j0, j1, j2, j3, j4⟩ := HY.out V O.out
              simp only [Nat.zero_add] at i0 i1 i2 i3 i4 j0 j1 j2 j3 j4
              go_wp2_with fail
              refine (rf _).mono ?_
              rintro e V ⟨rfl, o⟩
              clear i0 i1 i2 i3 i4 j0 j1 j2 j3 j4
              have O := Lib.hid (O.out.trans' o)
              clear o
              obtain ⟨i0, i1, i2, i3, i4⟩ := HX.out V O.out
              obtain ⟨j0, j1, j2, j3, j4⟩ := HY.out V O.out
              simp only [Nat.zero_add] at i0 i1 i2 i3 i4 j0 j1 j2 j3 j4
              go_wp2_with fail
              refine (cg.out _).mono ?_
              rintro e V ⟨rfl, o⟩
              clear i0 i1 i2 i3 i4 j0 j1 j2 j3 j4
              have O := Lib.hid (O.out.trans' o)
              clear o
              obtain ⟨i0, i1, i2, i3, i4⟩ := HX.out V O.out
              obtain ⟨j0, j1, j2, j3, j4⟩ := HY.out V O.out
              simp only [Nat.zero_add] at i0 i1 i2 i3 i4 j0 j1 j2 j3 j4
              go_wp2_with fail
              refine (cs.out _).mono ?_
              rintro e V ⟨rfl, o⟩
              clear i0 i1 i2 i3 i4 j0 j1 j2 j3 j4
              have O := Lib.hid (O.out.trans' o)
              clear o
              obtain ⟨i0, i1, i2, i3, i4⟩ := HX.out V O.out
              obtain ⟨j0, j1, j2, j3, j4⟩ := HY.out V O.out
              simp only [Nat.zero_add] at i0 i1 i2 i3 i4 j0 j1 j2 j3 j4
              go_wp2_with fail
              go_ret
              exact ⟨by simp, (HO.out.trans' O.out).below (Nat.le_refl _) (by simp)⟩
        · have p0' := decide_eq_false p0
          clear CA E9
          rcases cb
          · -- c
            go_wp2_with fail
            refine (cf.out _).mono ?_
            rintro e V ⟨rfl, o⟩
            clear i0 i1 i2 i3 i4 j0 j1 j2 j3 j4
            have O := Lib.hid (O.out.trans' o)
            clear o
            obtain ⟨i0, i1, i2, i3, i4⟩ := HX.out V O.out
            obtain ⟨j0, j1, j2, j3, j4⟩ := HY.out V O.out
            simp only [Nat.zero_add] at i0 i1 i2 i3 i4 j0 j1 j2 j3 j4
            go_wp2_with fail
            refine (lAwake _).mono ?_
            rintro e V ⟨rfl, o⟩
            clear i0 i1 i2 i3 i4 j0 j1 j2 j3 j4
            have O := Lib.hid (O.out.trans' o)
            clear o
            obtain ⟨i0, i1, i2, i3, i4⟩ := HX.out V O.out
            obtain ⟨j0, j1, j2, j3, j4⟩ := HY.out V O.out
            simp only [Nat.zero_add] at i0 i1 i2 i3 i4 j0 j1 j2 j3 j4
            go_wp2_with fail
            refine (rf _).mono ?_
            rintro e V ⟨rfl, o⟩
            clear i0 i1 i2 i3 i4 j0 j1 j2 j3 j4
            have O := Lib.hid (O.out.trans' o)
            clear o
            obtain ⟨i0, i1, i2, i3, i4⟩ := HX.out V O.out
            obtain ⟨j0, j1, j2, j3, j4⟩ := HY.out V O.out
            simp only [Nat.zero_add] at i0 i1 i2 i3 i4 j0 j1 j2 j3 j4
            go_wp2_with fail
            refine (cg.out _).mono ?_
            rintro e V ⟨rfl, o⟩
            clear i0 i1 i2 i3 i4 j0 j1 j2 j3 j4
            have O := Lib.hid (O.out.trans' o)
            clear o
            obtain ⟨i0, i1, i2, i3, i4⟩ := HX.out V O.out
            obtain ⟨j0, j1, j2, j3, j4⟩ := HY.out V O.out
            simp only [Nat.zero_add] at i0 i1 i2 i3 i4 j0 j1 j2 j3 j4
            go_wp2_with fail
            refine (cs.out _).mono ?_
            rintro e V ⟨rfl, o⟩
            clear i0 i1 i2 i3 i4 j0 j1 j2 j3 j4
            have O := Lib.hid (O.out.trans' o)
            clear o
            obtain ⟨i0, i1, i2, i3, i4⟩ := HX.out V O.out
            obtain ⟨j0, j1, j2, j3, j4⟩ := HY.out V O.out
            simp only [Nat.zero_add] at i0 i1 i2 i3 i4 j0 j1 j2 j3 j4
            go_wp2_with fail
            go_ret
            exact ⟨by simp, (HO.out.trans' O.out).below (Nat.le_refl _) (by simp)⟩
          · -- c
            go_wp2_with fail
            refine (cf.out _).mono ?_
            rintro e V ⟨rfl, o⟩
            clear i0 i1 i2 i3 i4 j0 j1 j2 j3 j4
            have O := Lib.hid (O.out.trans' o)
            clear o
            obtain ⟨i0, i1, i2, i3, i4⟩ := HX.out V O.out
            obtain ⟨j0, j1, j2, j3, j4⟩ := HY.out V O.out
            simp only [Nat.zero_add] at i0 i1 i2 i3 i4 j0 j1 j2 j3 j4
            go_wp2_with fail
            refine (lAwake _).mono ?_
            rintro e V ⟨rfl, o⟩
            clear i0 i1 i2 i3 i4 j0 j1 j2 j3 j4
            have O := Lib.hid (O.out.trans' o)
            clear o
            obtain ⟨i0, i1, i2, i3, i4⟩ := HX.out V O.out
            obtain ⟨j0, j1, j2, j3, j4⟩ := HY.out V O.out
            simp only [Nat.zero_add] at i0 i1 i2 i3 i4 j0 j1 j2 j3 j4
            go_wp2_with fail
            refine (rf _).mono ?_
            rintro e V ⟨rfl, o⟩
            clear i0 i1 i2 i3 i4 j0 j1 j2 j3 j4
            have O := Lib.hid (O.out.trans' o)
            clear o
            obtain ⟨i0, i1, i2, i3, i4⟩ := HX.out V O.out
            obtain ⟨j0, j1, j2, j3, j4⟩ := HY.out V O.out
            simp only [Nat.zero_add] at i0 i1 i2 i3 i4 j0 j1 j2 j3 j4
            go_wp2_with fail
            refine (cg.out _).mono ?_
            rintro e V ⟨rfl, o⟩
            clear i0 i1 i2 i3 i4 j0 j1 j2 j3 j4
            have O := Lib.hid (O.out.trans' o)
            clear o
            obtain ⟨i0, i1, i2, i3, i4⟩ := HX.out V O.out
            obtain ⟨j0, j1, j2, j3, j4⟩ := HY.out V O.out
            simp only [Nat.zero_add] at i0 i1 i2 i3 i4 j0 j1 j2 j3 j4
            go_wp2_with fail
            refine (cs.out _).mono ?_
            rintro e V ⟨rfl, o⟩
            clear i0 i1 i2 i3 i4 j0 j1 j2 j3 j4
            have O := Lib.hid (O.out.trans' o)
            clear o
            obtain ⟨i0, i1, i2, i3, i4⟩ := HX.out V O.out
            obtain ⟨j0, j1, j2, j3, j4⟩ := HY.out V O.out
            simp only [Nat.zero_add] at i0 i1 i2 i3 i4 j0 j1 j2 j3 j4
            go_wp2_with fail
            go_ret
            exact ⟨by simp, (HO.out.trans' O.out).below (Nat.le_refl _) (by simp)⟩
      · have h4b : (a2.tmod 2 == 0) = false := by simp [h4]
        clear h4
        have HX : Hid (∀ V, Only [] U0 V → EvAt V g 0 ⟨who0, k0, ⟨lk0, la0, lb0⟩⟩) := fun V o => EvAt.only0 (w := U0) (by simp only [EvAt, Nat.zero_add]; exact ⟨u0, u1, u2, u3, u4⟩) o
        have HY : Hid (∀ V, Only [] U0 V → EvAt V (g + 1) 0 ⟨who1, k1, ⟨lk1, la1, lb1⟩⟩) := fun V o => EvAt.only0 (w := U0) (by simp only [EvAt, Nat.zero_add]; exact ⟨v0, v1, v2, v3, v4⟩) o
        have HO := HU
        clear u0 u1 u2 u3 u4 v0 v1 v2 v3 v4 fy2 fy3 fy4 HU
        generalize U0 = U at *
        have cf := Lib.hid (fun (V : World) => cConf ⟨who0, k0, ⟨lk0, la0, lb0⟩⟩ ⟨who1, k1, ⟨lk1, la1, lb1⟩⟩ V)
        have rf := Lib.hid (fun (h0 : 1 ≤ k0 ∧ k0 ≤ 6) (h1 : 1 ≤ k1 ∧ k1 ≤ 6) (V : World) => rConf ⟨who0, k0, ⟨lk0, la0, lb0⟩⟩ ⟨who1, k1, ⟨lk1, la1, lb1⟩⟩ h0 h1 V)
        have cg := Lib.hid (fun (V : World) => cConf ⟨who1, k1, ⟨lk1, la1, lb1⟩⟩ ⟨who0, k0, ⟨lk0, la0, lb0⟩⟩ V)
        have cs := Lib.hid (fun (V : World) => cConf ⟨who0, k0, ⟨lk0, la0, lb0⟩⟩ ⟨who0, k0, ⟨lk0, la0, lb0⟩⟩ V)
        rw [conf_turned] at cg
        rw [conf_self] at cs
        have CA : Hid (k0 < 5 → k1 < 5 → confB ⟨who0, k0, ⟨lk0, la0, lb0⟩⟩ ⟨who1, k1, ⟨lk1, la1, lb1⟩⟩ = false) := fun h0 h1 => conf_atomic h0 h1
        generalize confB ⟨who0, k0, ⟨lk0, la0, lb0⟩⟩ ⟨who1, k1, ⟨lk1, la1, lb1⟩⟩ = cb at *
        dsimp only at cf rf cg cs
        have O : Hid (Only [] U U) := Only.refl [] U
        obtain ⟨i0, i1, i2, i3, i4⟩ := HX.out U O.out
        obtain ⟨j0, j1, j2, j3, j4⟩ := HY.out U O.out
        simp only [Nat.zero_add] at i0 i1 i2 i3 i4 j0 j1 j2 j3 j4
        have cf := cf
        have rf := rf.out (by omega) (by omega)
        have E9 : Hid (k0 < 5 → k1 < 5 → cb = false) := CA.out
        by_cases p0 : k0 < 5
        · by_cases p1 : k1 < 5
          · obtain rfl := E9.out p0 p1
            have p0' := decide_eq_true p0
            have p1' := decide_eq_true p1
            clear CA E9
            go_wp2_with fail
            refine (cf.out _).mono ?_
            rintro e V ⟨rfl, o⟩
            clear i0 i1 i2 i3 i4 j0 j1 j2 j3 j4
            have O := Lib.hid (O.out.trans' o)
            clear o
            obtain ⟨i0, i1, i2, i3, i4⟩ := HX.out V O.out
            obtain ⟨j0, j1, j2, j3, j4⟩ := HY.out V O.out
            simp only [Nat.zero_add] at i0 i1 i2 i3 i4 j0 j1 j2 j3 j4
            go_wp2_with fail
            refine (lAwake _).mono ?_
            rintro e V ⟨rfl, o⟩
            clear i0 i1 i2 i3 i4 j0 j1 j2 j3 j4
            have O := Lib.hid (O.out.trans' o)
            clear o
            obtain ⟨i0, i1, i2, i3, i4⟩ := HX.out V O.out
            obtain ⟨j0, j1, j2, j3, j4⟩ := HY.out V O.out
            simp only [Nat.zero_add] at i0 i1 i2 i3 i4 j0 j1 j2 j3 j4
            go_wp2_with fail
            refine (rf _).mono ?_
            rintro e V ⟨rfl, o⟩
            clear i0 i1 i2 i3 i4 j0 j1 j2 j3 j4
            have O := Lib.hid (O.out.trans' o)
            clear o
            obtain ⟨i0, i1, i2, i3, i4⟩ := HX.out V O.out
            obtain ⟨j0, j1, j2, j3, j4⟩ := HY.out V O.out
            simp only [Nat.zero_add] at i0 i1 i2 i3 i4 j0 j1 j2 j3 j4
            go_wp2_with fail
            refine (cg.out _).mono ?_
            rintro e V ⟨rfl, o⟩
            clear i0 i1 i2 i3 i4 j0 j1 j2 j3 j4
            have O := Lib.hid (O.out.trans' o)
            clear o
            obtain ⟨i0, i1, i2, i3, i4⟩ := HX.out V O.out
            obtain ⟨j0, j1, j2, j3, j4⟩ := HY.out V O.out
            simp only [Nat.zero_add] at i0 i1 i2 i3 i4 j0 j1 j2 j3 j4
            go_wp2_with fail
            refine (cs.out _).mono ?_
            rintro e V ⟨rfl, o⟩
            clear i0 i1 i2 i3 i4 j0 j1 j2 j3 j4
            have O := Lib.hid (O.out.trans' o)
            clear o
            obtain ⟨i0, i1, i2, i3, i4⟩ := HX.out V O.out
            obtain ⟨j0, j1, j2, j3, j4⟩ := HY.out V O.out
            simp only [Nat.zero_add] at i0 i1 i2 i3 i4 j0 j1 j2 j3 j4
            go_wp2_with fail
            go_ret
            exact ⟨by simp, (HO.out.trans' O.out).below (Nat.le_refl _) (by simp)⟩
          · have p1' := decide_eq_false p1
            clear CA E9
            rcases cb
            · -- c
              go_wp2_with fail
              refine (cf.out _).mono ?_
              rintro e V ⟨rfl, o⟩
              clear i0 i1 i2 i3 i4 j0 j1 j2 j3 j4
              have O := Lib.hid (O.out.trans' o)
              clear o
              obtain ⟨i0, i1, i2, i3, i4⟩ := HX.out V O.out
              obtain ⟨j0, j1, j2, j3, j4⟩ := HY.out V O.out
              simp only [Nat.zero_add] at i0 i1 i2 i3 i4 j0 j1 j2 j3 j4
              go_wp2_with fail
              refine (lAwake _).mono ?_
              rintro e V ⟨rfl, o⟩
              clear i0 i1 i2 i3 i4 j0 j1 j2 j3 j4
              have O := Lib.hid (O.out.trans' o)
              clear o
              obtain ⟨i0, i1, i2, i3, i4⟩ := HX.out V O.out
              obtain ⟨j0, j1, j2, j3, j4⟩ := HY.out V O.out
              simp only [Nat.zero_add] at i0 i1 i2 i3 i4 j0 j1 j2 j3 j4
              go_wp2_with fail
              refine (rf _).mono ?_
              rintro e V ⟨rfl, o⟩
              clear i0 i1 i2 i3 i4 j0 j1 j2 j3 j4
              have O := Lib.hid (O.out.trans' o)
              clear o
              obtain ⟨i0, i1, i2, i3, i4⟩ := HX.out V O.out
              obtain ⟨j0, j1, j2, j3, j4⟩ := HY.out V O.out
              simp only [Nat.zero_add] at i0 i1 i2 i3 i4 j0 j1 j2 j3 j4
              go_wp2_with fail
              refine (cg.out _).mono ?_
              rintro e V ⟨rfl, o⟩
              clear i0 i1 i2 i3 i4 j0 j1 j2 j3 j4
              have O := Lib.hid (O.out.trans' o)
              clear o
              obtain ⟨i0, i1, i2, i3, i4⟩ := HX.out V O.out
              obtain ⟨j0, j1, j2, j3, j4⟩ := HY.out V O.out
              simp only [Nat.zero_add] at i0 i1 i2 i3 i4 j0 j1 j2 j3 j4
              go_wp2_with fail
              refine (cs.out _).mono ?_
              rintro e V ⟨rfl, o⟩
              clear i0 i1 i2 i3 i4 j0 j1 j2 j3 j4
              have O := Lib.hid (O.out.trans' o)
              clear o
              obtain ⟨i0, i1, i2, i3, i4⟩ := HX.out V O.out
              obtain ⟨j0, j1, j2, j3, j4⟩ := HY.out V O.out
              simp only [Nat.zero_add] at i0 i1 i2 i3 i4 j0 j1 j2 j3 j4
              go_wp2_with fail
              go_ret
              exact ⟨by simp, (HO.out.trans' O.out).below (Nat.le_refl _) (by simp)⟩
            · -- c
              go_wp2_with fail
              refine (cf.out _).mono ?_
              rintro e V ⟨rfl, o⟩
              clear i0 i1 i2 i3 i4 j0 j1 j2 j3 j4
              have O := Lib.hid (O.out.trans' o)
              clear o
              obtain ⟨i0, i1, i2, i3, i4⟩ := HX.out V O.out
              obtain ⟨j0, j1, j2, j3, j4⟩ := HY.out V O.out
              simp only [Nat.zero_add] at i0 i1 i2 i3 i4 j0 j1 j2 j3 j4
              go_wp2_with fail
              refine (lAwake _).mono ?_
              rintro e V ⟨rfl, o⟩
              clear i0 i1 i2 i3 i4 j0 j1 j2 j3 j4
              have O := Lib.hid (O.out.trans' o)
              clear o
              obtain ⟨i0, i1, i2, i3, i4⟩ := HX.out V O.out
              obtain ⟨j0, j1, j2, j3, j4⟩ := HY.out V O.out
              simp only [Nat.zero_add] at i0 i1 i2 i3 i4 j0 j1 j2 j3 j4
              go_wp2_with fail
              refine (rf _).mono ?_
              rintro e V ⟨rfl, o⟩
              clear i0 i1 i2 i3 i4 j0 j1 j2 j3 j4
              have O := Lib.hid (O.out.trans' o)
              clear o
              obtain ⟨i0, i1, i2, i3, i4⟩ := HX.out V O.out
              obtain ⟨j0, j1, j2, j3, j4⟩ := HY.out V O.out
              simp only [Nat.zero_add] at i0 i1 i2 i3 i4 j0 j1 j2 j3 j4
              go_wp2_with fail
              refine (cg.out _).mono ?_
              rintro e V ⟨rfl, o⟩
              clear i0 i1 i2 i3 i4 j0 j1 j2 j3 j4
              have O := Lib.hid (O.out.trans' o)
              clear o
              obtain ⟨i0, i1, i2, i3, i4⟩ := HX.out V O.out
              obtain ⟨j0, j1, j2, j3, j4⟩ := HY.out V O.out
              simp only [Nat.zero_add] at i0 i1 i2 i3 i4 j0 j1 j2 j3 j4
              go_wp2_with fail
              refine (cs.out _).mono ?_
              rintro e V ⟨rfl, o⟩
              clear i0 i1 i2 i3 i4 j0 j1 j2 j3 j4
              have O := Lib.hid (O.out.trans' o)
              clear o
              obtain ⟨i0, i1, i2, i3, i4⟩ := HX.out V O.out
              obtain ⟨j0, j1, j2, j3, j4⟩ := HY.out V O.out
              simp only [Nat.zero_add] at i0 i1 i2 i3 i4 j0 j1 j2 j3 j4
              go_wp2_with fail
              go_ret
              exact ⟨by simp, (HO.out.trans' O.out).below (Nat.le_refl _) (by simp)⟩
        · have p0' := decide_eq_false p0
          clear CA E9
          rcases cb
          · -- c
            go_wp2_with fail
            refine (cf.out _).mono ?_
            rintro e V ⟨rfl, o⟩
            clear i0 i1 i2 i3 i4 j0 j1 j2 j3 j4
            have O := Lib.hid (O.out.trans' o)
            clear o
            obtain ⟨i0, i1, i2, i3, i4⟩ := HX.out V O.out
            obtain ⟨j0, j1, j2, j3, j4⟩ := HY.out V O.out
            simp only [Nat.zero_add] at i0 i1 i2 i3 i4 j0 j1 j2 j3 j4
            go_wp2_with fail
            refine (lAwake _).mono ?_
            rintro e V ⟨rfl, o⟩
            clear i0 i1 i2 i3 i4 j0 j1 j2 j3 j4
            have O := Lib.hid (O.out.trans' o)
            clear o
            obtain ⟨i0, i1, i2, i3, i4⟩ := HX.out V O.out
            obtain ⟨j0, j1, j2, j3, j4⟩ := HY.out V O.out
            simp only [Nat.zero_add] at i0 i1 i2 i3 i4 j0 j1 j2 j3 j4
            go_wp2_with fail
            refine (rf _).mono ?_
            rintro e V ⟨rfl, o⟩
            clear i0 i1 i2 i3 i4 j0 j1 j2 j3 j4
            have O := Lib.hid (O.out.trans' o)
            clear o
            obtain ⟨i0, i1, i2, i3, i4⟩ := HX.out V O.out
            obtain ⟨j0, j1, j2, j3, j4⟩ := HY.out V O.out
            simp only [Nat.zero_add] at i0 i1 i2 i3 i4 j0 j1 j2 j3 j4
            go_wp2_with fail
            refine (cg.out _).mono ?_
            rintro e V ⟨rfl, o⟩
            clear i0 i1 i2 i3 i4 j0 j1 j2 j3 j4
            have O := Lib.hid (O.out.trans' o)
            clear o
            obtain ⟨i0, i1, i2, i3, i4⟩ := HX.out V O.out
            obtain ⟨j0, j1, j2, j3, j4⟩ := HY.out V O.out
            simp only [Nat.zero_add] at i0 i1 i2 i3 i4 j0 j1 j2 j3 j4
            go_wp2_with fail
            refine (cs.out _).mono ?_
            rintro e V ⟨rfl, o⟩
            clear i0 i1 i2 i3 i4 j0 j1 j2 j3 j4
            have O := Lib.hid (O.out.trans' o)
            clear o
            obtain ⟨i0, i1, i2, i3, i4⟩ := HX.out V O.out
            obtain ⟨j0, j1, j2, j3, j4⟩ := HY.out V O.out
            simp only [Nat.zero_add] at i0 i1 i2 i3 i4 j0 j1 j2 j3 j4
            go_wp2_with fail
            go_ret
            exact ⟨by simp, (HO.out.trans' O.out).below (Nat.le_refl _) (by simp)⟩
          · -- c
            go_wp2_with fail
            refine (cf.out _).mono ?_
            rintro e V ⟨rfl, o⟩
            clear i0 i1 i2 i3 i4 j0 j1 j2 j3 j4
            have O := Lib.hid (O.out.trans' o)
            clear o
            obtain ⟨i0, i1, i2, i3, i4⟩ := HX.out V O.out
            obtain ⟨j0, j1, j2, j3, j4⟩ := HY.out V O.out
            simp only [Nat.zero_add] at i0 i1 i2 i3 i4 j0 j1 j2 j3 j4
            go_wp2_with fail
            refine (lAwake _).mono ?_
            rintro e V ⟨rfl, o⟩
            clear i0 i1 i2 i3 i4 j0 j1 j2 j3 j4
            have O := Lib.hid (O.out.trans' o)
            clear o
            obtain ⟨i0, i1, i2, i3, i4⟩ := HX.out V O.out
            obtain ⟨j0, j1, j2, j3, j4⟩ := HY.out V O.out
            simp only [Nat.zero_add] at i0 i1 i2 i3 i4 j0 j1 j2 j3 j4
            go_wp2_with fail
            refine (rf _).mono ?_
            rintro e V ⟨rfl, o⟩
            clear i0 i1 i2 i3 i4 j0 j1 j2 j3 j4
            have O := Lib.hid (O.out.trans' o)
            clear o
            obtain ⟨i0, i1, i2, i3, i4⟩ := HX.out V O.out
            obtain ⟨j0, j1, j2, j3, j4⟩ := HY.out V O.out
            simp only [Nat.zero_add] at i0 i1 i2 i3 i4 j0 j1 j2 j3 j4
            go_wp2_with fail
            refine (cg.out _).mono ?_
            rintro e V ⟨rfl, o⟩
            clear i0 i1 i2 i3 i4 j0 j1 j2 j3 j4
            have O := Lib.hid (O.out.trans' o)
            clear o
            obtain ⟨i0, i1, i2, i3, i4⟩ := HX.out V O.out
            obtain ⟨j0, j1, j2, j3, j4⟩ := HY.out V O.out
            simp only [Nat.zero_add] at i0 i1 i2 i3 i4 j0 j1 j2 j3 j4
            go_wp2_with fail
            refine (cs.out _).mono ?_
            rintro e V ⟨rfl, o⟩
            clear i0 i1 i2 i3 i4 j0 j1 j2 j3 j4
            have O := Lib.hid (O.out.trans' o)
            clear o
            obtain ⟨i0, i1, i2, i3, i4⟩ := HX.out V O.out
            obtain ⟨j0, j1, j2, j3, j4⟩ := HY.out V O.out
            simp only [Nat.zero_add] at i0 i1 i2 i3 i4 j0 j1 j2 j3 j4
            go_wp2_with fail
            go_ret
            exact ⟨by simp, (HO.out.trans' O.out).below (Nat.le_refl _) (by simp)⟩
  · have h3f := decide_eq_false h3
    have HU := OB
    clear m1 m2 h1w h2w q1 q2
    have u0 := x0
    have u1 := x1
    have u2 := x2
    have u3 := x3
    have u4 := x4
    have v0 := y0
    have v1 := y1
    have v2 := y2
    have v3 := y3
    have v4 := y4
    clear x0 x1 x2 x3 x4 y0 y1 y2 y3 y4
    generalize kind0 = k0 at *
    generalize kind1 = k1 at *
    by_cases h4 : a2.tmod 2 = 0
    · have h4b : (a2.tmod 2 == 0) = true := by simp [h4]
      clear h4
      go_upto_region 5 with fail
      have HX : Hid (∀ V, Only [] (((W.setCell ⟨g + 1, 2, none⟩ (.int .i64 lk0)).setCell ⟨g + 1, 3, none⟩ (.int .i64 la0)).setCell ⟨g + 1, 4, none⟩ (.int .i64 lb0)) V → EvAt V g 0 ⟨who0, k0, ⟨lk0, la0, lb0⟩⟩) := fun V o => by
        have ne : ∀ (X : World) (k : Nat) (v : Value) (c : Nat), (X.setCell ⟨g + 1, k, none⟩ v).cell? ⟨g, c, none⟩ = X.cell? ⟨g, c, none⟩ := fun X k v c => World.cell?_setCell_other _ _ _ _ (by intro e9; injection e9 with e9; omega)
        refine EvAt.only0 ?_ o
        simp only [EvAt, Nat.zero_add, ne]
        exact ⟨u0, u1, u2, u3, u4⟩
      have HY : Hid (∀ V, Only [] (((W.setCell ⟨g + 1, 2, none⟩ (.int .i64 lk0)).setCell ⟨g + 1, 3, none⟩ (.int .i64 la0)).setCell ⟨g + 1, 4, none⟩ (.int .i64 lb0)) V → EvAt V (g + 1) 0 ⟨who1, k1, ⟨lk0, la0, lb0⟩⟩) := fun V o => by
        have ne : ∀ (X : World) (k : Nat) (v : Value) (c : Nat), c ≠ k → (X.setCell ⟨g + 1, k, none⟩ v).cell? ⟨g + 1, c, none⟩ = X.cell? ⟨g + 1, c, none⟩ := fun X k v c h => World.cell?_setCell_other _ _ _ _ (by intro e9; injection e9 with _ e9; omega)
        have sm : ∀ (X : World) (k : Nat) (v u : Value), X.cell? ⟨g + 1, k, none⟩ = some u → (X.setCell ⟨g + 1, k, none⟩ v).cell? ⟨g + 1, k, none⟩ = some v := fun X k v u h => World.cell?_setCell_same' _ _ _ (by rw [h]; rfl)
        refine EvAt.only0 ?_ o
        simp only [EvAt, Nat.zero_add]
        refine ⟨?_, ?_, ?_, ?_, ?_⟩
        · rw [ne _ _ _ _ (by decide), ne _ _ _ _ (by decide), ne _ _ _ _ (by decide)]; exact v0
        · rw [ne _ _ _ _ (by decide), ne _ _ _ _ (by decide), ne _ _ _ _ (by decide)]; exact v1
        · rw [ne _ _ _ _ (by decide), ne _ _ _ _ (by decide)]; exact sm _ _ _ _ v2
        · rw [ne _ _ _ _ (by decide)]; exact sm _ _ _ _ ((ne _ _ _ _ (by decide)).trans v3)
        · exact sm _ _ _ _ ((ne _ _ _ _ (by decide)).trans ((ne _ _ _ _ (by decide)).trans v4))
      have HO : Hid (Only [] w (((W.setCell ⟨g + 1, 2, none⟩ (.int .i64 lk0)).setCell ⟨g + 1, 3, none⟩ (.int .i64 la0)).setCell ⟨g + 1, 4, none⟩ (.int .i64 lb0))) := ((HU.out.setCell (.inr (by have := HG.out; show _ ≤ g + 1; omega)) _).setCell (.inr (by have := HG.out; show _ ≤ g + 1; omega)) _).setCell (.inr (by have := HG.out; show _ ≤ g + 1; omega)) _
      clear u0 u1 u2 u3 u4 v0 v1 v2 v3 v4 fy2 fy3 fy4 h4b HU
      generalize ((W.setCell ⟨g + 1, 2, none⟩ (.int .i64 lk0)).setCell ⟨g + 1, 3, none⟩ (.int .i64 la0)).setCell ⟨g + 1, 4, none⟩ (.int .i64 lb0) = U at *
      have cf := Lib.hid (fun (V : World) => cConf ⟨who0, k0, ⟨lk0, la0, lb0⟩⟩ ⟨who1, k1, ⟨lk0, la0, lb0⟩⟩ V)
      have rf := Lib.hid (fun (h0 : 1 ≤ k0 ∧ k0 ≤ 6) (h1 : 1 ≤ k1 ∧ k1 ≤ 6) (V : World) => rConf ⟨who0, k0, ⟨lk0, la0, lb0⟩⟩ ⟨who1, k1, ⟨lk0, la0, lb0⟩⟩ h0 h1 V)
      have cg := Lib.hid (fun (V : World) => cConf ⟨who1, k1, ⟨lk0, la0, lb0⟩⟩ ⟨who0, k0, ⟨lk0, la0, lb0⟩⟩ V)
      have cs := Lib.hid (fun (V : World) => cConf ⟨who0, k0, ⟨lk0, la0, lb0⟩⟩ ⟨who0, k0, ⟨lk0, la0, lb0⟩⟩ V)
      rw [conf_turned] at cg
      rw [conf_self] at cs
      have CA : Hid (k0 < 5 → k1 < 5 → confB ⟨who0, k0, ⟨lk0, la0, lb0⟩⟩ ⟨who1, k1, ⟨lk0, la0, lb0⟩⟩ = false) := fun h0 h1 => conf_atomic h0 h1
      generalize confB ⟨who0, k0, ⟨lk0, la0, lb0⟩⟩ ⟨who1, k1, ⟨lk0, la0, lb0⟩⟩ = cb at *
      dsimp only at cf rf cg cs
      have O : Hid (Only [] U U) := Only.refl [] U
      obtain ⟨i0, i1, i2, i3, i4⟩ := HX.out U O.out
      obtain ⟨j0, j1, j2, j3, j4⟩ := HY.out U O.out
      simp only [Nat.zero_add] at i0 i1 i2 i3 i4 j0 j1 j2 j3 j4
      by_cases tk0lo : k0 < 1
      · -- no kind
        clear cf rf cg cs
        go_wp2_with fail
        refine (lAwake _).mono ?_
        rintro e V ⟨rfl, o⟩
        clear i0 i1 i2 i3 i4 j0 j1 j2 j3 j4
        have O := Lib.hid (O.out.trans' o)
        clear o
        obtain ⟨i0, i1, i2, i3, i4⟩ := HX.out V O.out
        obtain ⟨j0, j1, j2, j3, j4⟩ := HY.out V O.out
        simp only [Nat.zero_add] at i0 i1 i2 i3 i4 j0 j1 j2 j3 j4
        go_wp2_with fail
        go_ret
        exact ⟨by simp, (HO.out.trans' O.out).below (Nat.le_refl _) (by simp)⟩
      have tk0lof := decide_eq_false tk0lo
      by_cases tk0hi : 6 < k0
      · -- no kind
        clear cf rf cg cs
        go_wp2_with fail
        refine (lAwake _).mono ?_
        rintro e V ⟨rfl, o⟩
        clear i0 i1 i2 i3 i4 j0 j1 j2 j3 j4
        have O := Lib.hid (O.out.trans' o)
        clear o
        obtain ⟨i0, i1, i2, i3, i4⟩ := HX.out V O.out
        obtain ⟨j0, j1, j2, j3, j4⟩ := HY.out V O.out
        simp only [Nat.zero_add] at i0 i1 i2 i3 i4 j0 j1 j2 j3 j4
        go_wp2_with fail
        go_ret
        exact ⟨by simp, (HO.out.trans' O.out).below (Nat.le_refl _) (by simp)⟩
      have tk0hif := decide_eq_false tk0hi
      by_cases tk1lo : k1 < 1
      · -- no kind
        clear cf rf cg cs
        go_wp2_with fail
        refine (lAwake _).mono ?_
        rintro e V ⟨rfl, o⟩
        clear i0 i1 i2 i3 i4 j0 j1 j2 j3 j4
        have O := Lib.hid (O.out.trans' o)
        clear o
        obtain ⟨i0, i1, i2, i3, i4⟩ := HX.out V O.out
        obtain ⟨j0, j1, j2, j3, j4⟩ := HY.out V O.out
        simp only [Nat.zero_add] at i0 i1 i2 i3 i4 j0 j1 j2 j3 j4
        go_wp2_with fail
        go_ret
        exact ⟨by simp, (HO.out.trans' O.out).below (Nat.le_refl _) (by simp)⟩
      have tk1lof := decide_eq_false tk1lo
      by_cases tk1hi : 6 < k1
      · -- no kind
        clear cf rf cg cs
        go_wp2_with fail
        refine (lAwake _).mono ?_
        rintro e V ⟨rfl, o⟩
        clear i0 i1 i2 i3 i4 j0 j1 j2 j3 j4
        have O := Lib.hid (O.out.trans' o)
        clear o
        obtain ⟨i0, i1, i2, i3, i4⟩ := HX.out V O.out
        obtain ⟨j0, j1, j2, j3, j4⟩ := HY.out V O.out
        simp only [Nat.zero_add] at i0 i1 i2 i3 i4 j0 j1 j2 j3 j4
        go_wp2_with fail
        go_ret
        exact ⟨by simp, (HO.out.trans' O.out).below (Nat.le_refl _) (by simp)⟩
      have tk1hif := decide_eq_false tk1hi
      have cf := cf
      have rf := rf.out (by omega) (by omega)
      have E9 : Hid (k0 < 5 → k1 < 5 → cb = false) := CA.out
      by_cases p0 : k0 < 5
      · by_cases p1 : k1 < 5
        · obtain rfl := E9.out p0 p1
          have p0' := decide_eq_true p0
          have p1' := decide_eq_true p1
          clear CA E9
          go_wp2_with fail
          refine (cf.out _).mono ?_
          rintro e V ⟨rfl, o⟩
          clear i0 i1 i2 i3 i4 j0 j1 j2 j3 j4
          have O := Lib.hid (O.out.trans' o)
          clear o
          obtain ⟨i0, i1, i2, i3, i4⟩ := HX.out V O.out
          obtain ⟨j0, j1, j2, j3, j4⟩ := HY.out V O.out
          simp only [Nat.zero_add] at i0 i1 i2 i3 i4 j0 j1 j2 j3 j4
          go_wp2_with fail
          refine (lAwake _).mono ?_
          rintro e V ⟨rfl, o⟩
          clear i0 i1 i2 i3 i4 j0 j1 j2 j3 j4
          have O := Lib.hid (O.out.trans' o)
          clear o
          obtain ⟨i0, i1, i2, i3, i4⟩ := HX.out V O.out
          obtain ⟨j0, j1, j2, j3, j4⟩ := HY.out V O.out
          simp only [Nat.zero_add] at i0 i1 i2 i3 i4 j0 j1 j2 j3 j4
          go_wp2_with fail
          refine (rf _).mono ?_
          rintro e V ⟨rfl, o⟩
          clear i0 i1 i2 i3 i4 j0 j1 j2 j3 j4
          have O := Lib.hid (O.out.trans' o)
          clear o
          obtain ⟨i0, i1, i2, i3, i4⟩ := HX.out V O.out
          obtain ⟨j0, j1, j2, j3, j4⟩ := HY.out V O.out
          simp only [Nat.zero_add] at i0 i1 i2 i3 i4 j0 j1 j2 j3 j4
          go_wp2_with fail
          refine (cg.out _).mono ?_
          rintro e V ⟨rfl, o⟩
          clear i0 i1 i2 i3 i4 j0 j1 j2 j3 j4
          have O := Lib.hid (O.out.trans' o)
          clear o
          obtain ⟨i0, i1, i2, i3, i4⟩ := HX.out V O.out
          obtain ⟨j0, j1, j2, j3, j4⟩ := HY.out V O.out
          simp only [Nat.zero_add] at i0 i1 i2 i3 i4 j0 j1 j2 j3 j4
          go_wp2_with fail
          refine (cs.out _).mono ?_
          rintro e V ⟨rfl, o⟩
          clear i0 i1 i2 i3 i4 j0 j1 j2 j3 j4
          have O := Lib.hid (O.out.trans' o)
          clear o
          obtain ⟨i0, i1, i2, i3, i4⟩ := HX.out V O.out
          obtain ⟨j0, j1, j2, j3, j4⟩ := HY.out V O.out
          simp only [Nat.zero_add] at i0 i1 i2 i3 i4 j0 j1 j2 j3 j4
          go_wp2_with fail
          go_ret
          exact ⟨by simp, (HO.out.trans' O.out).below (Nat.le_refl _) (by simp)⟩
        · have p1' := decide_eq_false p1
          clear CA E9
          rcases cb
          · -- c
            go_wp2_with fail
            refine (cf.out _).mono ?_
            rintro e V ⟨rfl, o⟩
            clear i0 i1 i2 i3 i4 j0 j1 j2 j3 j4
            have O := Lib.hid (O.out.trans' o)
            clear o
            obtain ⟨i0, i1, i2, i3, i4⟩ := HX.out V O.out
            obtain ⟨j0, j1, j2, j3, j4⟩ := HY.out V O.out
            simp only [Nat.zero_add] at i0 i1 i2 i3 i4 j0 j1 j2 j3 j4
            go_wp2_with fail
            refine (lAwake _).mono ?_
            rintro e V ⟨rfl, o⟩
            clear i0 i1 i2 i3 i4 j0 j1 j2 j3 j4
            have O := Lib.hid (O.out.trans' o)
            clear o
            obtain ⟨i0, i1, i2, i3, i4⟩ := HX.out V O.out
            obtain ⟨j0, j1, j2, j3, j4⟩ := HY.out V O.out
            simp only [Nat.zero_add] at i0 i1 i2 i3 i4 j0 j1 j2 j3 j4
            go_wp2_with fail
            refine (rf _).mono ?_
            rintro e V ⟨rfl, o⟩
            clear i0 i1 i2 i3 i4 j0 j1 j2 j3 j4
            have O := Lib.hid (O.out.trans' o)
            clear o
            obtain ⟨i0, i1, i2, i3, i4⟩ := HX.out V O.out
            obtain ⟨j0, j1, j2, j3, j4⟩ := HY.out V O.out
            simp only [Nat.zero_add] at i0 i1 i2 i3 i4 j0 j1 j2 j3 j4
            go_wp2_with fail
            refine (cg.out _).mono ?_
            rintro e V ⟨rfl, o⟩
            clear i0 i1 i2 i3 i4 j0 j1 j2 j3 j4
            have O := Lib.hid (O.out.trans' o)
            clear o
            obtain ⟨i0, i1, i2, i3, i4⟩ := HX.out V O.out
            obtain ⟨j0, j1, j2, j3, j4⟩ := HY.out V O.out
            simp only [Nat.zero_add] at i0 i1 i2 i3 i4 j0 j1 j2 j3 j4
            go_wp2_with fail
            refine (cs.out _).mono ?_
            rintro e V ⟨rfl, o⟩
            clear i0 i1 i2 i3 i4 j0 j1 j2 j3 j4
            have O := Lib.hid (O.out.trans' o)
            clear o
            obtain ⟨i0, i1, i2, i3, i4⟩ := HX.out V O.out
            obtain ⟨j0, j1, j2, j3, j4⟩ := HY.out V O.out
            simp only [Nat.zero_add] at i0 i1 i2 i3 i4 j0 j1 j2 j3 j4
            go_wp2_with fail
            go_ret
            exact ⟨by simp, (HO.out.trans' O.out).below (Nat.le_refl _) (by simp)⟩
          · -- c
            go_wp2_with fail
            refine (cf.out _).mono ?_
            rintro e V ⟨rfl, o⟩
            clear i0 i1 i2 i3 i4 j0 j1 j2 j3 j4
            have O := Lib.hid (O.out.trans' o)
            clear o
            obtain ⟨i0, i1, i2, i3, i4⟩ := HX.out V O.out
            obtain ⟨j0, j1, j2, j3, j4⟩ := HY.out V O.out
            simp only [Nat.zero_add] at i0 i1 i2 i3 i4 j0 j1 j2 j3 j4
            go_wp2_with fail
            refine (lAwake _).mono ?_
            rintro e V ⟨rfl, o⟩
            clear i0 i1 i2 i3 i4 j0 j1 j2 j3 j4
            have O := Lib.hid (O.out.trans' o)
            clear o
            obtain ⟨i0, i1, i2, i3, i4⟩ := HX.out V O.out
            obtain ⟨j0, j1, j2, j3, j4⟩ := HY.out V O.out
            simp only [Nat.zero_add] at i0 i1 i2 i3 i4 j0 j1 j2 j3 j4
            go_wp2_with fail
            refine (rf _).mono ?_
            rintro e V ⟨rfl, o⟩
            clear i0 i1 i2 i3 i4 j0 j1 j2 j3 j4
            have O := Lib.hid (O.out.trans' o)
            clear o
            obtain ⟨i0, i1, i2, i3, i4⟩ := HX.out V O.out
            obtain ⟨j0, j1, j2, j3, j4⟩ := HY.out V O.out
            simp only [Nat.zero_add] at i0 i1 i2 i3 i4 j0 j1 j2 j3 j4
            go_wp2_with fail
            refine (cg.out _).mono ?_
            rintro e V ⟨rfl, o⟩
            clear i0 i1 i2 i3 i4 j0 j1 j2 j3 j4
            have O := Lib.hid (O.out.trans' o)
            clear o
            obtain ⟨i0, i1, i2, i3, i4⟩ := HX.out V O.out
            obtain ⟨j0, j1, j2, j3, j4⟩ := HY.out V O.out
            simp only [Nat.zero_add] at i0 i1 i2 i3 i4 j0 j1 j2 j3 j4
            go_wp2_with fail
            refine (cs.out _).mono ?_
            rintro e V ⟨rfl, o⟩
            clear i0 i1 i2 i3 i4 j0 j1 j2 j3 j4
            have O := Lib.hid (O.out.trans' o)
            clear o
            obtain ⟨i0, i1, i2, i3, i4⟩ := HX.out V O.out
            obtain ⟨j0, j1, j2, j3, j4⟩ := HY.out V O.out
            simp only [Nat.zero_add] at i0 i1 i2 i3 i4 j0 j1 j2 j3 j4
            go_wp2_with fail
            go_ret
            exact ⟨by simp, (HO.out.trans' O.out).below (Nat.le_refl _) (by simp)⟩
      · have p0' := decide_eq_false p0
        clear CA E9
        rcases cb
        · -- c
          go_wp2_with fail
          refine (cf.out _).mono ?_
          rintro e V ⟨rfl, o⟩
          clear i0 i1 i2 i3 i4 j0 j1 j2 j3 j4
          have O := Lib.hid (O.out.trans' o)
          clear o
          obtain ⟨i0, i1, i2, i3, i4⟩ := HX.out V O.out
          obtain ⟨j0, j1, j2, j3, j4⟩ := HY.out V O.out
          simp only [Nat.zero_add] at i0 i1 i2 i3 i4 j0 j1 j2 j3 j4
          go_wp2_with fail
          refine (lAwake _).mono ?_
          rintro e V ⟨rfl, o⟩
          clear i0 i1 i2 i3 i4 j0 j1 j2 j3 j4
          have O := Lib.hid (O.out.trans' o)
          clear o
          obtain ⟨i0, i1, i2, i3, i4⟩ := HX.out V O.out
          obtain ⟨j0, j1, j2, j3, j4⟩ := HY.out V O.out
          simp only [Nat.zero_add] at i0 i1 i2 i3 i4 j0 j1 j2 j3 j4
          go_wp2_with fail
          refine (rf _).mono ?_
          rintro e V ⟨rfl, o⟩
          clear i0 i1 i2 i3 i4 j0 j1 j2 j3 j4
          have O := Lib.hid (O.out.trans' o)
          clear o
          obtain ⟨i0, i1, i2, i3, i4⟩ := HX.out V O.out
          obtain ⟨j0, j1, j2, j3, j4⟩ := HY.out V O.out
          simp only [Nat.zero_add] at i0 i1 i2 i3 i4 j0 j1 j2 j3 j4
          go_wp2_with fail
          refine (cg.out _).mono ?_
          rintro e V ⟨rfl, o⟩
          clear i0 i1 i2 i3 i4 j0 j1 j2 j3 j4
          have O := Lib.hid (O.out.trans' o)
          clear o
          obtain ⟨i0, i1, i2, i3, i4⟩ := HX.out V O.out
          obtain ⟨j0, j1, j2, j3, j4⟩ := HY.out V O.out
          simp only [Nat.zero_add] at i0 i1 i2 i3 i4 j0 j1 j2 j3 j4
          go_wp2_with fail
          refine (cs.out _).mono ?_
          rintro e V ⟨rfl, o⟩
          clear i0 i1 i2 i3 i4 j0 j1 j2 j3 j4
          have O := Lib.hid (O.out.trans' o)
          clear o
          obtain ⟨i0, i1, i2, i3, i4⟩ := HX.out V O.out
          obtain ⟨j0, j1, j2, j3, j4⟩ := HY.out V O.out
          simp only [Nat.zero_add] at i0 i1 i2 i3 i4 j0 j1 j2 j3 j4
          go_wp2_with fail
          go_ret
          exact ⟨by simp, (HO.out.trans' O.out).below (Nat.le_refl _) (by simp)⟩
        · -- c
          go_wp2_with fail
          refine (cf.out _).mono ?_
          rintro e V ⟨rfl, o⟩
          clear i0 i1 i2 i3 i4 j0 j1 j2 j3 j4
          have O := Lib.hid (O.out.trans' o)
          clear o
          obtain ⟨i0, i1, i2, i3, i4⟩ := HX.out V O.out
          obtain ⟨j0, j1, j2, j3, j4⟩ := HY.out V O.out
          simp only [Nat.zero_add] at i0 i1 i2 i3 i4 j0 j1 j2 j3 j4
          go_wp2_with fail
          refine (lAwake _).mono ?_
          rintro e V ⟨rfl, o⟩
          clear i0 i1 i2 i3 i4 j0 j1 j2 j3 j4
          have O := Lib.hid (O.out.trans' o)
          clear o
          obtain ⟨i0, i1, i2, i3, i4⟩ := HX.out V O.out
          obtain ⟨j0, j1, j2, j3, j4⟩ := HY.out V O.out
          simp only [Nat.zero_add] at i0 i1 i2 i3 i4 j0 j1 j2 j3 j4
          go_wp2_with fail
          refine (rf _).mono ?_
          rintro e V ⟨rfl, o⟩
          clear i0 i1 i2 i3 i4 j0 j1 j2 j3 j4
          have O := Lib.hid (O.out.trans' o)
          clear o
          obtain ⟨i0, i1, i2, i3, i4⟩ := HX.out V O.out
          obtain ⟨j0, j1, j2, j3, j4⟩ := HY.out V O.out
          simp only [Nat.zero_add] at i0 i1 i2 i3 i4 j0 j1 j2 j3 j4
          go_wp2_with fail
          refine (cg.out _).mono ?_
          rintro e V ⟨rfl, o⟩
          clear i0 i1 i2 i3 i4 j0 j1 j2 j3 j4
          have O := Lib.hid (O.out.trans' o)
          clear o
          obtain ⟨i0, i1, i2, i3, i4⟩ := HX.out V O.out
          obtain ⟨j0, j1, j2, j3, j4⟩ := HY.out V O.out
          simp only [Nat.zero_add] at i0 i1 i2 i3 i4 j0 j1 j2 j3 j4
          go_wp2_with fail
          refine (cs.out _).mono ?_
          rintro e V ⟨rfl, o⟩
          clear i0 i1 i2 i3 i4 j0 j1 j2 j3 j4
          have O := Lib.hid (O.out.trans' o)
          clear o
          obtain ⟨i0, i1, i2, i3, i4⟩ := HX.out V O.out
          obtain ⟨j0, j1, j2, j3, j4⟩ := HY.out V O.out
          simp only [Nat.zero_add] at i0 i1 i2 i3 i4 j0 j1 j2 j3 j4
          go_wp2_with fail
          go_ret
          exact ⟨by simp, (HO.out.trans' O.out).below (Nat.le_refl _) (by simp)⟩
    · have h4b : (a2.tmod 2 == 0) = false := by simp [h4]
      clear h4
      have HX : Hid (∀ V, Only [] W V → EvAt V g 0 ⟨who0, k0, ⟨lk0, la0, lb0⟩⟩) := fun V o => EvAt.only0 (w := W) (by simp only [EvAt, Nat.zero_add]; exact ⟨u0, u1, u2, u3, u4⟩) o
      have HY : Hid (∀ V, Only [] W V → EvAt V (g + 1) 0 ⟨who1, k1, ⟨lk1, la1, lb1⟩⟩) := fun V o => EvAt.only0 (w := W) (by simp only [EvAt, Nat.zero_add]; exact ⟨v0, v1, v2, v3, v4⟩) o
      have HO := HU
      clear u0 u1 u2 u3 u4 v0 v1 v2 v3 v4 fy2 fy3 fy4 HU
      generalize W = U at *
      have cf := Lib.hid (fun (V : World) => cConf ⟨who0, k0, ⟨lk0, la0, lb0⟩⟩ ⟨who1, k1, ⟨lk1, la1, lb1⟩⟩ V)
      have rf := Lib.hid (fun (h0 : 1 ≤ k0 ∧ k0 ≤ 6) (h1 : 1 ≤ k1 ∧ k1 ≤ 6) (V : World) => rConf ⟨who0, k0, ⟨lk0, la0, lb0⟩⟩ ⟨who1, k1, ⟨lk1, la1, lb1⟩⟩ h0 h1 V)
      have cg := Lib.hid (fun (V : World) => cConf ⟨who1, k1, ⟨lk1, la1, lb1⟩⟩ ⟨who0, k0, ⟨lk0, la0, lb0⟩⟩ V)
      have cs := Lib.hid (fun (V : World) => cConf ⟨who0, k0, ⟨lk0, la0, lb0⟩⟩ ⟨who0, k0, ⟨lk0, la0, lb0⟩⟩ V)
      rw [conf_turned] at cg
      rw [conf_self] at cs
      have CA : Hid (k0 < 5 → k1 < 5 → confB ⟨who0, k0, ⟨lk0, la0, lb0⟩⟩ ⟨who1, k1, ⟨lk1, la1, lb1⟩⟩ = false) := fun h0 h1 => conf_atomic h0 h1
      generalize confB ⟨who0, k0, ⟨lk0, la0, lb0⟩⟩ ⟨who1, k1, ⟨lk1, la1, lb1⟩⟩ = cb at *
      dsimp only at cf rf cg cs
      have O : Hid (Only [] U U) := Only.refl [] U
      obtain ⟨i0, i1, i2, i3, i4⟩ := HX.out U O.out
      obtain ⟨j0, j1, j2, j3, j4⟩ := HY.out U O.out
      simp only [Nat.zero_add] at i0 i1 i2 i3 i4 j0 j1 j2 j3 j4
      by_cases tk0lo : k0 < 1
      · -- no kind
        clear cf rf cg cs
        go_wp2_with fail
        refine (lAwake _).mono ?_
        rintro e V ⟨rfl, o⟩
        clear i0 i1 i2 i3 i4 j0 j1 j2 j3 j4
        have O := Lib.hid (O.out.trans' o)
        clear o
        obtain ⟨i0, i1, i2, i3, i4⟩ := HX.out V O.out
        obtain ⟨j0, j1, j2, j3, j4⟩ := HY.out V O.out
        simp only [Nat.zero_add] at i0 i1 i2 i3 i4 j0 j1 j2 j3 j4
        go_wp2_with fail
        go_ret
        exact ⟨by simp, (HO.out.trans' O.out).below (Nat.le_refl _) (by simp)⟩
      have tk0lof := decide_eq_false tk0lo
      by_cases tk0hi : 6 < k0
      · -- no kind
        clear cf rf cg cs
        go_wp2_with fail
        refine (lAwake _).mono ?_
        rintro e V ⟨rfl, o⟩
        clear i0 i1 i2 i3 i4 j0 j1 j2 j3 j4
        have O := Lib.hid (O.out.trans' o)
        clear o
        obtain ⟨i0, i1, i2, i3, i4⟩ := HX.out V O.out
        obtain ⟨j0, j1, j2, j3, j4⟩ := HY.out V O.out
        simp only [Nat.zero_add] at i0 i1 i2 i3 i4 j0 j1 j2 j3 j4
        go_wp2_with fail
        go_ret
        exact ⟨by simp, (HO.out.trans' O.out).below (Nat.le_refl _) (by simp)⟩
      have tk0hif := decide_eq_false tk0hi
      by_cases tk1lo : k1 < 1
      · -- no kind
        clear cf rf cg cs
        go_wp2_with fail
        refine (lAwake _).mono ?_
        rintro e V ⟨rfl, o⟩
        clear i0 i1 i2 i3 i4 j0 j1 j2 j3 j4
        have O := Lib.hid (O.out.trans' o)
        clear o
        obtain ⟨i0, i1, i2, i3, i4⟩ := HX.out V O.out
        obtain ⟨j0, j1, j2, j3, j4⟩ := HY.out V O.out
        simp only [Nat.zero_add] at i0 i1 i2 i3 i4 j0 j1 j2 j3 j4
        go_wp2_with fail
        go_ret
        exact ⟨by simp, (HO.out.trans' O.out).below (Nat.le_refl _) (by simp)⟩
      have tk1lof := decide_eq_false tk1lo
      by_cases tk1hi : 6 < k1
      · -- no kind
        clear cf rf cg cs
        go_wp2_with fail
        refine (lAwake _).mono ?_
        rintro e V ⟨rfl, o⟩
        clear i0 i1 i2 i3 i4 j0 j1 j2 j3 j4
        have O := Lib.hid (O.out.trans' o)
        clear o
        obtain ⟨i0, i1, i2, i3, i4⟩ := HX.out V O.out
        obtain ⟨j0, j1, j2, j3, j4⟩ := HY.out V O.out
        simp only [Nat.zero_add] at i0 i1 i2 i3 i4 j0 j1 j2 j3 j4
        go_wp2_with fail
        go_ret
        exact ⟨by simp, (HO.out.trans' O.out).below (Nat.le_refl _) (by simp)⟩
      have tk1hif := decide_eq_false tk1hi
      have cf := cf
      have rf := rf.out (by omega) (by omega)
      have E9 : Hid (k0 < 5 → k1 < 5 → cb = false) := CA.out
      by_cases p0 : k0 < 5
      · by_cases p1 : k1 < 5
        · obtain rfl := E9.out p0 p1
          have p0' := decide_eq_true p0
          have p1' := decide_eq_true p1
          clear CA E9
          go_wp2_with fail
          refine (cf.out _).mono ?_
          rintro e V ⟨rfl, o⟩
          clear i0 i1 i2 i3 i4 j0 j1 j2 j3 j4
          have O := Lib.hid (O.out.trans' o)
          clear o
          obtain ⟨i0, i1, i2, i3, i4⟩ := HX.out V O.out
          obtain ⟨j0, j1, j2, j3, j4⟩ := HY.out V O.out
          simp only [Nat.zero_add] at i0 i1 i2 i3 i4 j0 j1 j2 j3 j4
          go_wp2_with fail
          refine (lAwake _).mono ?_
          rintro e V ⟨rfl, o⟩
          clear i0 i1 i2 i3 i4 j0 j1 j2 j3 j4
          have O := Lib.hid (O.out.trans' o)
          clear o
          obtain ⟨i0, i1, i2, i3, i4⟩ := HX.out V O.out
          obtain ⟨j0, j1, j2, j3, j4⟩ := HY.out V O.out
          simp only [Nat.zero_add] at i0 i1 i2 i3 i4 j0 j1 j2 j3 j4
          go_wp2_with fail
          refine (rf _).mono ?_
          rintro e V ⟨rfl, o⟩
          clear i0 i1 i2 i3 i4 j0 j1 j2 j3 j4
          have O := Lib.hid (O.out.trans' o)
          clear o
          obtain ⟨i0, i1, i2, i3, i4⟩ := HX.out V O.out
          obtain ⟨j0, j1, j2, j3, j4⟩ := HY.out V O.out
          simp only [Nat.zero_add] at i0 i1 i2 i3 i4 j0 j1 j2 j3 j4
          go_wp2_with fail
          refine (cg.out _).mono ?_
          rintro e V ⟨rfl, o⟩
          clear i0 i1 i2 i3 i4 j0 j1 j2 j3 j4
          have O := Lib.hid (O.out.trans' o)
          clear o
          obtain ⟨i0, i1, i2, i3, i4⟩ := HX.out V O.out
          obtain ⟨j0, j1, j2, j3, j4⟩ := HY.out V O.out
          simp only [Nat.zero_add] at i0 i1 i2 i3 i4 j0 j1 j2 j3 j4
          go_wp2_with fail
          refine (cs.out _).mono ?_
          rintro e V ⟨rfl, o⟩
          clear i0 i1 i2 i3 i4 j0 j1 j2 j3 j4
          have O := Lib.hid (O.out.trans' o)
          clear o
          obtain ⟨i0, i1, i2, i3, i4⟩ := HX.out V O.out
          obtain ⟨j0, j1, j2, j3, j4⟩ := HY.out V O.out
          simp only [Nat.zero_add] at i0 i1 i2 i3 i4 j0 j1 j2 j3 j4
          go_wp2_with fail
          go_ret
          exact ⟨by simp, (HO.out.trans' O.out).below (Nat.le_refl _) (by simp)⟩
        · have p1' := decide_eq_false p1
          clear CA E9
          rcases cb
          · -- c
            go_wp2_with fail
            refine (cf.out _).mono ?_
            rintro e V ⟨rfl, o⟩
            clear i0 i1 i2 i3 i4 j0 j1 j2 j3 j4
            have O := Lib.hid (O.out.trans' o)
            clear o
            obtain ⟨i0, i1, i2, i3, i4⟩ := HX.out V O.out
            obtain ⟨j0, j1, j2, j3, j4⟩ := HY.out V O.out
            simp only [Nat.zero_add] at i0 i1 i2 i3 i4 j0 j1 j2 j3 j4
            go_wp2_with fail
            refine (lAwake _).mono ?_
            rintro e V ⟨rfl, o⟩
            clear i0 i1 i2 i3 i4 j0 j1 j2 j3 j4
            have O := Lib.hid (O.out.trans' o)
            clear o
            obtain ⟨i0, i1, i2, i3, i4⟩ := HX.out V O.out
            obtain ⟨j0, j1, j2, j3, j4⟩ := HY.out V O.out
            simp only [Nat.zero_add] at i0 i1 i2 i3 i4 j0 j1 j2 j3 j4
            go_wp2_with fail
            refine (rf _).mono ?_
            rintro e V ⟨rfl, o⟩
            clear i0 i1 i2 i3 i4 j0 j1 j2 j3 j4
            have O := Lib.hid (O.out.trans' o)
            clear o
            obtain ⟨i0, i1, i2, i3, i4⟩ := HX.out V O.out
            obtain ⟨j0, j1, j2, j3, j4⟩ := HY.out V O.out
            simp only [Nat.zero_add] at i0 i1 i2 i3 i4 j0 j1 j2 j3 j4
            go_wp2_with fail
            refine (cg.out _).mono ?_
            rintro e V ⟨rfl, o⟩
            clear i0 i1 i2 i3 i4 j0 j1 j2 j3 j4
            have O := Lib.hid (O.out.trans' o)
            clear o
            obtain ⟨i0, i1, i2, i3, i4⟩ := HX.out V O.out
            obtain ⟨j0, j1, j2, j3, j4⟩ := HY.out V O.out
            simp only [Nat.zero_add] at i0 i1 i2 i3 i4 j0 j1 j2 j3 j4
            go_wp2_with fail
            refine (cs.out _).mono ?_
            rintro e V ⟨rfl, o⟩
            clear i0 i1 i2 i3 i4 j0 j1 j2 j3 j4
            have O := Lib.hid (O.out.trans' o)
            clear o
            obtain ⟨i0, i1, i2, i3, i4⟩ := HX.out V O.out
            obtain ⟨j0, j1, j2, j3, j4⟩ := HY.out V O.out
            simp only [Nat.zero_add] at i0 i1 i2 i3 i4 j0 j1 j2 j3 j4
            go_wp2_with fail
            go_ret
            exact ⟨by simp, (HO.out.trans' O.out).below (Nat.le_refl _) (by simp)⟩
          · -- c
            go_wp2_with fail
            refine (cf.out _).mono ?_
            rintro e V ⟨rfl, o⟩
            clear i0 i1 i2 i3 i4 j0 j1 j2 j3 j4
            have O := Lib.hid (O.out.trans' o)
            clear o
            obtain ⟨i0, i1, i2, i3, i4⟩ := HX.out V O.out
            obtain ⟨j0, j1, j2, j3, j4⟩ := HY.out V O.out
            simp only [Nat.zero_add] at i0 i1 i2 i3 i4 j0 j1 j2 j3 j4
            go_wp2_with fail
            refine (lAwake _).mono ?_
            rintro e V ⟨rfl, o⟩
            clear i0 i1 i2 i3 i4 j0 j1 j2 j3 j4
            have O := Lib.hid (O.out.trans' o)
            clear o
            obtain ⟨i0, i1, i2, i3, i4⟩ := HX.out V O.out
            obtain ⟨j0, j1, j2, j3, j4⟩ := HY.out V O.out
            simp only [Nat.zero_add] at i0 i1 i2 i3 i4 j0 j1 j2 j3 j4
            go_wp2_with fail
            refine (rf _).mono ?_
            rintro e V ⟨rfl, o⟩
            clear i0 i1 i2 i3 i4 j0 j1 j2 j3 j4
            have O := Lib.hid (O.out.trans' o)
            clear o
            obtain ⟨i0, i1, i2, i3, i4⟩ := HX.out V O.out
            obtain ⟨j0, j1, j2, j3, j4⟩ := HY.out V O.out
            simp only [Nat.zero_add] at i0 i1 i2 i3 i4 j0 j1 j2 j3 j4
            go_wp2_with fail
            refine (cg.out _).mono ?_
            rintro e V ⟨rfl, o⟩
            clear i0 i1 i2 i3 i4 j0 j1 j2 j3 j4
            have O := Lib.hid (O.out.trans' o)
            clear o
            obtain ⟨i0, i1, i2, i3, i4⟩ := HX.out V O.out
            obtain ⟨j0, j1, j2, j3, j4⟩ := HY.out V O.out
            simp only [Nat.zero_add] at i0 i1 i2 i3 i4 j0 j1 j2 j3 j4
            go_wp2_with fail
            refine (cs.out _).mono ?_
            rintro e V ⟨rfl, o⟩
            clear i0 i1 i2 i3 i4 j0 j1 j2 j3 j4
            have O := Lib.hid (O.out.trans' o)
            clear o
            obtain ⟨i0, i1, i2, i3, i4⟩ := HX.out V O.out
            obtain ⟨j0, j1, j2, j3, j4⟩ := HY.out V O.out
            simp only [Nat.zero_add] at i0 i1 i2 i3 i4 j0 j1 j2 j3 j4
            go_wp2_with fail
            go_ret
            exact ⟨by simp, (HO.out.trans' O.out).below (Nat.le_refl _) (by simp)⟩
      · have p0' := decide_eq_false p0
        clear CA E9
        rcases cb
        · -- c
          go_wp2_with fail
          refine (cf.out _).mono ?_
          rintro e V ⟨rfl, o⟩
          clear i0 i1 i2 i3 i4 j0 j1 j2 j3 j4
          have O := Lib.hid (O.out.trans' o)
          clear o
          obtain ⟨i0, i1, i2, i3, i4⟩ := HX.out V O.out
          obtain ⟨j0, j1, j2, j3, j4⟩ := HY.out V O.out
          simp only [Nat.zero_add] at i0 i1 i2 i3 i4 j0 j1 j2 j3 j4
          go_wp2_with fail
          refine (lAwake _).mono ?_
          rintro e V ⟨rfl, o⟩
          clear i0 i1 i2 i3 i4 j0 j1 j2 j3 j4
          have O := Lib.hid (O.out.trans' o)
          clear o
          obtain ⟨i0, i1, i2, i3, i4⟩ := HX.out V O.out
          obtain ⟨j0, j1, j2, j3, j4⟩ := HY.out V O.out
          simp only [Nat.zero_add] at i0 i1 i2 i3 i4 j0 j1 j2 j3 j4
          go_wp2_with fail
          refine (rf _).mono ?_
          rintro e V ⟨rfl, o⟩
          clear i0 i1 i2 i3 i4 j0 j1 j2 j3 j4
          have O := Lib.hid (O.out.trans' o)
          clear o
          obtain ⟨i0, i1, i2, i3, i4⟩ := HX.out V O.out
          obtain ⟨j0, j1, j2, j3, j4⟩ := HY.out V O.out
          simp only [Nat.zero_add] at i0 i1 i2 i3 i4 j0 j1 j2 j3 j4
          go_wp2_with fail
          refine (cg.out _).mono ?_
          rintro e V ⟨rfl, o⟩
          clear i0 i1 i2 i3 i4 j0 j1 j2 j3 j4
          have O := Lib.hid (O.out.trans' o)
          clear o
          obtain ⟨i0, i1, i2, i3, i4⟩ := HX.out V O.out
          obtain ⟨j0, j1, j2, j3, j4⟩ := HY.out V O.out
          simp only [Nat.zero_add] at i0 i1 i2 i3 i4 j0 j1 j2 j3 j4
          go_wp2_with fail
          refine (cs.out _).mono ?_
          rintro e V ⟨rfl, o⟩
          clear i0 i1 i2 i3 i4 j0 j1 j2 j3 j4
          have O := Lib.hid (O.out.trans' o)
          clear o
          obtain ⟨i0, i1, i2, i3, i4⟩ := HX.out V O.out
          obtain ⟨j0, j1, j2, j3, j4⟩ := HY.out V O.out
          simp only [Nat.zero_add] at i0 i1 i2 i3 i4 j0 j1 j2 j3 j4
          go_wp2_with fail
          go_ret
          exact ⟨by simp, (HO.out.trans' O.out).below (Nat.le_refl _) (by simp)⟩
        · -- c
          go_wp2_with fail
          refine (cf.out _).mono ?_
          rintro e V ⟨rfl, o⟩
          clear i0 i1 i2 i3 i4 j0 j1 j2 j3 j4
          have O := Lib.hid (O.out.trans' o)
          clear o
          obtain ⟨i0, i1, i2, i3, i4⟩ := HX.out V O.out
          obtain ⟨j0, j1, j2, j3, j4⟩ := HY.out V O.out
          simp only [Nat.zero_add] at i0 i1 i2 i3 i4 j0 j1 j2 j3 j4
          go_wp2_with fail
          refine (lAwake _).mono ?_
          rintro e V ⟨rfl, o⟩
          clear i0 i1 i2 i3 i4 j0 j1 j2 j3 j4
          have O := Lib.hid (O.out.trans' o)
          clear o
          obtain ⟨i0, i1, i2, i3, i4⟩ := HX.out V O.out
          obtain ⟨j0, j1, j2, j3, j4⟩ := HY.out V O.out
          simp only [Nat.zero_add] at i0 i1 i2 i3 i4 j0 j1 j2 j3 j4
          go_wp2_with fail
          refine (rf _).mono ?_
          rintro e V ⟨rfl, o⟩
          clear i0 i1 i2 i3 i4 j0 j1 j2 j3 j4
          have O := Lib.hid (O.out.trans' o)
          clear o
          obtain ⟨i0, i1, i2, i3, i4⟩ := HX.out V O.out
          obtain ⟨j0, j1, j2, j3, j4⟩ := HY.out V O.out
          simp only [Nat.zero_add] at i0 i1 i2 i3 i4 j0 j1 j2 j3 j4
          go_wp2_with fail
          refine (cg.out _).mono ?_
          rintro e V ⟨rfl, o⟩
          clear i0 i1 i2 i3 i4 j0 j1 j2 j3 j4
          have O := Lib.hid (O.out.trans' o)
          clear o
          obtain ⟨i0, i1, i2, i3, i4⟩ := HX.out V O.out
          obtain ⟨j0, j1, j2, j3, j4⟩ := HY.out V O.out
          simp only [Nat.zero_add] at i0 i1 i2 i3 i4 j0 j1 j2 j3 j4
          go_wp2_with fail
          refine (cs.out _).mono ?_
          rintro e V ⟨rfl, o⟩
          clear i0 i1 i2 i3 i4 j0 j1 j2 j3 j4
          have O := Lib.hid (O.out.trans' o)
          clear o
          obtain ⟨i0, i1, i2, i3, i4⟩ := HX.out V O.out
          obtain ⟨j0, j1, j2, j3, j4⟩ := HY.out V O.out
          simp only [Nat.zero_add] at i0 i1 i2 i3 i4 j0 j1 j2 j3 j4
          go_wp2_with fail
          go_ret
          exact ⟨by simp, (HO.out.trans' O.out).below (Nat.le_refl _) (by simp)⟩

/-! ### The step from the walk to the statement -/
set_option maxRecDepth 100000 in
theorem lifted (os : Os) (started : os.Started) (H : Type) (enc : TypeId × Value → H) :
    ReturnsInHanded {} Try.checked os 9 .any (Rows.raceConflictSpec.pre6 enc Try.prog Try.f9 Rows.raceConflictRow.domain false) (Rows.raceConflictSpec.post enc Try.prog Try.f9 false true false false) := by
  refine returnsInHanded_of_change (C := Try.checked) own started (by kernel_rfl) Try.func9
    (ChangeSpec.witness6 (enc := enc) (C := Try.checked) false ⟨#[], #[.agg #[.int .i64 0, .int .i64 0, .int .i64 0, .int .i64 0, .int .i64 0], .agg #[.int .i64 0, .int .i64 0, .int .i64 0, .int .i64 0, .int .i64 0], .int .i64 0], []⟩ 8 (by kernel_rfl) (by kernel_rfl) (by kernel_rfl) (by kernel_rfl)) ?_
  intro W base args ds gs before hval0 hW hcnd _
  have hval : ∀ (j : Nat) t v, Try.f9.params[j]? = some t → args[j]? = some v → Value.okWide Try.prog W .any base t v := hval0
  have hW' := hW
  obtain ⟨p, q, hA0, hV, rfl, hfz, hnd⟩ := hW
  have hA : DataW.TrodAll enc Try.prog W 0 (fun _ => true) true Try.f9.params.toList args.toList ds p := hA0
  rw [Try.params9] at hA hval
  obtain ⟨v0, vs0, d0, ds0, p0, q0, hargs, rfl, rfl, h0, r0⟩ := trodAll_cons hA
  obtain ⟨v1, vs1, d1, ds1, p1, q1, rfl, rfl, rfl, h1, r1⟩ := trodAll_cons r0
  obtain ⟨v2, vs2, d2, ds2, p2, q2, rfl, rfl, rfl, h2, r2⟩ := trodAll_cons r1
  obtain ⟨rfl, rfl, rfl⟩ := trodAll_nil r2
  obtain rfl : args = #[v0, v1, v2] := by cases args; simp_all
  obtain ⟨rfl, rfl⟩ := trodVars_none hV
  obtain ⟨who0, kind0, lk0, la0, lb0, rfl, rfl, rfl, wwho0, wkind0, wlk0, wla0, wlb0⟩ := open_ev (hval 0 36 v0 rfl rfl) h0
  obtain ⟨who1, kind1, lk1, la1, lb1, rfl, rfl, rfl, wwho1, wkind1, wlk1, wla1, wlb1⟩ := open_ev (hval 1 36 v1 rfl rfl) h1
  obtain ⟨a2, rfl, rfl, rfl, w2⟩ := open_int Try.underlying3 (hval 2 3 v2 rfl rfl) h2
  clear hA0 hval0
  refine (walk who0 kind0 lk0 la0 lb0 who1 kind1 lk1 la1 lb1 a2 W wwho0 wkind0 wlk0 wla0 wlb0 wwho1 wkind1 wlk1 wla1 wlb1 w2).mono fun e W' ⟨he, bel⟩ => ?_
  subst he
  exact ⟨_, rfl, _, _, _, [], _, [], hW', trodAll_mk1 (shut_bool Try.underlying4 _), (trodAll_cons_mk (reads_ev wwho0 wkind0 wlk0 wla0 wlb0 _ _ _) (trodAll_cons_mk (reads_ev wwho1 wkind1 wlk1 wla1 wlb1 _ _ _) (trodAll_cons_mk (shut_int Try.underlying3 w2) trodAll_mk0))), rfl, bel.frame _, fun h => by cases h⟩

theorem over : Rows.raceConflictRow.holds Try.pinned (OpenSpec.ofChange Rows.raceConflictSpec) :=
  OpenClaim.holds_of_wide 9 Try.f9 rfl rfl rfl rfl rfl rfl rfl ⟨rfl, rfl, rfl, rfl, rfl⟩ rfl rfl rfl rfl rfl (by kernel_rfl) Try.func9 (by kernel_rfl)
    (of_decide_eq_true (by kernel_rfl)) (by unfold Func.isWrapper; first | (rw [if_pos (by decide +kernel)]; kernel_rfl) | (rw [if_neg (by decide +kernel)]; exact ⟨rfl, rfl⟩))
    (fun os started H enc _ => lifted os started H enc)

/-- The statement. -/
theorem proved : Rows.RaceConflictSaid := over
#print axioms proved
end Go.Proofs.Ytmgmfihjojhilaa.raceConflict
