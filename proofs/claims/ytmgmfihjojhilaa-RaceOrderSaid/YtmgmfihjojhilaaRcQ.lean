/-
  The statements' words: near, some, long.
-/
import Derived.Test.YtmgmfihjojhilaaRcN
import Derived.Test.YtmgmfihjojhilaaClkB
import Derived.Deep.RegionHeld3
import Derived.Test.YtmgmfihjojhilaaRcF
import Derived.Deep.LoopGhost
namespace Go.Proofs.Ytmgmfihjojhilaa
set_option maxRecDepth 100000
open Go.RowKit
set_option linter.unusedVariables false
set_option linter.unusedSimpArgs false
set_option maxRecDepth 100000

theorem results_cell1 {fn : Func} {p : Tmp} {ty : TypeId} (h : fn.results = #[.cell p ty]) (tmps : Array Value) (P : Program) (w : World) :
    (results fn tmps).run P w = ((asAddr (tmps.getD p undef)).run P w).andThen fun a w₁ => ((loadVar ty a).run P w₁).andThen fun v w₂ => .ok v w₂ := by
  simp only [results, h]
  simp [Sem.run_bind, Result.andThen]
  split
  · split <;> assumption
  · rfl
def Ev.ok (x : Ev) : Prop := i64ok x.who ∧ i64ok x.kind ∧ x.lc.ok
/-- A slice of events that came in. -/
def InEvs (w : World) (A : Option Addr) (len : Nat) (ds : Nat → Ev) : Prop :=
  ∀ k, k < len → (ds k).ok ∧ ∃ (x : Addr) (b o : Nat) (s : Option Nat), A = some x ∧ x.add (k * 5) = ⟨b, o, s⟩ ∧ b < w.heap.size ∧ w.cell? ⟨b, o, s⟩ = some (.int .i64 (ds k).who) ∧ w.cell? ⟨b, o + 1, none⟩ = some (.int .i64 (ds k).kind) ∧ w.cell? ⟨b, o + 2, none⟩ = some (.int .i64 (ds k).lc.k) ∧ w.cell? ⟨b, o + 3, none⟩ = some (.int .i64 (ds k).lc.a) ∧ w.cell? ⟨b, o + 4, none⟩ = some (.int .i64 (ds k).lc.b)
theorem InEvs.only0 {w w' : World} {A : Option Addr} {len : Nat} {ds : Nat → Ev} (h : InEvs w A len ds) (ho : Only [] w w') : InEvs w' A len ds := fun k hk => by
  obtain ⟨h1, x, b, o, s, e1, e2, hb, c0, c1, c2, c3, c4⟩ := h k hk
  have kp : ∀ {o : Nat} {s : Option Nat} {v : Value}, w.cell? ⟨b, o, s⟩ = some v → w'.cell? ⟨b, o, s⟩ = some v := fun h => (ho.cell hb (by simp)).trans h
  exact ⟨h1, x, b, o, s, e1, e2, Nat.lt_of_lt_of_le hb ho.size, kp c0, kp c1, kp c2, kp c3, kp c4⟩
theorem modI_ok (v : Int) {n : Int} (h : 0 < n) (hn : n ≤ 1000000) : i64ok (modI v n) := i64_of (by have := modI_lt v h; omega)
set_option maxHeartbeats 2000000 in
theorem lNear (x : Ev) (hx : x.ok) (w : World) : Calls Try.prog 20 #[.agg #[.int .i64 x.who, .int .i64 x.kind, .int .i64 x.lc.k, .int .i64 x.lc.a, .int .i64 x.lc.b]] w fun e w' => ∃ y : Ev, e = .returned (.agg #[.int .i64 y.who, .int .i64 y.kind, .int .i64 y.lc.k, .int .i64 y.lc.a, .int .i64 y.lc.b]) ∧ (y.ok ∧ (y = x ∨ (1 ≤ y.kind ∧ y.kind ≤ 6))) ∧ Only [] w w' := by
  have md := Lib.hid (fun (v n : Int) (h : 0 < n) (hn : n ≤ 1000000) (w : World) => cMod v n h hn w)
  obtain ⟨who, kind, lk, la, lb⟩ := x
  dsimp only
  have HX := Lib.hid hx
  clear hx
  obtain ⟨bx, by0⟩ := EvAt.boxes w ⟨who, kind, ⟨lk, la, lb⟩⟩ ⟨0, 0, ⟨0, 0, 0⟩⟩
  have OB : Only [] w ((w.alloc (.cells #[.int .i64 who, .int .i64 kind, .int .i64 lk, .int .i64 la, .int .i64 lb] 36)).alloc (.cells #[.int .i64 0, .int .i64 0, .int .i64 0, .int .i64 0, .int .i64 0] 36)) := ((Only.refl [] w).alloc _).alloc _
  have hfr : ∀ k, ((w.alloc (.cells #[.int .i64 who, .int .i64 kind, .int .i64 lk, .int .i64 la, .int .i64 lb] 36)).alloc (.cells #[.int .i64 0, .int .i64 0, .int .i64 0, .int .i64 0, .int .i64 0] 36)).frozen? ⟨w.heap.size + 1, k, none⟩ = false := fun k => by
    have h9 := heap_alloc_new (w.alloc (.cells #[.int .i64 who, .int .i64 kind, .int .i64 lk, .int .i64 la, .int .i64 lb] 36)) (.cells #[.int .i64 0, .int .i64 0, .int .i64 0, .int .i64 0, .int .i64 0] 36)
    rw [World.size_alloc] at h9
    generalize (w.alloc (.cells #[.int .i64 who, .int .i64 kind, .int .i64 lk, .int .i64 la, .int .i64 lb] 36)).alloc (.cells #[.int .i64 0, .int .i64 0, .int .i64 0, .int .i64 0, .int .i64 0] 36) = X at *
    simp [World.frozen?, h9]
  dsimp only at bx by0
  go_enter Try.func20, Try.ntmps20
  go_upto_region 1 with fail
  generalize (w.alloc (.cells #[.int .i64 who, .int .i64 kind, .int .i64 lk, .int .i64 la, .int .i64 lb] 36)).alloc (.cells #[.int .i64 0, .int .i64 0, .int .i64 0, .int .i64 0, .int .i64 0] 36) = W at *
  have HO := Lib.hid OB
  have OX : Hid (∀ v0 v1 v2 v3 v4, Only [] w (((((W.setCell ⟨w.heap.size + 1, 0, none⟩ v0).setCell ⟨w.heap.size + 1, 1, none⟩ v1).setCell ⟨w.heap.size + 1, 2, none⟩ v2).setCell ⟨w.heap.size + 1, 3, none⟩ v3).setCell ⟨w.heap.size + 1, 4, none⟩ v4)) := fun v0 v1 v2 v3 v4 =>
    ((((OB.setCell (.inr (by show _ ≤ w.heap.size + 1; omega)) _).setCell (.inr (by show _ ≤ w.heap.size + 1; omega)) _).setCell (.inr (by show _ ≤ w.heap.size + 1; omega)) _).setCell (.inr (by show _ ≤ w.heap.size + 1; omega)) _).setCell (.inr (by show _ ≤ w.heap.size + 1; omega)) _
  obtain ⟨x0, x1, x2, x3, x4⟩ := bx
  obtain ⟨y0, y1, y2, y3, y4⟩ := by0
  simp only [Nat.zero_add] at x0 x1 x2 x3 x4 y0 y1 y2 y3 y4
  have f0 := hfr 0
  have f1 := hfr 1
  have f2 := hfr 2
  have f3 := hfr 3
  have f4 := hfr 4
  clear OB hfr
  by_cases h1 : modI who 211 = 210
  · have h2 : (modI who 211 == 210) = true := by rw [h1]; rfl
    clear h1
    go_wp2_with (go_at_call 21; refine (md.out _ _ (by decide) (by decide) _).mono ?_; rintro e w1 ⟨rfl, rfl⟩)
    refine bodyPost_ret (v := .agg #[.int .i64 who, .int .i64 kind, .int .i64 lk, .int .i64 la, .int .i64 lb]) ?_ rfl ?_
    · rw [results_cell1 rfl]; go_simp
    · exact ⟨⟨who, kind, lk, la, lb⟩, rfl, ⟨HX.out, .inl rfl⟩, OX.out _ _ _ _ _⟩
  · have h2 : (modI who 211 == 210) = false := by simp [h1]
    clear h1
    have h9 := modI_lt kind (n := 6) (by decide)
    have YS : Hid ((⟨modI who 4, 1 + modI kind 6, modI lk 2, modI la 3, 0⟩ : Ev).ok ∧ 1 ≤ 1 + modI kind 6 ∧ 1 + modI kind 6 ≤ 6) :=
      ⟨⟨modI_ok _ (by decide) (by decide), i64_of (a := 1 + modI kind 6) (by omega), modI_ok _ (by decide) (by decide), modI_ok _ (by decide) (by decide), i64_of (a := 0) (by omega)⟩, by omega, by omega⟩
    have hwr : IntKind.i64.wrap (1 + modI kind 6) = 1 + modI kind 6 := by rw [IntKind.wrap_i64]; omega
    have m1 := Lib.hid (fun w => md.out who 4 (by decide) (by decide) w)
    have m2 := Lib.hid (fun w => md.out kind 6 (by decide) (by decide) w)
    have m3 := Lib.hid (fun w => md.out lk 2 (by decide) (by decide) w)
    have m4 := Lib.hid (fun w => md.out la 3 (by decide) (by decide) w)
    go_wp2_with (go_at_call 21; refine (md.out _ _ (by decide) (by decide) _).mono ?_; rintro e w1 ⟨rfl, hv⟩; rw [hv]; clear hv)
    clear h9 md
    have cel : Hid (W.drew.cell? ⟨w.heap.size, 0, none⟩ = some (.int .i64 who) ∧ W.drew.cell? ⟨w.heap.size, 1, none⟩ = some (.int .i64 kind) ∧ W.drew.cell? ⟨w.heap.size, 2, none⟩ = some (.int .i64 lk) ∧ W.drew.cell? ⟨w.heap.size, 3, none⟩ = some (.int .i64 la)) := ⟨x0, x1, x2, x3⟩
    generalize modI who 4 = a1 at *
    generalize modI kind 6 = a2 at *
    generalize modI lk 2 = a3 at *
    generalize modI la 3 = a4 at *
    refine wp_region_held_drew (S := (fun u' => u'.cell? ⟨w.heap.size, 0, none⟩ = some (.int .i64 who) ∧ u'.cell? ⟨w.heap.size, 1, none⟩ = some (.int .i64 kind) ∧ u'.cell? ⟨w.heap.size, 2, none⟩ = some (.int .i64 lk) ∧ u'.cell? ⟨w.heap.size, 3, none⟩ = some (.int .i64 la))) (by kernel_rfl) cel.out (fun hHeld => ?_)
    refine takeH (i := 0) (v := ?_) rfl (by kernel_rfl) (by kernel_rfl) (by kernel_rfl) (fun _ _ _ h => h) (Or.inl ⟨by rfl, ?_⟩) (by assumption) ?_
    rotate_left 1
    · (intro w hSw; (try dsimp only at hSw); go_simp; try (with_reducible rfl))
    try simp only [Act.put, List.setIfInBounds_toArray, List.set_cons_zero, List.set_cons_succ]
    refine takeH (i := 1) (v := ?_) rfl (by kernel_rfl) (by kernel_rfl) (by kernel_rfl) (fun _ _ _ h => h) (Or.inl ⟨by rfl, ?_⟩) (by assumption) ?_
    rotate_left 1
    · (intro w hSw; (try dsimp only at hSw); go_simp; try (with_reducible rfl))
    try simp only [Act.put, List.setIfInBounds_toArray, List.set_cons_zero, List.set_cons_succ]
    refine takeH (i := 3) (v := ?_) rfl (by kernel_rfl) (by kernel_rfl) (by kernel_rfl) (fun _ _ _ h => h) (Or.inl ⟨by rfl, ?_⟩) (by assumption) ?_
    rotate_left 1
    · (intro w hSw; (try dsimp only at hSw); go_simp; try (with_reducible rfl))
    try simp only [Act.put, List.setIfInBounds_toArray, List.set_cons_zero, List.set_cons_succ]
    refine takeH (i := 4) (v := ?_) rfl (by kernel_rfl) (by kernel_rfl) (by kernel_rfl) (fun _ _ _ h => h) (Or.inl ⟨by rfl, ?_⟩) (by assumption) ?_
    rotate_left 1
    · (intro w hSw; (try dsimp only at hSw); go_simp; try (with_reducible rfl))
    try simp only [Act.put, List.setIfInBounds_toArray, List.set_cons_zero, List.set_cons_succ]
    refine takeH (i := 7) (v := ?_) rfl (by kernel_rfl) (by kernel_rfl) (by kernel_rfl) (fun _ _ _ h => h) (Or.inl ⟨by rfl, ?_⟩) (by assumption) ?_
    rotate_left 1
    · (intro w hSw; (try dsimp only at hSw); go_simp; try (with_reducible rfl))
    try simp only [Act.put, List.setIfInBounds_toArray, List.set_cons_zero, List.set_cons_succ]
    refine takeH (i := 8) (v := ?_) rfl (by kernel_rfl) (by kernel_rfl) (by kernel_rfl) (fun _ _ _ h => h) (Or.inl ⟨by rfl, ?_⟩) (by assumption) ?_
    rotate_left 1
    · (intro w hSw; (try dsimp only at hSw); go_simp; try (with_reducible rfl))
    try simp only [Act.put, List.setIfInBounds_toArray, List.set_cons_zero, List.set_cons_succ]
    refine takeH (i := 9) (v := ?_) rfl (by kernel_rfl) (by kernel_rfl) (by kernel_rfl) (fun _ _ _ h => h) (Or.inl ⟨by rfl, ?_⟩) (by assumption) ?_
    rotate_left 1
    · (intro w hSw; (try dsimp only at hSw); go_simp; try (with_reducible rfl))
    try simp only [Act.put, List.setIfInBounds_toArray, List.set_cons_zero, List.set_cons_succ]
    refine takeH (i := 11) (v := ?_) rfl (by kernel_rfl) (by kernel_rfl) (by kernel_rfl) (fun _ _ _ h => h) (Or.inl ⟨by rfl, ?_⟩) (by assumption) ?_
    rotate_left 1
    · (intro w hSw; (try dsimp only at hSw); go_simp; try (with_reducible rfl))
    try simp only [Act.put, List.setIfInBounds_toArray, List.set_cons_zero, List.set_cons_succ]
    refine takeH (i := 12) (v := ?_) rfl (by kernel_rfl) (by kernel_rfl) (by kernel_rfl) (fun _ _ _ h => h) (Or.inl ⟨by rfl, ?_⟩) (by assumption) ?_
    rotate_left 1
    · (intro w hSw; (try dsimp only at hSw); go_simp; try (with_reducible rfl))
    try simp only [Act.put, List.setIfInBounds_toArray, List.set_cons_zero, List.set_cons_succ]
    refine takeH (i := 13) (v := ?_) rfl (by kernel_rfl) (by kernel_rfl) (by kernel_rfl) (fun _ _ _ h => h) (Or.inl ⟨by rfl, ?_⟩) (by assumption) ?_
    rotate_left 1
    · (intro w hSw; (try dsimp only at hSw); go_simp; try (with_reducible rfl))
    try simp only [Act.put, List.setIfInBounds_toArray, List.set_cons_zero, List.set_cons_succ]
    refine wpAnyH_ready (rs := [2]) (by kernel_rfl) (by simp) ?_
    refine consH rfl (fun K hK => ?_) AllReadyH.nil
    go_simp
    refine (m1.out _).mono ?_
    rintro e v ⟨rfl, hv⟩
    rw [hv]
    clear hv
    refine hK.out _ _ cel.out (fun hHeld2 => ?_)
    clear hK K hHeld
    have hHeld := hHeld2
    clear hHeld2
    try simp only [Act.put, List.setIfInBounds_toArray, List.set_cons_zero, List.set_cons_succ]
    refine wpAnyH_ready (rs := [5]) (by kernel_rfl) (by simp) ?_
    refine consH rfl (fun K hK => ?_) AllReadyH.nil
    go_simp
    refine (m2.out _).mono ?_
    rintro e v ⟨rfl, hv⟩
    rw [hv]
    clear hv
    refine hK.out _ _ cel.out (fun hHeld2 => ?_)
    clear hK K hHeld
    have hHeld := hHeld2
    clear hHeld2
    try simp only [Act.put, List.setIfInBounds_toArray, List.set_cons_zero, List.set_cons_succ]
    refine takeH (i := 6) (v := ?_) rfl (by kernel_rfl) (by kernel_rfl) (by kernel_rfl) (fun _ _ _ h => h) (Or.inl ⟨by rfl, ?_⟩) (by assumption) ?_
    rotate_left 1
    · (intro w hSw; (try dsimp only at hSw); go_simp; try (with_reducible rfl))
    try simp only [Act.put, List.setIfInBounds_toArray, List.set_cons_zero, List.set_cons_succ]
    refine wpAnyH_ready (rs := [10]) (by kernel_rfl) (by simp) ?_
    refine consH rfl (fun K hK => ?_) AllReadyH.nil
    go_simp
    refine (m3.out _).mono ?_
    rintro e v ⟨rfl, hv⟩
    rw [hv]
    clear hv
    refine hK.out _ _ cel.out (fun hHeld2 => ?_)
    clear hK K hHeld
    have hHeld := hHeld2
    clear hHeld2
    try simp only [Act.put, List.setIfInBounds_toArray, List.set_cons_zero, List.set_cons_succ]
    refine wpAnyH_ready (rs := [14]) (by kernel_rfl) (by simp) ?_
    refine consH rfl (fun K hK => ?_) AllReadyH.nil
    go_simp
    refine (m4.out _).mono ?_
    rintro e v ⟨rfl, hv⟩
    rw [hv]
    clear hv
    refine hK.out _ _ cel.out (fun hHeld2 => ?_)
    clear hK K hHeld
    have hHeld := hHeld2
    clear hHeld2
    try simp only [Act.put, List.setIfInBounds_toArray, List.set_cons_zero, List.set_cons_succ]
    refine takeH (i := 15) (v := ?_) rfl (by kernel_rfl) (by kernel_rfl) (by kernel_rfl) (fun _ _ _ h => h) (Or.inl ⟨by rfl, ?_⟩) (by assumption) ?_
    rotate_left 1
    · (intro w hSw; (try dsimp only at hSw); go_simp; try (with_reducible rfl))
    try simp only [Act.put, List.setIfInBounds_toArray, List.set_cons_zero, List.set_cons_succ]
    refine takeH (i := 16) (v := ?_) rfl (by kernel_rfl) (by kernel_rfl) (by kernel_rfl) (fun _ _ _ h => h) (Or.inl ⟨by rfl, ?_⟩) (by assumption) ?_
    rotate_left 1
    · (intro w hSw; (try dsimp only at hSw); go_simp; try (with_reducible rfl))
    try simp only [Act.put, List.setIfInBounds_toArray, List.set_cons_zero, List.set_cons_succ]
    refine wpAnyH_ready (rs := [17]) (by kernel_rfl) (by simp) ?_
    refine consH rfl (fun K hK => ?_) AllReadyH.nil
    go_simp
    
    refine hK.out _ _ (by refine ⟨?_, ?_, ?_, ?_⟩ <;> go_simp) (fun hHeld2 => ?_)
    clear hK K hHeld
    have hHeld := hHeld2
    clear hHeld2
    try simp only [Act.put, List.setIfInBounds_toArray, List.set_cons_zero, List.set_cons_succ]
    refine wpAnyH_done (by kernel_rfl) ?_ _
    go_wp2_with fail
    refine bodyPost_ret (v := .agg #[.int .i64 a1, .int .i64 (1 + a2), .int .i64 a3, .int .i64 a4, .int .i64 0]) ?_ rfl ?_
    · rw [results_cell1 rfl]; go_simp
    · exact ⟨⟨a1, 1 + a2, a3, a4, 0⟩, rfl, ⟨YS.out.1, .inr YS.out.2⟩, (OX.out _ _ _ _ _).drew⟩
/-- A row of events that may be ints, new since w. -/
structure EFr (w wr : World) (A : Option Addr) (p cap : Nat) (xs : List Ev) : Prop where
  row : eE.Row wr (.slice A p cap) xs
  len : xs.length = p
  new : ∀ k, (Value.slice A p cap).ownBlock = some k → w.heap.size ≤ k
  only : Only [] w wr
  ok : ∀ (k : Nat) (x : Ev), xs[k]? = some x → x.ok
section
variable {w wr w' : World} {A : Option Addr} {p cap : Nat} {xs : List Ev}
theorem EFr.nil (h : Only [] w wr) : EFr w wr none 0 0 [] := ⟨El.Row.nil _, rfl, fun k hk => by simp [Value.ownBlock] at hk, h, fun k x h => by simp at h⟩
theorem EFr.only0 (h : EFr w wr A p cap xs) (ho : Only [] wr w') : EFr w w' A p cap xs := ⟨h.row.only0 ho, h.len, h.new, h.only.trans' ho, h.ok⟩
theorem EFr.ev (h : EFr w wr A p cap xs) : Evs wr A xs := Evs.of_row h.row
theorem EFr.lc (h : EFr w wr A p cap xs) : ∀ i, i < p → (evs xs i).lc.ok := fun i hi => (h.ok i _ (evs_get (by rw [h.len]; exact hi))).2.2
theorem EFr.snoc (h : EFr w wr A p cap xs) {x : Ev} (hx : x.ok) {o : Obj} {A2 : Option Addr} {cap2 : Nat} {w2 : World} (h2 : eE.Row w2 (.slice A2 (p + 1) cap2) (xs ++ [x])) (hg : (wr.alloc o).grownBy w2 (Value.slice A p cap).ownBlock)
    (hl : (Value.slice A2 (p + 1) cap2).ownBlock = (Value.slice A p cap).ownBlock ∨ (Value.slice A2 (p + 1) cap2).ownBlock = some (wr.alloc o).heap.size) : EFr w w2 A2 (p + 1) cap2 (xs ++ [x]) := by
  refine ⟨h2, by simp [h.len], fun k hk => ?_, (h.only.alloc o).grown hg (fun k hk => .inr (h.new k hk)), fun k y hy => ?_⟩
  · rcases hl with hl | hl
    · exact h.new k (hl ▸ hk)
    · rw [hl] at hk
      have h1 := h.only.size
      simp at hk
      omega
  · by_cases hk : k < xs.length
    · rw [List.getElem?_append_left hk] at hy; exact h.ok k y hy
    · rw [List.getElem?_append_right (by omega)] at hy
      have := (List.getElem?_eq_some_iff.1 hy).1
      rw [show k - xs.length = 0 by simp at this; omega] at hy
      simp at hy
      subst hy
      exact hx
end
section
variable {w wr : World} {ops : Array Oper} {o : Oper} {a : Act} {K : Act → World → Prop} {Q : Exit → Act → World → Prop}
theorem wpList_appE {rest : List Oper} (hgd : o.guard = none) (s x : Operand) (ho : o.op = .call { callee := .builtin .append, args := #[s, x], argTypes := #[22, 22] })
    (A : Option Addr) (p cap : Nat) (xs : List Ev) (v : Ev) (hs : a.eval s = .slice A p cap) (hx : a.eval x = .slice (some ⟨wr.heap.size, 0, none⟩) 1 1) (h : EFr w wr A p cap xs) (hv : v.ok) (hb : p ≤ 1000000)
    (hK : ∀ A2 cap2 w2, EFr w w2 A2 (p + 1) cap2 (xs ++ [v]) → wpList Try.prog ops Q rest (a.put o.dst (.slice A2 (p + 1) cap2)) w2) : wpList Try.prog ops Q (o :: rest) a (wr.alloc (.cells #[.int .i64 v.who, .int .i64 v.kind, .int .i64 v.lc.k, .int .i64 v.lc.a, .int .i64 v.lc.b] 36)) := by
  refine wpList_plain hgd fun _ hK' => El.wp_append (E := eE) Try.underlying22 s x ho (.slice A p cap) xs hs (h.row.only0 ((Only.refl [] wr).alloc _)) _ 1 1 [v] hx rfl (El.Src.box (E := eE) (x := v) (heap_alloc_new wr _)) (p + 1) (by rw [h.len]) (by omega) ?_
  intro A2 cap2 w2 r2 g2 l2
  exact hK' _ _ (hK A2 cap2 w2 (h.snoc hv r2 g2 l2))
end
set_option maxHeartbeats 2000000 in
theorem lSome (w : World) (A : Option Addr) (n c : Nat) (ds : Nat → Ev) (most : Nat) (hm : most ≤ 100) (h : InEvs w A n ds) :
    Calls Try.prog 30 #[.slice A n c, .int .i64 (most : Int)] w fun e w' => ∃ A2 p c2, e = .returned (.slice A2 p c2) ∧ p ≤ most ∧ ∃ xs, EFr w w' A2 p c2 xs := by
  have H := Lib.hid h
  obtain ⟨N, hN⟩ : ∃ N, min n most = N := ⟨_, rfl⟩
  have hNn : N ≤ n := by omega
  have hNm : N ≤ most := by omega
  have HN := Lib.hid hN
  have nr := Lib.hid (fun (x : Ev) (hx : x.ok) (W : World) => lNear x hx W)
  clear h hN
  go_enter Try.func30, Try.ntmps30
  go_wp2_with fail
  go_loopg [5, 6] (N + 1) (fun gk sl si wr => ∃ (p : Nat) (A1 : Option Addr) (cap1 : Nat) (xs : List Ev), si = .int .i64 (p : Int) ∧ sl = .slice A1 p cap1 ∧ p ≤ N ∧ N + 1 ≤ gk + p ∧ Hid (EFr w wr A1 p cap1 xs))
  case atStart => exact ⟨0, none, 0, [], rfl, rfl, by omega, by omega, EFr.nil (Only.refl _ _)⟩
  case round =>
    obtain ⟨p, A1, cap1, xs, rfl, rfl, hp, hg, R⟩ := hrel
    by_cases hpl : p < N
    · have h1 : (p : Int) < (n : Int) := by omega
      have h2 : (p : Int) < (most : Int) := by omega
      obtain ⟨hok, ad, b, o, s, rfl, e2, hb, x0, x1, x2, x3, x4⟩ := (H.out.only0 R.out.only) p (by omega)
      have nz := Lib.hid (nr.out (ds p) hok wr)
      clear hok hb
      generalize ds p = dv at *
      go_wp2_with (first
        | (refine nz.out.mono ?_
           rintro e w2 ⟨y, rfl, hy, o2⟩
           have Y := Lib.hid hy.1
           have R2 := Lib.hid (R.out.only0 o2)
           clear hy o2 nz)
        | (at_builtin
           refine wpList_appE rfl (.tmp 18) (.tmp 24) rfl A1 p cap1 xs y rfl rfl R2.out Y.out (by omega) ?_
           intro A5 c5 w5 h5
           have R5 := Lib.hid h5
           clear h5))
      go_roundg (N + 1 - (p + 1))
      case measure => omega
      case rel => exact ⟨p + 1, A5, c5, _, by simp, rfl, by omega, by omega, R5⟩
    · by_cases h1 : p < n
      · have hpm : p = most := by have := HN.out; omega
        have h2 : (p : Int) < (n : Int) := by omega
        have h3 : ¬ ((p : Int) < (most : Int)) := by omega
        have h4 : decide ((p : Int) < (most : Int)) = false := decide_eq_false h3
        have F : Hid (p ≤ most) := by show _ ≤ _; omega
        clear hpm
        go_wp2_with fail
        go_ret
        exact ⟨A1, p, cap1, rfl, F.out, xs, R.out⟩
      · have h3 : ¬ ((p : Int) < (n : Int)) := by omega
        have h4 : decide ((p : Int) < (n : Int)) = false := decide_eq_false h3
        have F : Hid (p ≤ most) := by show _ ≤ _; omega
        go_wp2_with fail
        go_ret
        exact ⟨A1, p, cap1, rfl, F.out, xs, R.out⟩
end Go.Proofs.Ytmgmfihjojhilaa
