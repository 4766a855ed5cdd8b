/-
  near: a call of a few workers, in a few steps.
-/
import Derived.Test.YtaaolacfhdfagaaHsB
import Derived.Deep.LoopGhost
import Derived.Deep.RegionWith
namespace Go.Proofs.Ytaaolacfhdfagaa
set_option maxRecDepth 100000
open Go.RowKit
set_option linter.unusedVariables false
set_option linter.unusedSimpArgs false
set_option maxRecDepth 100000

set_option maxHeartbeats 2000000
theorem results_cell1 {fn : Func} {p : Tmp} {ty : TypeId} (h : fn.results = #[.cell p ty]) (tmps : Array Value) (P : Program) (w : World) :
    (results fn tmps).run P w = ((asAddr (tmps.getD p undef)).run P w).andThen fun a w₁ => ((loadVar ty a).run P w₁).andThen fun v w₂ => .ok v w₂ := by
  simp only [results, h]
  simp [Sem.run_bind, Result.andThen]
  split
  · split <;> assumption
  · rfl
/-- A call in a box, and a box for what will be told behind it. -/
structure NB (w W : World) (g : Nat) (x z : Dn) : Prop where
  only : Only [] w W
  ge : w.heap.size ≤ g
  at_ : ∀ (j : Nat) (u : Value), x.cs[j]? = some u → W.cell? ⟨g, j, none⟩ = some u
  fz : ∀ k, W.frozen? ⟨g, k, none⟩ = false
  zt : ∀ (j : Nat) (u : Value), z.cs[j]? = some u → W.cell? ⟨g + 1, j, none⟩ = some u
  fz2 : ∀ k, W.frozen? ⟨g + 1, k, none⟩ = false
def zD : Dn := ⟨0, 0, 0, 0, 0, 0, 0, none, 0, 0, 0, 0, 0, 0⟩
theorem frozen_of {w : World} {g : Nat} {cs : Array Value} {t : TypeId} (hb : w.heap[g]? = some (.cells cs t (0, 0))) (k : Nat) : w.frozen? ⟨g, k, none⟩ = false := by simp [World.frozen?, hb]
theorem NB.start (w : World) (x : Dn) : NB w ((w.alloc (.cells #[.int .i64 x.who, .int .i64 x.place, .int .i64 x.op, .int .i64 x.f, .int .i64 x.a, .int .i64 x.b, .int .i64 x.e, .slice x.A x.m x.c, .int .i64 x.n, .int .u64 x.v, .int .i64 x.fr, .int .i64 x.to] 30)).alloc (.cells #[.int .i64 0, .int .i64 0, .int .i64 0, .int .i64 0, .int .i64 0, .int .i64 0, .int .i64 0, .slice none 0 0, .int .i64 0, .int .u64 0, .int .i64 0, .int .i64 0] 30)) w.heap.size x zD := by
  have h1 := heap_alloc_new w (.cells #[.int .i64 x.who, .int .i64 x.place, .int .i64 x.op, .int .i64 x.f, .int .i64 x.a, .int .i64 x.b, .int .i64 x.e, .slice x.A x.m x.c, .int .i64 x.n, .int .u64 x.v, .int .i64 x.fr, .int .i64 x.to] 30)
  have h2 := heap_alloc_new (w.alloc (.cells #[.int .i64 x.who, .int .i64 x.place, .int .i64 x.op, .int .i64 x.f, .int .i64 x.a, .int .i64 x.b, .int .i64 x.e, .slice x.A x.m x.c, .int .i64 x.n, .int .u64 x.v, .int .i64 x.fr, .int .i64 x.to] 30)) (.cells #[.int .i64 0, .int .i64 0, .int .i64 0, .int .i64 0, .int .i64 0, .int .i64 0, .int .i64 0, .slice none 0 0, .int .i64 0, .int .u64 0, .int .i64 0, .int .i64 0] 30)
  rw [World.size_alloc] at h2
  have al := Only.alloc (Only.refl [] (w.alloc (.cells #[.int .i64 x.who, .int .i64 x.place, .int .i64 x.op, .int .i64 x.f, .int .i64 x.a, .int .i64 x.b, .int .i64 x.e, .slice x.A x.m x.c, .int .i64 x.n, .int .u64 x.v, .int .i64 x.fr, .int .i64 x.to] 30))) (.cells #[.int .i64 0, .int .i64 0, .int .i64 0, .int .i64 0, .int .i64 0, .int .i64 0, .int .i64 0, .slice none 0 0, .int .i64 0, .int .u64 0, .int .i64 0, .int .i64 0] 30)
  have h3 := al.get h1 (by simp)
  refine ⟨((Only.refl [] w).alloc _).alloc _, Nat.le_refl _, fun j u hu => ?_, frozen_of h3, fun j u hu => ?_, frozen_of h2⟩
  · rw [cell_of_row _ _ _ _ _ (0, 0) h3]; simpa [Dn.cs] using hu
  · rw [cell_of_row _ _ _ _ _ (0, 0) h2]; simpa [Dn.cs, zD] using hu
section
variable {w W : World} {g : Nat} {x z : Dn}
theorem NB.set (h : NB w W g x z) (k : Nat) (v : Value) (y : Dn) (hk : k < 12) (hy : y.cs = x.cs.set k v) : NB w (W.setCell ⟨g, k, none⟩ v) g y z := by
  refine ⟨h.only.setCell (.inr h.ge) v, h.ge, fun j u hu => ?_, fun k => by rw [World.frozen?_setCell]; exact h.fz k, fun j u hu => ?_, fun k => by rw [World.frozen?_setCell]; exact h.fz2 k⟩
  · rw [hy, List.getElem?_set] at hu
    by_cases e : k = j
    · subst e
      rw [if_pos rfl, if_pos (by exact hk)] at hu
      injection hu with hu
      subst hu
      have h0 := h.at_ k _ (List.getElem?_eq_getElem (show k < x.cs.length from hk))
      exact World.cell?_setCell_same' _ _ _ (by rw [h0]; rfl)
    · rw [if_neg e] at hu
      rw [World.cell?_setCell_other _ _ _ _ (by intro h2; injection h2 with _ h2; exact e h2)]
      exact h.at_ j u hu
  · rw [World.cell?_setCell_other _ _ _ _ (by intro h2; injection h2 with h2; omega)]
    exact h.zt j u hu
theorem NB.drew (h : NB w W g x z) : NB w W.drew g x z := ⟨h.only.drew, h.ge, h.at_, h.fz, h.zt, h.fz2⟩
theorem NB.only0 (h : NB w W g x z) {V : World} (o : Only [] W V) (hf : ∀ p, p.block < W.heap.size → V.frozen? p = W.frozen? p) : NB w V g x z := by
  have hg : g < W.heap.size := World.block_lt_of_cell? _ _ (h.at_ 0 _ rfl)
  have hg2 : g + 1 < W.heap.size := World.block_lt_of_cell? _ _ (h.zt 0 _ rfl)
  exact ⟨h.only.trans' o, h.ge, fun j u hu => o.kp (h.at_ j u hu), fun k => by rw [hf _ hg]; exact h.fz k, fun j u hu => o.kp (h.zt j u hu), fun k => by rw [hf _ hg2]; exact h.fz2 k⟩
theorem NB.alloc (h : NB w W g x z) (o : Obj) : NB w (W.alloc o) g x z := h.only0 ((Only.refl [] W).alloc o) (fun p hp => by
  simp only [World.frozen?, World.alloc, Array.getElem?_push, Nat.ne_of_lt hp, if_false])
theorem NB.fin (h : NB w W g x z) (y : Dn) : Only [] w ((((((((((((W.setCell ⟨g + 1, 0, none⟩ (.int .i64 y.who)).setCell ⟨g + 1, 0 + 1, none⟩ (.int .i64 y.place)).setCell ⟨g + 1, 0 + 2, none⟩ (.int .i64 y.op)).setCell ⟨g + 1, 0 + 3, none⟩ (.int .i64 y.f)).setCell ⟨g + 1, 0 + 4, none⟩ (.int .i64 y.a)).setCell ⟨g + 1, 0 + 5, none⟩ (.int .i64 y.b)).setCell ⟨g + 1, 0 + 6, none⟩ (.int .i64 y.e)).setCell ⟨g + 1, 0 + 7, none⟩ (.slice y.A y.m y.c)).setCell ⟨g + 1, 0 + 8, none⟩ (.int .i64 y.n)).setCell ⟨g + 1, 0 + 9, none⟩ (.int .u64 y.v)).setCell ⟨g + 1, 0 + 10, none⟩ (.int .i64 y.fr)).setCell ⟨g + 1, 0 + 11, none⟩ (.int .i64 y.to)) := by
  rw [set12]
  exact h.only.trans (Only.setCells (g + 1) _ 0 W) (fun k hk => by simp at hk; subst hk; exact .inr (Nat.le_succ_of_le h.ge))
end
def nearTo (t f : Int) : Int := if modI t 8 = 7 then -1 else if modI t 8 = 6 then modI t 12 - 2 else modI f 12 + modI t 6
def errZ (m : Int) : Int := if m = 2 then 10 else if m = 3 then 1 else if m = 4 then 9 else 0
def nearD (x : Dn) : Dn := if modI x.who 31 = 30 then x else
  { x with who := modI x.who 4, place := modI x.place 4, fr := modI x.fr 12, to := nearTo x.to x.fr, op := if modI x.a 3 > 0 then 5 else 1 + modI x.op 7, e := errZ (modI x.e 5) }
theorem errs_at (W : World) (t : Nat) (ht : t < 5) : (W.alloc (.cells #[.int .i64 0, .int .i64 0, .int .i64 10, .int .i64 1, .int .i64 9] 24)).cell? ⟨W.heap.size, t, none⟩ = some (.int .i64 (errZ (t : Int))) := by
  rw [cell_of_row _ _ _ _ _ (0, 0) (heap_alloc_new W _)]
  match t, ht with
  | 0, _ => rfl
  | 1, _ => rfl
  | 2, _ => rfl
  | 3, _ => rfl
  | 4, _ => rfl
theorem lNear (x : Dn) (w : World) : Calls Try.prog 4 #[.agg #[.int .i64 x.who, .int .i64 x.place, .int .i64 x.op, .int .i64 x.f, .int .i64 x.a, .int .i64 x.b, .int .i64 x.e, .slice x.A x.m x.c, .int .i64 x.n, .int .u64 x.v, .int .i64 x.fr, .int .i64 x.to]] w fun e w' => e = .returned (.agg #[.int .i64 (nearD x).who, .int .i64 (nearD x).place, .int .i64 (nearD x).op, .int .i64 (nearD x).f, .int .i64 (nearD x).a, .int .i64 (nearD x).b, .int .i64 (nearD x).e, .slice (nearD x).A (nearD x).m (nearD x).c, .int .i64 (nearD x).n, .int .u64 (nearD x).v, .int .i64 (nearD x).fr, .int .i64 (nearD x).to]) ∧ Only [] w w' := by
  have md := Lib.hid (fun (v n : Int) (h : 0 < n) (hn : n ≤ 1000000) (w : World) => cMod v n h hn w)
  have N : Hid (NB w ((w.alloc (.cells #[.int .i64 x.who, .int .i64 x.place, .int .i64 x.op, .int .i64 x.f, .int .i64 x.a, .int .i64 x.b, .int .i64 x.e, .slice x.A x.m x.c, .int .i64 x.n, .int .u64 x.v, .int .i64 x.fr, .int .i64 x.to] 30)).alloc (.cells #[.int .i64 0, .int .i64 0, .int .i64 0, .int .i64 0, .int .i64 0, .int .i64 0, .int .i64 0, .slice none 0 0, .int .i64 0, .int .u64 0, .int .i64 0, .int .i64 0] 30)) w.heap.size x zD) := NB.start w x
  obtain ⟨y, hy⟩ : ∃ y, nearD x = y := ⟨_, rfl⟩
  rw [hy]
  have HY := Lib.hid hy
  clear hy
  go_enter Try.func4, Try.ntmps4
  go_upto_region 1 with fail
  generalize (w.alloc (.cells #[.int .i64 x.who, .int .i64 x.place, .int .i64 x.op, .int .i64 x.f, .int .i64 x.a, .int .i64 x.b, .int .i64 x.e, .slice x.A x.m x.c, .int .i64 x.n, .int .u64 x.v, .int .i64 x.fr, .int .i64 x.to] 30)).alloc (.cells #[.int .i64 0, .int .i64 0, .int .i64 0, .int .i64 0, .int .i64 0, .int .i64 0, .int .i64 0, .slice none 0 0, .int .i64 0, .int .u64 0, .int .i64 0, .int .i64 0] 30) = W at *
  obtain ⟨g, hg⟩ : ∃ g, w.heap.size = g := ⟨_, rfl⟩
  rw [hg] at N ⊢
  clear hg
  generalize zD = z at *
  by_cases h1 : modI x.who 31 = 30
  · have h2 : (modI x.who 31 == 30) = true := by rw [h1]; rfl
    have EX : Hid (y = x) := by show _ = _; rw [← HY.out]; unfold nearD; rw [if_pos h1]
    clear h1
    have x0 := N.out.at_ 0 _ rfl
    have x1 := N.out.at_ 1 _ rfl
    have x2 := N.out.at_ 2 _ rfl
    have x3 := N.out.at_ 3 _ rfl
    have x4 := N.out.at_ 4 _ rfl
    have x5 := N.out.at_ 5 _ rfl
    have x6 := N.out.at_ 6 _ rfl
    have x7 := N.out.at_ 7 _ rfl
    have x8 := N.out.at_ 8 _ rfl
    have x9 := N.out.at_ 9 _ rfl
    have x10 := N.out.at_ 10 _ rfl
    have x11 := N.out.at_ 11 _ rfl
    have z0 := N.out.zt 0 _ rfl
    have z1 := N.out.zt 1 _ rfl
    have z2 := N.out.zt 2 _ rfl
    have z3 := N.out.zt 3 _ rfl
    have z4 := N.out.zt 4 _ rfl
    have z5 := N.out.zt 5 _ rfl
    have z6 := N.out.zt 6 _ rfl
    have z7 := N.out.zt 7 _ rfl
    have z8 := N.out.zt 8 _ rfl
    have z9 := N.out.zt 9 _ rfl
    have z10 := N.out.zt 10 _ rfl
    have z11 := N.out.zt 11 _ rfl
    have q0 := N.out.fz2 0
    have q1 := N.out.fz2 1
    have q2 := N.out.fz2 2
    have q3 := N.out.fz2 3
    have q4 := N.out.fz2 4
    have q5 := N.out.fz2 5
    have q6 := N.out.fz2 6
    have q7 := N.out.fz2 7
    have q8 := N.out.fz2 8
    have q9 := N.out.fz2 9
    have q10 := N.out.fz2 10
    have q11 := N.out.fz2 11
    have OX := Lib.hid (N.out.fin x)
    go_wp2_with (go_at_call 5; refine (md.out _ _ (by decide) (by decide) _).mono ?_; rintro e w9 ⟨rfl, hv⟩; rw [hv]; clear hv)
    refine bodyPost_ret (v := .agg #[.int .i64 x.who, .int .i64 x.place, .int .i64 x.op, .int .i64 x.f, .int .i64 x.a, .int .i64 x.b, .int .i64 x.e, .slice x.A x.m x.c, .int .i64 x.n, .int .u64 x.v, .int .i64 x.fr, .int .i64 x.to]) ?_ rfl ?_
    · rw [results_cell1 rfl]; go_simp
    · exact ⟨by rw [EX.out], OX.out⟩
  · have h2 : (modI x.who 31 == 30) = false := by simp [h1]
    have EX : Hid (y = { x with who := modI x.who 4, place := modI x.place 4, fr := modI x.fr 12, to := nearTo x.to x.fr, op := if modI x.a 3 > 0 then 5 else 1 + modI x.op 7, e := errZ (modI x.e 5) }) := by show _ = _; rw [← HY.out]; unfold nearD; rw [if_neg h1]
    clear h1 HY
    have x0 := N.out.at_ 0 _ rfl
    go_upto_region 3 with (go_at_call 5; refine (md.out _ _ (by decide) (by decide) _).mono ?_; rintro e w9 ⟨rfl, hv⟩; rw [hv]; clear hv)
    clear h2
    have x1 := N.out.at_ 1 _ rfl
    have f0 := N.out.fz 0
    have f1 := N.out.fz 1
    have N2 : Hid (NB w (((W.setCell ⟨g, 0, none⟩ (.int .i64 (modI x.who 4))).setCell ⟨g, 1, none⟩ (.int .i64 (modI x.place 4))).drew) g { { x with who := modI x.who 4 } with place := modI x.place 4 } z) := ((N.out.set 0 (.int .i64 (modI x.who 4)) { x with who := modI x.who 4 } (by decide) rfl).set 1 (.int .i64 (modI x.place 4)) _ (by decide) rfl).drew
    clear N
    refine (fun (main : (?G3 : Prop)) => ?body3) ?pf3
    case body3 =>
      go_region_with (first | (go_at_call 5; refine (md.out _ _ (by decide) (by decide) _).mono ?_; rintro e w9 ⟨rfl, hv⟩; rw [hv]; clear hv))
      all_goals exact main
    case pf3 =>
      clear x0 x1 f0 f1
      generalize ((W.setCell ⟨g, 0, none⟩ (.int .i64 (modI x.who 4))).setCell ⟨g, 1, none⟩ (.int .i64 (modI x.place 4))).drew = W3 at *
      obtain ⟨a1, ha1⟩ : ∃ a, modI x.who 4 = a := ⟨_, rfl⟩
      obtain ⟨a2, ha2⟩ : ∃ a, modI x.place 4 = a := ⟨_, rfl⟩
      simp only [ha1, ha2] at N2 EX ⊢
      clear ha1 ha2
      have N := N2
      clear N2
      have x10 : W3.cell? ⟨g, 10, none⟩ = some (.int .i64 x.fr) := N.out.at_ 10 _ rfl
      have f10 := N.out.fz 10
      go_upto_region 5 with (go_at_call 5; refine (md.out _ _ (by decide) (by decide) _).mono ?_; rintro e w9 ⟨rfl, hv⟩; rw [hv]; clear hv)
      clear x10 f10
      have N2 : Hid (NB w (W3.setCell ⟨g, 10, none⟩ (.int .i64 (modI x.fr 12))) g { x with who := a1, place := a2, fr := modI x.fr 12 } z) := N.out.set 10 (.int .i64 (modI x.fr 12)) _ (by decide) rfl
      clear N
      have N := N2
      clear N2
      generalize W3.setCell ⟨g, 10, none⟩ (.int .i64 (modI x.fr 12)) = W5 at *
      have ET : Hid (nearTo x.to x.fr = if modI x.to 8 = 7 then -1 else if modI x.to 8 = 6 then modI x.to 12 - 2 else modI x.fr 12 + modI x.to 6) := rfl
      have b12 := modI_lt x.to (n := 12) (by decide)
      have b6 := modI_lt x.to (n := 6) (by decide)
      have bf := modI_lt x.fr (n := 12) (by decide)
      have wo1 : IntKind.i64.wrap (1 + modI x.op 7) = 1 + modI x.op 7 := by have := modI_lt x.op (n := 7) (by decide); rw [IntKind.wrap_i64]; omega
      have wt1 : IntKind.i64.wrap (modI x.to 12 - 2) = modI x.to 12 - 2 := by rw [IntKind.wrap_i64]; omega
      have wt2 : IntKind.i64.wrap (modI x.fr 12 + modI x.to 6) = modI x.fr 12 + modI x.to 6 := by rw [IntKind.wrap_i64]; omega
      clear b12 b6 bf
      obtain ⟨fr2, hfr2⟩ : ∃ a, modI x.fr 12 = a := ⟨_, rfl⟩
      simp only [hfr2] at N EX ET wt2 ⊢
      clear hfr2
      obtain ⟨t5, ht5, hlt5⟩ : ∃ t : Nat, modI x.e 5 = (t : Int) ∧ t < 5 := ⟨(modI x.e 5).toNat, by have := modI_lt x.e (n := 5) (by decide); omega, by have := modI_lt x.e (n := 5) (by decide); omega⟩
      have M5 := Lib.hid (fun W => md.out x.e 5 (by decide) (by decide) W)
      rw [ht5] at M5 EX
      clear ht5
      by_cases k7 : modI x.to 8 = 7
      · have d7 : (modI x.to 8 == 7) = true := by rw [k7]; rfl
        have EV : Hid (nearTo x.to x.fr = -1) := by show _ = _; rw [ET.out, if_pos k7]
        clear k7
        have x11 : W5.cell? ⟨g, 11, none⟩ = some (.int .i64 x.to) := N.out.at_ 11 _ rfl
        have f11 := N.out.fz 11
        go_upto_region 11 with (go_at_call 5; refine (md.out _ _ (by decide) (by decide) _).mono ?_; rintro e w9 ⟨rfl, hv⟩; rw [hv]; clear hv)
        clear x11 f11
        have N2 : Hid (NB w (W5.setCell ⟨g, 11, none⟩ (.int .i64 (-1))) g { x with who := a1, place := a2, fr := fr2, to := -1 } z) := N.out.set 11 (.int .i64 (-1)) _ (by decide) rfl
        clear N
        have N := N2
        clear N2
        generalize W5.setCell ⟨g, 11, none⟩ (.int .i64 (-1)) = W10 at *
        have x2 : W10.cell? ⟨g, 2, none⟩ = some (.int .i64 x.op) := N.out.at_ 2 _ rfl
        have f2 := N.out.fz 2
        go_upto_region 12 with (go_at_call 5; refine (md.out _ _ (by decide) (by decide) _).mono ?_; rintro e w9 ⟨rfl, hv⟩; rw [hv]; clear hv)
        clear x2 f2
        have N2 : Hid (NB w (W10.setCell ⟨g, 2, none⟩ (.int .i64 (1 + modI x.op 7))) g { { x with who := a1, place := a2, fr := fr2, to := -1 } with op := 1 + modI x.op 7 } z) := N.out.set 2 (.int .i64 (1 + modI x.op 7)) _ (by decide) rfl
        clear N
        have N := N2
        clear N2
        generalize W10.setCell ⟨g, 2, none⟩ (.int .i64 (1 + modI x.op 7)) = W11 at *
        by_cases ha : modI x.a 3 > 0
        · have d3 : decide (modI x.a 3 > 0) = true := decide_eq_true ha
          have d4 : decide (0 < modI x.a 3) = true := decide_eq_true ha
          have EO : Hid ((if modI x.a 3 > 0 then (5 : Int) else 1 + modI x.op 7) = 5) := if_pos ha
          clear ha
          have f2 := N.out.fz 2
          have x2 : W11.cell? ⟨g, 2, none⟩ = some (.int .i64 (1 + modI x.op 7)) := N.out.at_ 2 _ rfl
          have x4 : W11.cell? ⟨g, 4, none⟩ = some (.int .i64 x.a) := N.out.at_ 4 _ rfl
          go_upto_region 14 with (go_at_call 5; refine (md.out _ _ (by decide) (by decide) _).mono ?_; rintro e w9 ⟨rfl, hv⟩; rw [hv]; clear hv)
          clear f2 x2 x4
          have N2 : Hid (NB w (W11.setCell ⟨g, 2, none⟩ (.int .i64 5)) g { x with who := a1, place := a2, fr := fr2, to := -1, op := 5 } z) := N.out.set 2 (.int .i64 5) _ (by decide) rfl
          clear N
          have N := N2
          clear N2
          generalize W11.setCell ⟨g, 2, none⟩ (.int .i64 5) = W14 at *
          have x6 : (W14.alloc (.cells #[.int .i64 0, .int .i64 0, .int .i64 10, .int .i64 1, .int .i64 9] 24)).cell? ⟨g, 6, none⟩ = some (.int .i64 x.e) := (N.out.alloc (.cells #[.int .i64 0, .int .i64 0, .int .i64 10, .int .i64 1, .int .i64 9] 24)).at_ 6 _ rfl
          have f6 := (N.out.alloc (.cells #[.int .i64 0, .int .i64 0, .int .i64 10, .int .i64 1, .int .i64 9] 24)).fz 6
          have er := errs_at W14 t5 hlt5
          have N2 : Hid (NB w ((W14.alloc (.cells #[.int .i64 0, .int .i64 0, .int .i64 10, .int .i64 1, .int .i64 9] 24)).setCell ⟨g, 6, none⟩ (.int .i64 (errZ (t5 : Int)))) g { x with who := a1, place := a2, fr := fr2, to := -1, op := 5, e := errZ (t5 : Int) } z) := (N.out.alloc _).set 6 (.int .i64 (errZ (t5 : Int))) _ (by decide) rfl
          have h50 : (t5 : Int) < 5 := by omega
          have h51 : decide ((t5 : Int) < 5) = true := decide_eq_true h50
          go_upto_region 15 with (first | (go_at_call 5; refine (M5.out _).mono ?_; rintro e w9 ⟨rfl, hv⟩; rw [hv]; clear hv))
          clear x6 f6 er h50 h51 N
          have N := N2
          clear N2
          generalize (W14.alloc (.cells #[.int .i64 0, .int .i64 0, .int .i64 10, .int .i64 1, .int .i64 9] 24)).setCell ⟨g, 6, none⟩ (.int .i64 (errZ (t5 : Int))) = W15 at *
          obtain ⟨Y, hY⟩ : ∃ Y : Dn, ({ x with who := a1, place := a2, fr := fr2, to := -1, op := 5, e := errZ (t5 : Int) } : Dn) = Y := ⟨_, rfl⟩
          rw [hY] at N
          have EY : Hid (y = Y) := by show _ = _; rw [EX.out, EV.out, EO.out, hY]
          clear hY EX
          have EX := EY
          clear EY
          have x0 := N.out.at_ 0 _ rfl
          have x1 := N.out.at_ 1 _ rfl
          have x2 := N.out.at_ 2 _ rfl
          have x3 := N.out.at_ 3 _ rfl
          have x4 := N.out.at_ 4 _ rfl
          have x5 := N.out.at_ 5 _ rfl
          have x6 := N.out.at_ 6 _ rfl
          have x7 := N.out.at_ 7 _ rfl
          have x8 := N.out.at_ 8 _ rfl
          have x9 := N.out.at_ 9 _ rfl
          have x10 := N.out.at_ 10 _ rfl
          have x11 := N.out.at_ 11 _ rfl
          have z0 := N.out.zt 0 _ rfl
          have z1 := N.out.zt 1 _ rfl
          have z2 := N.out.zt 2 _ rfl
          have z3 := N.out.zt 3 _ rfl
          have z4 := N.out.zt 4 _ rfl
          have z5 := N.out.zt 5 _ rfl
          have z6 := N.out.zt 6 _ rfl
          have z7 := N.out.zt 7 _ rfl
          have z8 := N.out.zt 8 _ rfl
          have z9 := N.out.zt 9 _ rfl
          have z10 := N.out.zt 10 _ rfl
          have z11 := N.out.zt 11 _ rfl
          have q0 := N.out.fz2 0
          have q1 := N.out.fz2 1
          have q2 := N.out.fz2 2
          have q3 := N.out.fz2 3
          have q4 := N.out.fz2 4
          have q5 := N.out.fz2 5
          have q6 := N.out.fz2 6
          have q7 := N.out.fz2 7
          have q8 := N.out.fz2 8
          have q9 := N.out.fz2 9
          have q10 := N.out.fz2 10
          have q11 := N.out.fz2 11
          have OX := Lib.hid (N.out.fin Y)
          go_wp2_with fail
          refine bodyPost_ret (v := .agg #[.int .i64 Y.who, .int .i64 Y.place, .int .i64 Y.op, .int .i64 Y.f, .int .i64 Y.a, .int .i64 Y.b, .int .i64 Y.e, .slice Y.A Y.m Y.c, .int .i64 Y.n, .int .u64 Y.v, .int .i64 Y.fr, .int .i64 Y.to]) ?_ rfl ?_
          · rw [results_cell1 rfl]; go_simp
          · exact ⟨by rw [EX.out], OX.out⟩
        · have d3 : decide (modI x.a 3 > 0) = false := decide_eq_false ha
          have d4 : decide (0 < modI x.a 3) = false := decide_eq_false ha
          have EO : Hid ((if modI x.a 3 > 0 then (5 : Int) else 1 + modI x.op 7) = 1 + modI x.op 7) := if_neg ha
          clear ha
          have x4 : W11.cell? ⟨g, 4, none⟩ = some (.int .i64 x.a) := N.out.at_ 4 _ rfl
          go_upto_region 14 with (go_at_call 5; refine (md.out _ _ (by decide) (by decide) _).mono ?_; rintro e w9 ⟨rfl, hv⟩; rw [hv]; clear hv)
          clear x4
          obtain ⟨W14, hW14⟩ : ∃ V, W11 = V := ⟨_, rfl⟩
          subst hW14
          have x6 : (W11.alloc (.cells #[.int .i64 0, .int .i64 0, .int .i64 10, .int .i64 1, .int .i64 9] 24)).cell? ⟨g, 6, none⟩ = some (.int .i64 x.e) := (N.out.alloc (.cells #[.int .i64 0, .int .i64 0, .int .i64 10, .int .i64 1, .int .i64 9] 24)).at_ 6 _ rfl
          have f6 := (N.out.alloc (.cells #[.int .i64 0, .int .i64 0, .int .i64 10, .int .i64 1, .int .i64 9] 24)).fz 6
          have er := errs_at W11 t5 hlt5
          have N2 : Hid (NB w ((W11.alloc (.cells #[.int .i64 0, .int .i64 0, .int .i64 10, .int .i64 1, .int .i64 9] 24)).setCell ⟨g, 6, none⟩ (.int .i64 (errZ (t5 : Int)))) g { x with who := a1, place := a2, fr := fr2, to := -1, op := 1 + modI x.op 7, e := errZ (t5 : Int) } z) := (N.out.alloc _).set 6 (.int .i64 (errZ (t5 : Int))) _ (by decide) rfl
          have h50 : (t5 : Int) < 5 := by omega
          have h51 : decide ((t5 : Int) < 5) = true := decide_eq_true h50
          go_upto_region 15 with (first | (go_at_call 5; refine (M5.out _).mono ?_; rintro e w9 ⟨rfl, hv⟩; rw [hv]; clear hv))
          clear x6 f6 er h50 h51 N
          have N := N2
          clear N2
          generalize (W11.alloc (.cells #[.int .i64 0, .int .i64 0, .int .i64 10, .int .i64 1, .int .i64 9] 24)).setCell ⟨g, 6, none⟩ (.int .i64 (errZ (t5 : Int))) = W15 at *
          obtain ⟨Y, hY⟩ : ∃ Y : Dn, ({ x with who := a1, place := a2, fr := fr2, to := -1, op := 1 + modI x.op 7, e := errZ (t5 : Int) } : Dn) = Y := ⟨_, rfl⟩
          rw [hY] at N
          have EY : Hid (y = Y) := by show _ = _; rw [EX.out, EV.out, EO.out, hY]
          clear hY EX
          have EX := EY
          clear EY
          have x0 := N.out.at_ 0 _ rfl
          have x1 := N.out.at_ 1 _ rfl
          have x2 := N.out.at_ 2 _ rfl
          have x3 := N.out.at_ 3 _ rfl
          have x4 := N.out.at_ 4 _ rfl
          have x5 := N.out.at_ 5 _ rfl
          have x6 := N.out.at_ 6 _ rfl
          have x7 := N.out.at_ 7 _ rfl
          have x8 := N.out.at_ 8 _ rfl
          have x9 := N.out.at_ 9 _ rfl
          have x10 := N.out.at_ 10 _ rfl
          have x11 := N.out.at_ 11 _ rfl
          have z0 := N.out.zt 0 _ rfl
          have z1 := N.out.zt 1 _ rfl
          have z2 := N.out.zt 2 _ rfl
          have z3 := N.out.zt 3 _ rfl
          have z4 := N.out.zt 4 _ rfl
          have z5 := N.out.zt 5 _ rfl
          have z6 := N.out.zt 6 _ rfl
          have z7 := N.out.zt 7 _ rfl
          have z8 := N.out.zt 8 _ rfl
          have z9 := N.out.zt 9 _ rfl
          have z10 := N.out.zt 10 _ rfl
          have z11 := N.out.zt 11 _ rfl
          have q0 := N.out.fz2 0
          have q1 := N.out.fz2 1
          have q2 := N.out.fz2 2
          have q3 := N.out.fz2 3
          have q4 := N.out.fz2 4
          have q5 := N.out.fz2 5
          have q6 := N.out.fz2 6
          have q7 := N.out.fz2 7
          have q8 := N.out.fz2 8
          have q9 := N.out.fz2 9
          have q10 := N.out.fz2 10
          have q11 := N.out.fz2 11
          have OX := Lib.hid (N.out.fin Y)
          go_wp2_with fail
          refine bodyPost_ret (v := .agg #[.int .i64 Y.who, .int .i64 Y.place, .int .i64 Y.op, .int .i64 Y.f, .int .i64 Y.a, .int .i64 Y.b, .int .i64 Y.e, .slice Y.A Y.m Y.c, .int .i64 Y.n, .int .u64 Y.v, .int .i64 Y.fr, .int .i64 Y.to]) ?_ rfl ?_
          · rw [results_cell1 rfl]; go_simp
          · exact ⟨by rw [EX.out], OX.out⟩
      · have d7 : (modI x.to 8 == 7) = false := by simp [k7]
        by_cases k6 : modI x.to 8 = 6
        · have d6 : (modI x.to 8 == 6) = true := by rw [k6]; rfl
          have EV : Hid (nearTo x.to x.fr = modI x.to 12 - 2) := by show _ = _; rw [ET.out, if_neg k7, if_pos k6]
          clear k7 k6
          have x11 : W5.cell? ⟨g, 11, none⟩ = some (.int .i64 x.to) := N.out.at_ 11 _ rfl
          have f11 := N.out.fz 11
          go_upto_region 11 with (go_at_call 5; refine (md.out _ _ (by decide) (by decide) _).mono ?_; rintro e w9 ⟨rfl, hv⟩; rw [hv]; clear hv)
          clear x11 f11
          have N2 : Hid (NB w (W5.setCell ⟨g, 11, none⟩ (.int .i64 (modI x.to 12 - 2))) g { x with who := a1, place := a2, fr := fr2, to := modI x.to 12 - 2 } z) := N.out.set 11 (.int .i64 (modI x.to 12 - 2)) _ (by decide) rfl
          clear N
          have N := N2
          clear N2
          generalize W5.setCell ⟨g, 11, none⟩ (.int .i64 (modI x.to 12 - 2)) = W10 at *
          have x2 : W10.cell? ⟨g, 2, none⟩ = some (.int .i64 x.op) := N.out.at_ 2 _ rfl
          have f2 := N.out.fz 2
          go_upto_region 12 with (go_at_call 5; refine (md.out _ _ (by decide) (by decide) _).mono ?_; rintro e w9 ⟨rfl, hv⟩; rw [hv]; clear hv)
          clear x2 f2
          have N2 : Hid (NB w (W10.setCell ⟨g, 2, none⟩ (.int .i64 (1 + modI x.op 7))) g { { x with who := a1, place := a2, fr := fr2, to := modI x.to 12 - 2 } with op := 1 + modI x.op 7 } z) := N.out.set 2 (.int .i64 (1 + modI x.op 7)) _ (by decide) rfl
          clear N
          have N := N2
          clear N2
          generalize W10.setCell ⟨g, 2, none⟩ (.int .i64 (1 + modI x.op 7)) = W11 at *
          by_cases ha : modI x.a 3 > 0
          · have d3 : decide (modI x.a 3 > 0) = true := decide_eq_true ha
            have d4 : decide (0 < modI x.a 3) = true := decide_eq_true ha
            have EO : Hid ((if modI x.a 3 > 0 then (5 : Int) else 1 + modI x.op 7) = 5) := if_pos ha
            clear ha
            have f2 := N.out.fz 2
            have x2 : W11.cell? ⟨g, 2, none⟩ = some (.int .i64 (1 + modI x.op 7)) := N.out.at_ 2 _ rfl
            have x4 : W11.cell? ⟨g, 4, none⟩ = some (.int .i64 x.a) := N.out.at_ 4 _ rfl
            go_upto_region 14 with (go_at_call 5; refine (md.out _ _ (by decide) (by decide) _).mono ?_; rintro e w9 ⟨rfl, hv⟩; rw [hv]; clear hv)
            clear f2 x2 x4
            have N2 : Hid (NB w (W11.setCell ⟨g, 2, none⟩ (.int .i64 5)) g { x with who := a1, place := a2, fr := fr2, to := modI x.to 12 - 2, op := 5 } z) := N.out.set 2 (.int .i64 5) _ (by decide) rfl
            clear N
            have N := N2
            clear N2
            generalize W11.setCell ⟨g, 2, none⟩ (.int .i64 5) = W14 at *
            have x6 : (W14.alloc (.cells #[.int .i64 0, .int .i64 0, .int .i64 10, .int .i64 1, .int .i64 9] 24)).cell? ⟨g, 6, none⟩ = some (.int .i64 x.e) := (N.out.alloc (.cells #[.int .i64 0, .int .i64 0, .int .i64 10, .int .i64 1, .int .i64 9] 24)).at_ 6 _ rfl
            have f6 := (N.out.alloc (.cells #[.int .i64 0, .int .i64 0, .int .i64 10, .int .i64 1, .int .i64 9] 24)).fz 6
            have er := errs_at W14 t5 hlt5
            have N2 : Hid (NB w ((W14.alloc (.cells #[.int .i64 0, .int .i64 0, .int .i64 10, .int .i64 1, .int .i64 9] 24)).setCell ⟨g, 6, none⟩ (.int .i64 (errZ (t5 : Int)))) g { x with who := a1, place := a2, fr := fr2, to := modI x.to 12 - 2, op := 5, e := errZ (t5 : Int) } z) := (N.out.alloc _).set 6 (.int .i64 (errZ (t5 : Int))) _ (by decide) rfl
            have h50 : (t5 : Int) < 5 := by omega
            have h51 : decide ((t5 : Int) < 5) = true := decide_eq_true h50
            go_upto_region 15 with (first | (go_at_call 5; refine (M5.out _).mono ?_; rintro e w9 ⟨rfl, hv⟩; rw [hv]; clear hv))
            clear x6 f6 er h50 h51 N
            have N := N2
            clear N2
            generalize (W14.alloc (.cells #[.int .i64 0, .int .i64 0, .int .i64 10, .int .i64 1, .int .i64 9] 24)).setCell ⟨g, 6, none⟩ (.int .i64 (errZ (t5 : Int))) = W15 at *
            obtain ⟨Y, hY⟩ : ∃ Y : Dn, ({ x with who := a1, place := a2, fr := fr2, to := modI x.to 12 - 2, op := 5, e := errZ (t5 : Int) } : Dn) = Y := ⟨_, rfl⟩
            rw [hY] at N
            have EY : Hid (y = Y) := by show _ = _; rw [EX.out, EV.out, EO.out, hY]
            clear hY EX
            have EX := EY
            clear EY
            have x0 := N.out.at_ 0 _ rfl
            have x1 := N.out.at_ 1 _ rfl
            have x2 := N.out.at_ 2 _ rfl
            have x3 := N.out.at_ 3 _ rfl
            have x4 := N.out.at_ 4 _ rfl
            have x5 := N.out.at_ 5 _ rfl
            have x6 := N.out.at_ 6 _ rfl
            have x7 := N.out.at_ 7 _ rfl
            have x8 := N.out.at_ 8 _ rfl
            have x9 := N.out.at_ 9 _ rfl
            have x10 := N.out.at_ 10 _ rfl
            have x11 := N.out.at_ 11 _ rfl
            have z0 := N.out.zt 0 _ rfl
            have z1 := N.out.zt 1 _ rfl
            have z2 := N.out.zt 2 _ rfl
            have z3 := N.out.zt 3 _ rfl
            have z4 := N.out.zt 4 _ rfl
            have z5 := N.out.zt 5 _ rfl
            have z6 := N.out.zt 6 _ rfl
            have z7 := N.out.zt 7 _ rfl
            have z8 := N.out.zt 8 _ rfl
            have z9 := N.out.zt 9 _ rfl
            have z10 := N.out.zt 10 _ rfl
            have z11 := N.out.zt 11 _ rfl
            have q0 := N.out.fz2 0
            have q1 := N.out.fz2 1
            have q2 := N.out.fz2 2
            have q3 := N.out.fz2 3
            have q4 := N.out.fz2 4
            have q5 := N.out.fz2 5
            have q6 := N.out.fz2 6
            have q7 := N.out.fz2 7
            have q8 := N.out.fz2 8
            have q9 := N.out.fz2 9
            have q10 := N.out.fz2 10
            have q11 := N.out.fz2 11
            have OX := Lib.hid (N.out.fin Y)
            go_wp2_with fail
            refine bodyPost_ret (v := .agg #[.int .i64 Y.who, .int .i64 Y.place, .int .i64 Y.op, .int .i64 Y.f, .int .i64 Y.a, .int .i64 Y.b, .int .i64 Y.e, .slice Y.A Y.m Y.c, .int .i64 Y.n, .int .u64 Y.v, .int .i64 Y.fr, .int .i64 Y.to]) ?_ rfl ?_
            · rw [results_cell1 rfl]; go_simp
            · exact ⟨by rw [EX.out], OX.out⟩
          · have d3 : decide (modI x.a 3 > 0) = false := decide_eq_false ha
            have d4 : decide (0 < modI x.a 3) = false := decide_eq_false ha
            have EO : Hid ((if modI x.a 3 > 0 then (5 : Int) else 1 + modI x.op 7) = 1 + modI x.op 7) := if_neg ha
            clear ha
            have x4 : W11.cell? ⟨g, 4, none⟩ = some (.int .i64 x.a) := N.out.at_ 4 _ rfl
            go_upto_region 14 with (go_at_call 5; refine (md.out _ _ (by decide) (by decide) _).mono ?_; rintro e w9 ⟨rfl, hv⟩; rw [hv]; clear hv)
            clear x4
            obtain ⟨W14, hW14⟩ : ∃ V, W11 = V := ⟨_, rfl⟩
            subst hW14
            have x6 : (W11.alloc (.cells #[.int .i64 0, .int .i64 0, .int .i64 10, .int .i64 1, .int .i64 9] 24)).cell? ⟨g, 6, none⟩ = some (.int .i64 x.e) := (N.out.alloc (.cells #[.int .i64 0, .int .i64 0, .int .i64 10, .int .i64 1, .int .i64 9] 24)).at_ 6 _ rfl
            have f6 := (N.out.alloc (.cells #[.int .i64 0, .int .i64 0, .int .i64 10, .int .i64 1, .int .i64 9] 24)).fz 6
            have er := errs_at W11 t5 hlt5
            have N2 : Hid (NB w ((W11.alloc (.cells #[.int .i64 0, .int .i64 0, .int .i64 10, .int .i64 1, .int .i64 9] 24)).setCell ⟨g, 6, none⟩ (.int .i64 (errZ (t5 : Int)))) g { x with who := a1, place := a2, fr := fr2, to := modI x.to 12 - 2, op := 1 + modI x.op 7, e := errZ (t5 : Int) } z) := (N.out.alloc _).set 6 (.int .i64 (errZ (t5 : Int))) _ (by decide) rfl
            have h50 : (t5 : Int) < 5 := by omega
            have h51 : decide ((t5 : Int) < 5) = true := decide_eq_true h50
            go_upto_region 15 with (first | (go_at_call 5; refine (M5.out _).mono ?_; rintro e w9 ⟨rfl, hv⟩; rw [hv]; clear hv))
            clear x6 f6 er h50 h51 N
            have N := N2
            clear N2
            generalize (W11.alloc (.cells #[.int .i64 0, .int .i64 0, .int .i64 10, .int .i64 1, .int .i64 9] 24)).setCell ⟨g, 6, none⟩ (.int .i64 (errZ (t5 : Int))) = W15 at *
            obtain ⟨Y, hY⟩ : ∃ Y : Dn, ({ x with who := a1, place := a2, fr := fr2, to := modI x.to 12 - 2, op := 1 + modI x.op 7, e := errZ (t5 : Int) } : Dn) = Y := ⟨_, rfl⟩
            rw [hY] at N
            have EY : Hid (y = Y) := by show _ = _; rw [EX.out, EV.out, EO.out, hY]
            clear hY EX
            have EX := EY
            clear EY
            have x0 := N.out.at_ 0 _ rfl
            have x1 := N.out.at_ 1 _ rfl
            have x2 := N.out.at_ 2 _ rfl
            have x3 := N.out.at_ 3 _ rfl
            have x4 := N.out.at_ 4 _ rfl
            have x5 := N.out.at_ 5 _ rfl
            have x6 := N.out.at_ 6 _ rfl
            have x7 := N.out.at_ 7 _ rfl
            have x8 := N.out.at_ 8 _ rfl
            have x9 := N.out.at_ 9 _ rfl
            have x10 := N.out.at_ 10 _ rfl
            have x11 := N.out.at_ 11 _ rfl
            have z0 := N.out.zt 0 _ rfl
            have z1 := N.out.zt 1 _ rfl
            have z2 := N.out.zt 2 _ rfl
            have z3 := N.out.zt 3 _ rfl
            have z4 := N.out.zt 4 _ rfl
            have z5 := N.out.zt 5 _ rfl
            have z6 := N.out.zt 6 _ rfl
            have z7 := N.out.zt 7 _ rfl
            have z8 := N.out.zt 8 _ rfl
            have z9 := N.out.zt 9 _ rfl
            have z10 := N.out.zt 10 _ rfl
            have z11 := N.out.zt 11 _ rfl
            have q0 := N.out.fz2 0
            have q1 := N.out.fz2 1
            have q2 := N.out.fz2 2
            have q3 := N.out.fz2 3
            have q4 := N.out.fz2 4
            have q5 := N.out.fz2 5
            have q6 := N.out.fz2 6
            have q7 := N.out.fz2 7
            have q8 := N.out.fz2 8
            have q9 := N.out.fz2 9
            have q10 := N.out.fz2 10
            have q11 := N.out.fz2 11
            have OX := Lib.hid (N.out.fin Y)
            go_wp2_with fail
            refine bodyPost_ret (v := .agg #[.int .i64 Y.who, .int .i64 Y.place, .int .i64 Y.op, .int .i64 Y.f, .int .i64 Y.a, .int .i64 Y.b, .int .i64 Y.e, .slice Y.A Y.m Y.c, .int .i64 Y.n, .int .u64 Y.v, .int .i64 Y.fr, .int .i64 Y.to]) ?_ rfl ?_
            · rw [results_cell1 rfl]; go_simp
            · exact ⟨by rw [EX.out], OX.out⟩
        · have d6 : (modI x.to 8 == 6) = false := by simp [k6]
          have EV : Hid (nearTo x.to x.fr = fr2 + modI x.to 6) := by show _ = _; rw [ET.out, if_neg k7, if_neg k6]
          clear k7 k6
          have x10 : W5.cell? ⟨g, 10, none⟩ = some (.int .i64 fr2) := N.out.at_ 10 _ rfl
          have x11 : W5.cell? ⟨g, 11, none⟩ = some (.int .i64 x.to) := N.out.at_ 11 _ rfl
          have f11 := N.out.fz 11
          go_upto_region 6 with (go_at_call 5; refine (md.out _ _ (by decide) (by decide) _).mono ?_; rintro e w9 ⟨rfl, hv⟩; rw [hv]; clear hv)
          refine (fun (main : (?G6 : Prop)) => ?body6) ?pf6
          case body6 =>
            go_region_with (first | (go_at_call 5; refine (md.out _ _ (by decide) (by decide) _).mono ?_; rintro e w9 ⟨rfl, hv⟩; rw [hv]; clear hv))
            all_goals exact main
          case pf6 =>
            clear x10 x11 f11
            have N2 : Hid (NB w (W5.setCell ⟨g, 11, none⟩ (.int .i64 (fr2 + modI x.to 6))).drew g { x with who := a1, place := a2, fr := fr2, to := fr2 + modI x.to 6 } z) := (N.out.set 11 (.int .i64 (fr2 + modI x.to 6)) _ (by decide) rfl).drew
            clear N
            have N := N2
            clear N2
            generalize (W5.setCell ⟨g, 11, none⟩ (.int .i64 (fr2 + modI x.to 6))).drew = W10 at *
            have x2 : W10.cell? ⟨g, 2, none⟩ = some (.int .i64 x.op) := N.out.at_ 2 _ rfl
            have f2 := N.out.fz 2
            go_upto_region 12 with (go_at_call 5; refine (md.out _ _ (by decide) (by decide) _).mono ?_; rintro e w9 ⟨rfl, hv⟩; rw [hv]; clear hv)
            clear x2 f2
            have N2 : Hid (NB w (W10.setCell ⟨g, 2, none⟩ (.int .i64 (1 + modI x.op 7))) g { { x with who := a1, place := a2, fr := fr2, to := fr2 + modI x.to 6 } with op := 1 + modI x.op 7 } z) := N.out.set 2 (.int .i64 (1 + modI x.op 7)) _ (by decide) rfl
            clear N
            have N := N2
            clear N2
            generalize W10.setCell ⟨g, 2, none⟩ (.int .i64 (1 + modI x.op 7)) = W11 at *
            by_cases ha : modI x.a 3 > 0
            · have d3 : decide (modI x.a 3 > 0) = true := decide_eq_true ha
              have d4 : decide (0 < modI x.a 3) = true := decide_eq_true ha
              have EO : Hid ((if modI x.a 3 > 0 then (5 : Int) else 1 + modI x.op 7) = 5) := if_pos ha
              clear ha
              have f2 := N.out.fz 2
              have x2 : W11.cell? ⟨g, 2, none⟩ = some (.int .i64 (1 + modI x.op 7)) := N.out.at_ 2 _ rfl
              have x4 : W11.cell? ⟨g, 4, none⟩ = some (.int .i64 x.a) := N.out.at_ 4 _ rfl
              go_upto_region 14 with (go_at_call 5; refine (md.out _ _ (by decide) (by decide) _).mono ?_; rintro e w9 ⟨rfl, hv⟩; rw [hv]; clear hv)
              clear f2 x2 x4
              have N2 : Hid (NB w (W11.setCell ⟨g, 2, none⟩ (.int .i64 5)) g { x with who := a1, place := a2, fr := fr2, to := fr2 + modI x.to 6, op := 5 } z) := N.out.set 2 (.int .i64 5) _ (by decide) rfl
              clear N
              have N := N2
              clear N2
              generalize W11.setCell ⟨g, 2, none⟩ (.int .i64 5) = W14 at *
              have x6 : (W14.alloc (.cells #[.int .i64 0, .int .i64 0, .int .i64 10, .int .i64 1, .int .i64 9] 24)).cell? ⟨g, 6, none⟩ = some (.int .i64 x.e) := (N.out.alloc (.cells #[.int .i64 0, .int .i64 0, .int .i64 10, .int .i64 1, .int .i64 9] 24)).at_ 6 _ rfl
              have f6 := (N.out.alloc (.cells #[.int .i64 0, .int .i64 0, .int .i64 10, .int .i64 1, .int .i64 9] 24)).fz 6
              have er := errs_at W14 t5 hlt5
              have N2 : Hid (NB w ((W14.alloc (.cells #[.int .i64 0, .int .i64 0, .int .i64 10, .int .i64 1, .int .i64 9] 24)).setCell ⟨g, 6, none⟩ (.int .i64 (errZ (t5 : Int)))) g { x with who := a1, place := a2, fr := fr2, to := fr2 + modI x.to 6, op := 5, e := errZ (t5 : Int) } z) := (N.out.alloc _).set 6 (.int .i64 (errZ (t5 : Int))) _ (by decide) rfl
              have h50 : (t5 : Int) < 5 := by omega
              have h51 : decide ((t5 : Int) < 5) = true := decide_eq_true h50
              go_upto_region 15 with (first | (go_at_call 5; refine (M5.out _).mono ?_; rintro e w9 ⟨rfl, hv⟩; rw [hv]; clear hv))
              clear x6 f6 er h50 h51 N
              have N := N2
              clear N2
              generalize (W14.alloc (.cells #[.int .i64 0, .int .i64 0, .int .i64 10, .int .i64 1, .int .i64 9] 24)).setCell ⟨g, 6, none⟩ (.int .i64 (errZ (t5 : Int))) = W15 at *
              obtain ⟨Y, hY⟩ : ∃ Y : Dn, ({ x with who := a1, place := a2, fr := fr2, to := fr2 + modI x.to 6, op := 5, e := errZ (t5 : Int) } : Dn) = Y := ⟨_, rfl⟩
              rw [hY] at N
              have EY : Hid (y = Y) := by show _ = _; rw [EX.out, EV.out, EO.out, hY]
              clear hY EX
              have EX := EY
              clear EY
              have x0 := N.out.at_ 0 _ rfl
              have x1 := N.out.at_ 1 _ rfl
              have x2 := N.out.at_ 2 _ rfl
              have x3 := N.out.at_ 3 _ rfl
              have x4 := N.out.at_ 4 _ rfl
              have x5 := N.out.at_ 5 _ rfl
              have x6 := N.out.at_ 6 _ rfl
              have x7 := N.out.at_ 7 _ rfl
              have x8 := N.out.at_ 8 _ rfl
              have x9 := N.out.at_ 9 _ rfl
              have x10 := N.out.at_ 10 _ rfl
              have x11 := N.out.at_ 11 _ rfl
              have z0 := N.out.zt 0 _ rfl
              have z1 := N.out.zt 1 _ rfl
              have z2 := N.out.zt 2 _ rfl
              have z3 := N.out.zt 3 _ rfl
              have z4 := N.out.zt 4 _ rfl
              have z5 := N.out.zt 5 _ rfl
              have z6 := N.out.zt 6 _ rfl
              have z7 := N.out.zt 7 _ rfl
              have z8 := N.out.zt 8 _ rfl
              have z9 := N.out.zt 9 _ rfl
              have z10 := N.out.zt 10 _ rfl
              have z11 := N.out.zt 11 _ rfl
              have q0 := N.out.fz2 0
              have q1 := N.out.fz2 1
              have q2 := N.out.fz2 2
              have q3 := N.out.fz2 3
              have q4 := N.out.fz2 4
              have q5 := N.out.fz2 5
              have q6 := N.out.fz2 6
              have q7 := N.out.fz2 7
              have q8 := N.out.fz2 8
              have q9 := N.out.fz2 9
              have q10 := N.out.fz2 10
              have q11 := N.out.fz2 11
              have OX := Lib.hid (N.out.fin Y)
              go_wp2_with fail
              refine bodyPost_ret (v := .agg #[.int .i64 Y.who, .int .i64 Y.place, .int .i64 Y.op, .int .i64 Y.f, .int .i64 Y.a, .int .i64 Y.b, .int .i64 Y.e, .slice Y.A Y.m Y.c, .int .i64 Y.n, .int .u64 Y.v, .int .i64 Y.fr, .int .i64 Y.to]) ?_ rfl ?_
              · rw [results_cell1 rfl]; go_simp
              · exact ⟨by rw [EX.out], OX.out⟩
            · have d3 : decide (modI x.a 3 > 0) = false := decide_eq_false ha
              have d4 : decide (0 < modI x.a 3) = false := decide_eq_false ha
              have EO : Hid ((if modI x.a 3 > 0 then (5 : Int) else 1 + modI x.op 7) = 1 + modI x.op 7) := if_neg ha
              clear ha
              have x4 : W11.cell? ⟨g, 4, none⟩ = some (.int .i64 x.a) := N.out.at_ 4 _ rfl
              go_upto_region 14 with (go_at_call 5; refine (md.out _ _ (by decide) (by decide) _).mono ?_; rintro e w9 ⟨rfl, hv⟩; rw [hv]; clear hv)
              clear x4
              obtain ⟨W14, hW14⟩ : ∃ V, W11 = V := ⟨_, rfl⟩
              subst hW14
              have x6 : (W11.alloc (.cells #[.int .i64 0, .int .i64 0, .int .i64 10, .int .i64 1, .int .i64 9] 24)).cell? ⟨g, 6, none⟩ = some (.int .i64 x.e) := (N.out.alloc (.cells #[.int .i64 0, .int .i64 0, .int .i64 10, .int .i64 1, .int .i64 9] 24)).at_ 6 _ rfl
              have f6 := (N.out.alloc (.cells #[.int .i64 0, .int .i64 0, .int .i64 10, .int .i64 1, .int .i64 9] 24)).fz 6
              have er := errs_at W11 t5 hlt5
              have N2 : Hid (NB w ((W11.alloc (.cells #[.int .i64 0, .int .i64 0, .int .i64 10, .int .i64 1, .int .i64 9] 24)).setCell ⟨g, 6, none⟩ (.int .i64 (errZ (t5 : Int)))) g { x with who := a1, place := a2, fr := fr2, to := fr2 + modI x.to 6, op := 1 + modI x.op 7, e := errZ (t5 : Int) } z) := (N.out.alloc _).set 6 (.int .i64 (errZ (t5 : Int))) _ (by decide) rfl
              have h50 : (t5 : Int) < 5 := by omega
              have h51 : decide ((t5 : Int) < 5) = true := decide_eq_true h50
              go_upto_region 15 with (first | (go_at_call 5; refine (M5.out _).mono ?_; rintro e w9 ⟨rfl, hv⟩; rw [hv]; clear hv))
              clear x6 f6 er h50 h51 N
              have N := N2
              clear N2
              generalize (W11.alloc (.cells #[.int .i64 0, .int .i64 0, .int .i64 10, .int .i64 1, .int .i64 9] 24)).setCell ⟨g, 6, none⟩ (.int .i64 (errZ (t5 : Int))) = W15 at *
              obtain ⟨Y, hY⟩ : ∃ Y : Dn, ({ x with who := a1, place := a2, fr := fr2, to := fr2 + modI x.to 6, op := 1 + modI x.op 7, e := errZ (t5 : Int) } : Dn) = Y := ⟨_, rfl⟩
              rw [hY] at N
              have EY : Hid (y = Y) := by show _ = _; rw [EX.out, EV.out, EO.out, hY]
              clear hY EX
              have EX := EY
              clear EY
              have x0 := N.out.at_ 0 _ rfl
              have x1 := N.out.at_ 1 _ rfl
              have x2 := N.out.at_ 2 _ rfl
              have x3 := N.out.at_ 3 _ rfl
              have x4 := N.out.at_ 4 _ rfl
              have x5 := N.out.at_ 5 _ rfl
              have x6 := N.out.at_ 6 _ rfl
              have x7 := N.out.at_ 7 _ rfl
              have x8 := N.out.at_ 8 _ rfl
              have x9 := N.out.at_ 9 _ rfl
              have x10 := N.out.at_ 10 _ rfl
              have x11 := N.out.at_ 11 _ rfl
              have z0 := N.out.zt 0 _ rfl
              have z1 := N.out.zt 1 _ rfl
              have z2 := N.out.zt 2 _ rfl
              have z3 := N.out.zt 3 _ rfl
              have z4 := N.out.zt 4 _ rfl
              have z5 := N.out.zt 5 _ rfl
              have z6 := N.out.zt 6 _ rfl
              have z7 := N.out.zt 7 _ rfl
              have z8 := N.out.zt 8 _ rfl
              have z9 := N.out.zt 9 _ rfl
              have z10 := N.out.zt 10 _ rfl
              have z11 := N.out.zt 11 _ rfl
              have q0 := N.out.fz2 0
              have q1 := N.out.fz2 1
              have q2 := N.out.fz2 2
              have q3 := N.out.fz2 3
              have q4 := N.out.fz2 4
              have q5 := N.out.fz2 5
              have q6 := N.out.fz2 6
              have q7 := N.out.fz2 7
              have q8 := N.out.fz2 8
              have q9 := N.out.fz2 9
              have q10 := N.out.fz2 10
              have q11 := N.out.fz2 11
              have OX := Lib.hid (N.out.fin Y)
              go_wp2_with fail
              refine bodyPost_ret (v := .agg #[.int .i64 Y.who, .int .i64 Y.place, .int .i64 Y.op, .int .i64 Y.f, .int .i64 Y.a, .int .i64 Y.b, .int .i64 Y.e, .slice Y.A Y.m Y.c, .int .i64 Y.n, .int .u64 Y.v, .int .i64 Y.fr, .int .i64 Y.to]) ?_ rfl ?_
              · rw [results_cell1 rfl]; go_simp
              · exact ⟨by rw [EX.out], OX.out⟩
end Go.Proofs.Ytaaolacfhdfagaa
