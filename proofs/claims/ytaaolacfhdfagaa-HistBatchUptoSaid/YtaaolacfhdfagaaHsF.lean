/-
  Ours: Right, Ended, Most (slices.SortFunc by the shelf).
-/
import Derived.Test.YtaaolacfhdfagaaHsM
import Derived.Test.YtaaolacfhdfagaaHsE
import Derived.Test.YtaaolacfhdfagaaHsC
import Derived.Test.YtaaolacfhdfagaaHsL
import Derived.Lib.MinMax
namespace Go.Proofs.Ytaaolacfhdfagaa
set_option maxRecDepth 100000
open Go.RowKit
set_option linter.unusedVariables false
set_option linter.unusedSimpArgs false
set_option maxRecDepth 100000

open Go.Shelf Go.Lib Go.Sort
set_option maxHeartbeats 1000000

/-! ### the sort -/
theorem cmpZ_lt (x y : Int) : cmpZ x y < 0 ↔ x < y := by
  unfold cmpZ
  split
  · simp [*]
  · split <;> simp <;> omega
theorem lt_F (x y : Dn) : ltOf cmpF x y = decide (x.fr < y.fr) := by
  unfold ltOf cmpF
  simp only [cmpZ_lt]
theorem lt_T (x y : Dn) : ltOf cmpT x y = decide (x.to < y.to) := by
  unfold ltOf cmpT
  simp only [cmpZ_lt]
theorem cmpP_lt (x y : Dn) : cmpP x y < 0 ↔ x.who < y.who ∨ x.who = y.who ∧ x.place < y.place := by
  unfold cmpP orZ cmpZ
  rcases Int.lt_trichotomy x.who y.who with h | h | h
  · simp [h]
  · simp [h]
    split
    · simp [*]
    · split <;> simp <;> omega
  · have h1 : ¬ x.who < y.who := by omega
    have h2 : ¬ x.who = y.who := by omega
    simp [h, h1, h2]
theorem lt_P (x y : Dn) : ltOf cmpP x y = decide (x.who < y.who ∨ x.who = y.who ∧ x.place < y.place) := by
  unfold ltOf
  simp only [cmpP_lt]
theorem swoF : SWO (ltOf cmpF) where
  irrefl x := by rw [lt_F]; simp
  trans x y z h1 h2 := by rw [lt_F] at *; simp at *; omega
  ntrans x y z h1 h2 := by rw [lt_F] at *; simp at *; omega
theorem swoT : SWO (ltOf cmpT) where
  irrefl x := by rw [lt_T]; simp
  trans x y z h1 h2 := by rw [lt_T] at *; simp at *; omega
  ntrans x y z h1 h2 := by rw [lt_T] at *; simp at *; omega
theorem swoP : SWO (ltOf cmpP) where
  irrefl x := by rw [lt_P]; simp
  trans x y z h1 h2 := by rw [lt_P] at *; simp at *; omega
  ntrans x y z h1 h2 := by rw [lt_P] at *; simp only [decide_eq_false_iff_not] at *; omega
theorem kSortG (cf : Dn → Dn → Int) (hO : SWO (ltOf cf)) (g : Nat) (eg : ∀ args w, (callFunc g args).run Try.prog w = .ok (.enter g args) w)
    (hc : ∀ (x y : Dn) (w : World), Calls Try.prog g #[.agg #[.int .i64 x.who, .int .i64 x.place, .int .i64 x.op, .int .i64 x.f, .int .i64 x.a, .int .i64 x.b, .int .i64 x.e, .slice x.A x.m x.c, .int .i64 x.n, .int .u64 x.v, .int .i64 x.fr, .int .i64 x.to], .agg #[.int .i64 y.who, .int .i64 y.place, .int .i64 y.op, .int .i64 y.f, .int .i64 y.a, .int .i64 y.b, .int .i64 y.e, .slice y.A y.m y.c, .int .i64 y.n, .int .u64 y.v, .int .i64 y.fr, .int .i64 y.to]] w fun e w' => e = .returned (.int .i64 (cf x y)) ∧ ∃ q os, w' = grow (w.drewN q) os)
    (w : World) (A : Option Addr) (n c : Nat) (L : List Dn) (h : kE.Row w (.slice A n c) L) (hl : n ≤ 1000000) :
    Calls Try.prog 24 #[.slice A n c, .func (.func g) #[] #[]] w fun e w' =>
      e = .returned (.tuple #[]) ∧ ∃ M, (M.Perm L ∧ M.Pairwise fun x y => ltOf cf y x = false) ∧ kE.Row w' (.slice A n c) M ∧ Only (Value.slice A n c).ownBlock.toList w w' := by
  obtain rfl : n = L.length := h.lenOf.symm
  by_cases h0 : 0 < L.length
  · obtain ⟨b, cap', cur, e, -, -, hg, -⟩ := h.at_ h0
    injection e with e1 e2 e3
    subst e1
    have hcon := AnyQ.slices_SortFunc Try.sortCalls 12 Try.isAgg41 Try.sizeOf41 kE.cs kE.len kE.one cf hO g #[] b 0 c L.toArray w eg (fun _ _ _ _ x y => hc x y _) h.holds hg (by simp; omega)
    change Calls Try.prog 24 _ _ _ at hcon
    simp only [List.size_toArray] at hcon
    refine hcon.mono ?_
    rintro e w' ⟨rfl, d, n, os, hP, hS, rfl⟩
    obtain ⟨hsz, _, hperm⟩ := hP
    have hdl : d.size = L.length := by simpa using hsz
    have e1 : d.extract 0 L.length = d := by rw [← hdl]; exact Array.extract_size
    have e2 : L.toArray.extract 0 L.length = L.toArray := by simp
    rw [e1, e2] at hperm
    refine ⟨rfl, d.toList, ⟨by simpa using hperm, ?_⟩, ?_, by simpa [Value.ownBlock] using kE.sort_only w b n d os⟩
    · rw [List.pairwise_iff_getElem]
      intro i j hi hj hij
      have hi' : i < d.size := by simpa using hi
      have hj' : j < d.size := by simpa using hj
      have := hS i j (Nat.zero_le _) hij (by omega)
      rw [getElem!_pos d j hj', getElem!_pos d i hi'] at this
      simpa using this
    · have := h.sorted (ys := d.toList) n os (by simpa using hdl)
      simpa using this
  · have hx : L = [] := List.length_eq_zero_iff.1 (by omega)
    subst hx
    have hcon := AnyF.slices_SortFunc_none Try.sortCalls A c (.func (.func g) #[] #[]) w
    change Calls Try.prog 24 _ _ _ at hcon
    refine hcon.mono ?_
    rintro e w' ⟨rfl, rfl⟩
    exact ⟨rfl, [], ⟨List.Perm.refl _, List.Pairwise.nil⟩, h, Only.refl _ _⟩
theorem kSortF (w : World) (A : Option Addr) (n c : Nat) (L : List Dn) (h : kE.Row w (.slice A n c) L) (hl : n ≤ 1000000) :
    Calls Try.prog 24 #[.slice A n c, .func (.func 33) #[] #[]] w fun e w' =>
      e = .returned (.tuple #[]) ∧ ∃ M, (M.Perm L ∧ M.Pairwise fun x y => x.fr ≤ y.fr) ∧ kE.Row w' (.slice A n c) M ∧ Only (Value.slice A n c).ownBlock.toList w w' :=
  (kSortG cmpF swoF _ (enters_of Try.func33 (by kernel_rfl) rfl) kByFrom w A n c L h hl).mono fun e w' ⟨he, M, ⟨h1, h2⟩, r, o⟩ => ⟨he, M, ⟨h1, h2.imp fun {x y} h => by rw [lt_F] at h; simp at h; exact h⟩, r, o⟩
theorem kSortT (w : World) (A : Option Addr) (n c : Nat) (L : List Dn) (h : kE.Row w (.slice A n c) L) (hl : n ≤ 1000000) :
    Calls Try.prog 24 #[.slice A n c, .func (.func 34) #[] #[]] w fun e w' =>
      e = .returned (.tuple #[]) ∧ ∃ M, (M.Perm L ∧ M.Pairwise fun x y => x.to ≤ y.to) ∧ kE.Row w' (.slice A n c) M ∧ Only (Value.slice A n c).ownBlock.toList w w' :=
  (kSortG cmpT swoT _ (enters_of Try.func34 (by kernel_rfl) rfl) kByTo w A n c L h hl).mono fun e w' ⟨he, M, ⟨h1, h2⟩, r, o⟩ => ⟨he, M, ⟨h1, h2.imp fun {x y} h => by rw [lt_T] at h; simp at h; exact h⟩, r, o⟩
theorem kSortP (w : World) (A : Option Addr) (n c : Nat) (L : List Dn) (h : kE.Row w (.slice A n c) L) (hl : n ≤ 1000000) :
    Calls Try.prog 24 #[.slice A n c, .func (.func 25) #[] #[]] w fun e w' =>
      e = .returned (.tuple #[]) ∧ ∃ M, (M.Perm L ∧ M.Pairwise LeP) ∧ kE.Row w' (.slice A n c) M ∧ Only (Value.slice A n c).ownBlock.toList w w' :=
  (kSortG cmpP swoP _ (enters_of Try.func25 (by kernel_rfl) rfl) kByPlace w A n c L h hl).mono fun e w' ⟨he, M, ⟨h1, h2⟩, r, o⟩ => ⟨he, M, ⟨h1, h2.imp fun {x y} h => by rw [lt_P] at h; simp only [decide_eq_false_iff_not] at h; unfold LeP; omega⟩, r, o⟩

/-! ### Right -/
theorem cRight (A : Option Addr) (n c : Nat) (L : List Dn) (u : World) (hL : L.length = n) (hb : n ≤ 1000000) (h : Dns u A L) :
    Calls Try.prog 15 #[.slice A n c] u fun e w' => e = .returned (.bool (rightB L)) ∧ Only [] u w' := by
  have k1 := kCalls u A n c L hL hb h
  have HB := Lib.hid hb
  clear h hL
  go_enter Try.func15, Try.ntmps15
  go_wp2_with fail
  refine k1.mono ?_
  rintro e w1 ⟨g, rfl, r1, hg, o1⟩
  have k2 := kSortP w1 _ n n L r1 HB.out
  have O1 := Lib.hid (And.intro o1 hg)
  clear k1 r1 o1 hg
  go_wp2_with fail
  refine k2.mono ?_
  rintro e w2 ⟨rfl, M, hM, r2, o2⟩
  have O2 : Hid (Only [] u w2) := O1.out.1.trans o2 (fun k hk => by simp [Value.ownBlock] at hk; subst hk; exact .inr O1.out.2.1)
  have HM := Lib.hid hM
  have R2 := Lib.hid r2
  have hml := r2.lenOf
  have E : Hid (rightB L = (!M.any wrongB && !adjB M)) := rightB_is ((right_sorted hM.2).trans (RightP.perm_iff hM.1))
  have k3 := kHasW w2 _ n n M hml HB.out (Dns.of_row rfl r2)
  have k4 := Lib.hid (fun (V : World) (o : Only [] w2 V) => kAdj V _ n n M hml HB.out ((Dns.of_row (E := kE) rfl r2).only0 o))
  clear k2 r2 o2 hM hml
  generalize M.any wrongB = b1 at *
  generalize adjB M = b2 at *
  rcases b1
  · go_wp2_with fail
    refine k3.mono ?_
    rintro e w3 ⟨rfl, o3⟩
    have O3 := Lib.hid o3
    have k5 := k4.out w3 o3
    clear k3 o3
    go_wp2_with fail
    refine k5.mono ?_
    rintro e w4 ⟨rfl, o4⟩
    have O4 := Lib.hid ((O2.out.trans' O3.out).trans' o4)
    clear k5 o4
    go_wp2_with fail
    go_ret
    exact ⟨by rw [E.out]; rfl, O4.out⟩
  · go_wp2_with fail
    refine k3.mono ?_
    rintro e w3 ⟨rfl, o3⟩
    have O3 := Lib.hid (O2.out.trans' o3)
    clear k3 o3
    go_wp2_with fail
    go_ret
    exact ⟨by rw [E.out]; rfl, O3.out⟩

/-! ### Ended -/
theorem cEnded (A : Option Addr) (n c : Nat) (L : List Dn) (u : World) (hL : L.length = n) (hb : n ≤ 1000000) (h : Dns u A L) :
    Calls Try.prog 16 #[.slice A n c] u fun e w' => e = .returned (.bool (!L.any opn)) ∧ Only [] u w' := by
  have k1 := kCalls u A n c L hL hb h
  have HB := Lib.hid (And.intro hb hL)
  clear h hL
  generalize hq : L.any opn = q
  have HQ := Lib.hid hq
  clear hq
  go_enter Try.func16, Try.ntmps16
  go_wp2_with fail
  refine k1.mono ?_
  rintro e w1 ⟨g, rfl, r1, hg, o1⟩
  have k2 := kHasO w1 _ n n L HB.out.2 HB.out.1 (Dns.of_row rfl r1)
  rw [HQ.out] at k2
  have O1 := Lib.hid o1
  clear k1 r1 o1 hg
  go_wp2_with fail
  refine k2.mono ?_
  rintro e w2 ⟨rfl, o2⟩
  have O2 := Lib.hid (O1.out.trans' o2)
  clear k2 o2
  go_wp2_with fail
  go_ret
  exact ⟨rfl, O2.out⟩
end Go.Proofs.Ytaaolacfhdfagaa
