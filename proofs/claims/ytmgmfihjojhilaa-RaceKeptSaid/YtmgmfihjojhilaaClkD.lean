/-
  slices.Clone at ints; copy of ints; clock.Tick; Own and Kept.
-/
import Derived.Test.YtmgmfihjojhilaaClkC
import Derived.Lib.SliceRun
namespace Go.Proofs.Ytmgmfihjojhilaa
set_option maxRecDepth 100000
open Go.RowKit
set_option linter.unusedVariables false
set_option linter.unusedSimpArgs false
set_option maxRecDepth 100000

/-! ### copy -/
theorem Only.setCells (b : Nat) : ∀ (vs : List Value) (o : Nat) (w : World), Only [b] w (w.setCells b o vs)
  | [], _, w => Only.refl _ w
  | v :: r, o, w => ((Only.refl [b] w).setCell (p := ⟨b, o, none⟩) (.inl (by simp)) v).trans' (Only.setCells b r (o + 1) _)
theorem info_int : (Try.prog.info? 3).map (·.size) = some 1 := by kernel_rfl
section
variable {w : World} {ops : Array Oper} {o : Oper} {a : Act} {K : Act → World → Prop} {Q : Exit → Act → World → Prop}
/-- A list copied over the first numbers of a new row that is no shorter. -/
theorem wp_copyI (d s : Operand) (ho : o.op = .call { callee := .builtin .copy, args := #[d, s], argTypes := #[23, 23] })
    (B g : Nat) (dLen dCap : Nat) (ys : List Int) (A : Option Addr) (m c : Nat) (xs : List Int) (hd : a.eval d = .slice (some ⟨g, 0, none⟩) dLen dCap) (hs : a.eval s = .slice A m c)
    (hy : Nums B w (some ⟨g, 0, none⟩) ys) (hyl : ys.length = dLen) (hx : Nums 0 w A xs) (hxl : xs.length = m) (hml : m ≤ dLen)
    (hK : ∀ w', Nums B w' (some ⟨g, 0, none⟩) (xs ++ ys.drop m) → Only [g] w w' → K (a.put o.dst (goInt m)) w') : o.wp Try.prog a w K Q := by
  have hmin : Nat.min m dLen = m := by simp [Nat.min_def]; omega
  by_cases h0 : m = 0
  · subst h0
    obtain rfl : xs = [] := List.eq_nil_of_length_eq_zero hxl
    have r1 := run_copy_none (P := Try.prog) w 23 23 o.type 3 (some ⟨g, 0, none⟩) A dLen dCap 0 c Try.underlying23 info_int hmin
    unfold Oper.wp execOp
    simp only [ho, resolve, invoke, builtin, Sem.run_bind, Sem.run_pure, Result.andThen_ok, List.map_toArray, List.map_cons, List.map_nil, hd, hs, r1]
    exact hK w (by simpa using hy) (Only.refl _ w)
  · obtain ⟨ad, rfl, hsrc⟩ := hx.src (by rintro rfl; simp at hxl; omega)
    rw [iflat] at hsrc
    have r1 := run_copy_cells (P := Try.prog) w 23 23 o.type 3 g 0 dLen dCap ad m c (xs.map (Value.int .i64)) Try.underlying23 info_int (by rw [List.length_map, hxl, hmin]) hsrc
      (fun j hj => by
        rw [List.length_map] at hj
        obtain ⟨g', e, _, hc, _⟩ := hy j _ (gC_get (by omega))
        injection e with e
        injection e with e
        subst e
        rw [Nat.zero_add, hc]; rfl)
      (fun j hj => by
        rw [List.length_map] at hj
        obtain ⟨g', e, _, _, hf⟩ := hy j _ (gC_get (by omega))
        injection e with e
        injection e with e
        subst e
        rw [Nat.zero_add]; exact hf)
      (fun v hv => by
        rw [List.mem_map] at hv
        obtain ⟨x, _, rfl⟩ := hv
        rfl)
    rw [List.length_map, hxl] at r1
    unfold Oper.wp execOp
    simp only [ho, resolve, invoke, builtin, Sem.run_bind, Sem.run_pure, Result.andThen_ok, List.map_toArray, List.map_cons, List.map_nil, hd, hs, r1]
    refine hK _ (fun k x hk => ?_) (Only.setCells g _ 0 w)
    by_cases hkm : k < m
    · rw [List.getElem?_append_left (by omega)] at hk
      obtain ⟨g', e, hB, hc, hf⟩ := hy k _ (gC_get (by omega))
      injection e with e
      injection e with e
      subst e
      refine ⟨g, rfl, hB, ?_, by rw [World.frozen?_setCells]; exact hf⟩
      have h9 := World.cell?_setCells_in g (xs.map (Value.int .i64)) 0 w (fun j hj => by
        rw [List.length_map] at hj
        obtain ⟨g', e, _, hc, _⟩ := hy j _ (gC_get (by omega))
        injection e with e
        injection e with e
        subst e
        rw [Nat.zero_add, hc]; rfl) k (by rw [List.length_map]; omega)
      rw [Nat.zero_add] at h9
      rw [h9, List.getElem_map]
      have h8 := (List.getElem?_eq_some_iff.1 hk).2
      rw [h8]
    · rw [List.getElem?_append_right (by omega), List.getElem?_drop] at hk
      rw [show m + (k - xs.length) = k by omega] at hk
      obtain ⟨g', e, hB, hc, hf⟩ := hy k x hk
      injection e with e
      injection e with e
      subst e
      refine ⟨g, rfl, hB, ?_, by rw [World.frozen?_setCells]; exact hf⟩
      rw [World.cell?_setCells_out g _ 0 w ⟨g, k, none⟩ (fun _ _ => .inr (by rw [List.length_map]; simp; omega))]
      exact hc
theorem wpList_copyI {rest : List Oper} (hgd : o.guard = none) (d s : Operand) (ho : o.op = .call { callee := .builtin .copy, args := #[d, s], argTypes := #[23, 23] })
    (B g : Nat) (dLen dCap : Nat) (ys : List Int) (A : Option Addr) (m c : Nat) (xs : List Int) (hd : a.eval d = .slice (some ⟨g, 0, none⟩) dLen dCap) (hs : a.eval s = .slice A m c)
    (hy : Nums B w (some ⟨g, 0, none⟩) ys) (hyl : ys.length = dLen) (hx : Nums 0 w A xs) (hxl : xs.length = m) (hml : m ≤ dLen)
    (hK : ∀ w', Nums B w' (some ⟨g, 0, none⟩) (xs ++ ys.drop m) → Only [g] w w' → wpList Try.prog ops Q rest (a.put o.dst (goInt m)) w') : wpList Try.prog ops Q (o :: rest) a w :=
  wpList_plain hgd fun _ hK' => wp_copyI d s ho B g dLen dCap ys A m c xs hd hs hy hyl hx hxl hml fun w' h2 h3 => hK' _ _ (hK w' h2 h3)
end

/-! ### Clone -/
set_option maxHeartbeats 1000000 in
theorem cClone (A : Option Addr) (m c : Nat) (xs : List Int) (w : World) (hm : xs.length = m) (hb : m ≤ 100000) (h : Nums 0 w A xs) (hn : A = none → m = 0 ∧ c = 0) :
    Calls Try.prog 57 #[.slice A m c] w (Fresh w xs) := by
  have q22 : ∀ (w : World) (a : Option Addr) (n c n' c' : Nat), (binOp .eql 23 (.slice a n c) (.slice none n' c')).run Try.prog w = .ok (.bool a.isNone) w := fun w a n c n' c' => Lib.run_eql_slice_nil w _ _ a n c n' c' Try.underlying23
  rcases A with _ | ad
  · obtain ⟨rfl, rfl⟩ := hn rfl
    obtain rfl : xs = [] := List.eq_nil_of_length_eq_zero hm
    clear h hn hm
    go_enter Try.func57, Try.ntmps57
    go_wp2_with fail
    go_ret
    exact ⟨none, 0, rfl, Nums.nil _ _ _, Only.refl [] w, fun _ => ⟨rfl, rfl⟩⟩
  · have HO : Hid (Only [] w (w.alloc (.cells #[] 3))) := (Only.refl [] w).alloc _
    have hr0 : Hid (Fr w (w.alloc (.cells #[] 3)) (some ⟨w.heap.size, 0, none⟩) 0 0 []) := ⟨⟨rfl, .inr ⟨w.heap.size, 0, #[], rfl, Nat.zero_le _, heap_alloc_new w _, Nat.le_refl _, Nat.zero_le _, rfl, rfl⟩⟩, rfl, fun k hk => by simp [Value.ownBlock] at hk; omega, HO.out⟩
    have hsrc := Lib.hid (h.only0 HO.out).src
    have HL := Lib.hid hm
    clear h hn hm
    go_enter Try.func57, Try.ntmps57
    go_wp2_with (first
      | (at_builtin
         refine El.wpList_append (E := iE) Try.underlying23 rfl (.tmp 5) (.tmp 6) rfl (.slice (some ⟨w.heap.size, 0, none⟩) 0 0) [] rfl hr0.out.row _ m c xs rfl HL.out hsrc.out m (by simp) (by omega) ?_
         intro A1 cap1 w1 r1 g1 l1
         have R1 : Hid (Fr w w1 A1 m cap1 xs) := ⟨r1, HL.out, fun k hk => by (rcases l1 with l1 | l1 <;> rw [l1] at hk <;> simp [Value.ownBlock] at hk; all_goals omega), HO.out.grown g1 (by simp [Value.ownBlock])⟩
         clear r1 g1 l1))
    go_ret
    exact R1.out.fresh

/-! ### Tick -/
set_option maxHeartbeats 4000000 in
theorem cTick (A : Option Addr) (m c : Nat) (xs : List Int) (i : Int) (w : World) (hm : xs.length = m) (hb : m ≤ 100000) (h : Nums 0 w A xs) (hnil : A = none → m = 0 ∧ c = 0) :
    Calls Try.prog 42 #[.slice A m c, .int .i64 i] w (Fresh w (tickM xs i)) := by
  by_cases hi : i < 0 ∨ 63 < i
  · rw [tickM_out hi]
    have hcl := cClone A m c xs w hm hb h hnil
    clear h hnil hm
    rcases hi with hi | hi
    · go_enter Try.func42, Try.ntmps42
      go_wp2_with fail
      refine hcl.mono ?_
      rintro e w1 ⟨A1, cap1, rfl, h1, o1, z1⟩
      clear hcl
      have F : Hid (Fresh w xs (.returned (.slice A1 xs.length cap1)) w1) := ⟨A1, cap1, rfl, h1, o1, z1⟩
      clear h1 o1 z1
      go_wp2_with fail
      go_ret
      exact F.out
    · have hn : ¬ (i < 0) := by omega
      go_enter Try.func42, Try.ntmps42
      go_wp2_with fail
      refine hcl.mono ?_
      rintro e w1 ⟨A1, cap1, rfl, h1, o1, z1⟩
      clear hcl
      have F : Hid (Fresh w xs (.returned (.slice A1 xs.length cap1)) w1) := ⟨A1, cap1, rfl, h1, o1, z1⟩
      clear h1 o1 z1
      go_wp2_with fail
      go_ret
      exact F.out
  · obtain ⟨k, rfl⟩ := Int.eq_ofNat_of_zero_le (by omega : 0 ≤ i)
    have hk : k ≤ 63 := by omega
    have E := Lib.hid (tickM_pad xs hk)
    rw [E.out]
    have HL := Lib.hid hm
    obtain ⟨M, hM⟩ : ∃ M : Nat, max m (k + 1) = M := ⟨_, rfl⟩
    have e2 : max xs.length (k + 1) = M := by rw [hm]; exact hM
    rw [e2]
    have HM := Lib.hid hM
    have hmx : max (m : Int) ((k : Int) + 1) = (M : Int) := by omega
    have hMb : M ≤ 200000 := by omega
    have hkM : k < M := by omega
    have hmM : m ≤ M := by omega
    have hn : ¬ ((k : Int) < 0) := by omega
    have hn2 : ¬ (63 < (k : Int)) := by omega
    have hn3 : decide (63 < (k : Int)) = false := decide_eq_false hn2
    have hmk := El.run_make_ (E := iE) Try.underlying23 w M M (Nat.le_refl _) (by omega)
    have oA : Only [] w (w.alloc (.cells (madeCells iE.z.cells (M * 1)) iE.T)) := (Only.refl [] w).alloc _
    have hr0 : Nums w.heap.size (w.alloc (.cells (madeCells iE.z.cells (M * 1)) iE.T)) (some ⟨w.heap.size, 0, none⟩) (List.replicate M 0) := Nums.of_row (El.Row.made (E := iE) 0 rfl w M (by omega)) (fun g hg => by simp [Value.ownBlock] at hg; omega)
    have H0 := Lib.hid (And.intro oA (And.intro hr0 (h.only0 oA)))
    clear h hm hi hM e2 oA hr0 hnil
    generalize w.alloc (.cells (madeCells iE.z.cells (M * 1)) iE.T) = W at *
    obtain ⟨G, eG⟩ : ∃ G, w.heap.size = G := ⟨_, rfl⟩
    have HG := Lib.hid eG
    rw [eG] at hmk H0
    clear eG
    have hpad : Hid (xs ++ (List.replicate M (0 : Int)).drop m = padM xs M) := by
      show _ = _
      have hxl := HL.out
      refine gC_ext (by simp [padM_len]; omega) fun j => ?_
      unfold padM
      by_cases hj : j < M
      · rw [gC_tab _ _ hj]
        by_cases hjm : j < m
        · simp [gC, List.getElem?_append_left (by omega : j < xs.length)]
        · rw [gC_out (xs := xs) (by omega)]
          unfold gC
          rw [List.getElem?_append_right (by omega), List.getElem?_drop, List.getElem?_replicate]
          split <;> rfl
      · rw [gC_out (by simp; omega), gC_out (by rw [tabC_len]; omega)]
    go_enter Try.func42, Try.ntmps42
    go_wp2_with (first
      | (with_reducible refine wpList_copyI rfl (.tmp 20) (.tmp 21) rfl G G M M (List.replicate M 0) A m c xs rfl rfl H0.out.2.1 (by simp) H0.out.2.2 HL.out hmM ?_
         intro w1 h1 o1
         rw [hpad.out] at h1
         obtain ⟨g, eg, _, x0, xf0⟩ := h1 k _ (padM_at xs hkM)
         injection eg with eg
         injection eg with eg
         subst eg
         have R1 := Lib.hid (And.intro h1 o1)
         clear h1 o1))
    go_ret
    have hz := HG.out
    refine ⟨some ⟨G, 0, none⟩, M, by simp [padM_len], ?_, ?_, fun e => by cases e⟩
    · rw [hz]; exact R1.out.1.store k _
    · exact (H0.out.1.trans R1.out.2 (fun j hj => .inr (by simp at hj; omega))).setCell (.inr (by show _ ≤ G; omega)) _
end Go.Proofs.Ytmgmfihjojhilaa
