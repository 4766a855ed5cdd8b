/-
  Rows of clocks; the document's Clocks.
-/
import Derived.Test.YtmgmfihjojhilaaRcN
import Derived.Test.YtmgmfihjojhilaaRcB
import Derived.Test.YtmgmfihjojhilaaRcC
import Derived.Test.YtmgmfihjojhilaaClkC
namespace Go.Proofs.Ytmgmfihjojhilaa
set_option maxRecDepth 100000
open Go.RowKit
set_option linter.unusedVariables false
set_option linter.unusedSimpArgs false
set_option maxRecDepth 100000

/-- Slices in a row. -/
def hE : El Sl 1 where
  T := 23
  cs := fun s => [.slice s.A s.n s.c]
  z := .slice none 0 0
  wide := 24
  len := fun _ => rfl
  one := fun x u hu => by
    simp at hu
    subst hu
    rfl
  pos := by decide
  info := by kernel_rfl
  zs := rfl
  small := by decide
/-- A slice that holds these numbers, in block g, which is not below S. -/
structure Tp (S : Nat) (w : World) (s : Sl) (x : List Int) (g : Nat) : Prop where
  at_ : s.A = some ⟨g, 0, none⟩
  ge : S ≤ g
  lt : g < w.heap.size
  nums : Nums S w s.A x
  len : x.length = s.n
theorem Tp.only {S : Nat} {w w' : World} {s : Sl} {x : List Int} {g : Nat} (h : Tp S w s x g) {T : List Nat} (ho : Only T w w') (hT : g ∉ T) : Tp S w' s x g :=
  ⟨h.at_, h.ge, Nat.lt_of_lt_of_le h.lt ho.size, h.nums.only ho (fun g' e _ _ _ => by rw [h.at_] at e; injection e with e; injection e with e; subst e; exact hT), h.len⟩
theorem Tp.mono {S S' : Nat} {w : World} {s : Sl} {x : List Int} {g : Nat} (h : Tp S w s x g) (hS : S' ≤ S) : Tp S' w s x g := ⟨h.at_, Nat.le_trans hS h.ge, h.lt, h.nums.mono hS, h.len⟩
/-- What a call that made a list told. -/
theorem Fresh.tp {w w' : World} {x : List Int} {e : Ending} (h : Fresh w x e w') (hx : 0 < x.length) : ∃ (A : Option Addr) (n cap g : Nat), e = .returned (.slice A n cap) ∧ Tp w.heap.size w' ⟨A, n, cap⟩ x g ∧ Only [] w w' := by
  obtain ⟨A, cap, e1, hn, ho, _⟩ := h
  obtain ⟨g, e2, hg, hc, _⟩ := hn 0 _ (gC_get hx)
  exact ⟨A, x.length, cap, g, e1, ⟨e2, hg, World.block_lt_of_cell? w' _ hc, hn, rfl⟩, ho⟩
/-- A row of slices, of which the first q hold these lists, each in a block of its own. -/
structure CRow (S : Nat) (w : World) (A : Option Addr) (p cap : Nat) (hs : List Sl) (cs : Nat → List Int) (q : Nat) : Prop where
  row : hE.Row w (.slice A p cap) hs
  len : hs.length = p
  new : ∀ g, (Value.slice A p cap).ownBlock = some g → S ≤ g
  each : ∀ k, k < q → ∃ s g, hs[k]? = some s ∧ Tp S w s (cs k) g ∧ (Value.slice A p cap).ownBlock ≠ some g ∧ ∀ (j : Nat) (t : Sl), j < k → hs[j]? = some t → t.A ≠ s.A
section
variable {S : Nat} {w w' : World} {A : Option Addr} {p cap : Nat} {hs : List Sl} {cs : Nat → List Int} {q : Nat}
theorem CRow.only (h : CRow S w A p cap hs cs q) {T : List Nat} (ho : Only T w w') (h1 : ∀ g, (Value.slice A p cap).ownBlock = some g → g ∉ T) (h2 : ∀ g ∈ T, g < S) : CRow S w' A p cap hs cs q :=
  ⟨h.row.only ho h1, h.len, h.new, fun k hk => by
    obtain ⟨s, g, e, t, r⟩ := h.each k hk
    exact ⟨s, g, e, t.only ho (fun hg => by have := h2 g hg; have := t.ge; omega), r⟩⟩
theorem CRow.only0 (h : CRow S w A p cap hs cs q) (ho : Only [] w w') : CRow S w' A p cap hs cs q := h.only ho (by simp) (by simp)
theorem CRow.nil (S : Nat) (w : World) (cs : Nat → List Int) : CRow S w none 0 0 [] cs 0 := ⟨El.Row.nil _, rfl, fun g hg => by simp [Value.ownBlock] at hg, fun k hk => absurd hk (by omega)⟩
/-- Where the k-th lies. -/
theorem CRow.at_ (h : CRow S w A p cap hs cs q) {k : Nat} (hk : k < q) : ∃ gr g s, A = some ⟨gr, 0, none⟩ ∧ w.cell? ⟨gr, k, none⟩ = some (.slice s.A s.n s.c) ∧ hs[k]? = some s ∧ Tp S w s (cs k) g := by
  obtain ⟨s, g, e, t, _⟩ := h.each k hk
  obtain ⟨gr, e2, _, hc⟩ := h.row.cell e
  have c0 := (hc 0 _ rfl).1
  simp only [Nat.mul_one, Nat.add_zero] at c0
  exact ⟨gr, g, s, e2, c0, e, t⟩
/-- One more, by append of a row of one that was just built. -/
theorem CRow.snoc (h : CRow S w A p cap hs cs p) {s : Sl} {g : Nat} (ht : Tp S w s (cs p) g) (hf : (Value.slice A p cap).ownBlock ≠ some g) (hd : ∀ (k : Nat) (t : Sl), hs[k]? = some t → t.A ≠ s.A) {o : Obj} {A2 : Option Addr} {cap2 : Nat} {w2 : World}
    (h2 : hE.Row w2 (.slice A2 (p + 1) cap2) (hs ++ [s])) (hg : (w.alloc o).grownBy w2 (Value.slice A p cap).ownBlock) (hl : (Value.slice A2 (p + 1) cap2).ownBlock = (Value.slice A p cap).ownBlock ∨ (Value.slice A2 (p + 1) cap2).ownBlock = some (w.alloc o).heap.size) (hS : S ≤ w.heap.size) :
    CRow S w2 A2 (p + 1) cap2 (hs ++ [s]) cs (p + 1) := by
  have hl1 := h.len
  have oB : Only ((Value.slice A p cap).ownBlock.toList) w w2 := ((Only.refl _ w).alloc o).grown hg (fun k hk => .inl (by rw [hk]; simp))
  have tp : ∀ {s : Sl} {x : List Int} {g : Nat}, Tp S w s x g → (Value.slice A p cap).ownBlock ≠ some g → Tp S w2 s x g ∧ (Value.slice A2 (p + 1) cap2).ownBlock ≠ some g := fun {s x g} t hf => by
    refine ⟨t.only oB (fun hk => hf (by simpa using hk)), ?_⟩
    rcases hl with hl | hl
    · rw [hl]; exact hf
    · rw [hl, World.size_alloc]
      intro e
      injection e with e
      have := t.lt
      omega
  refine ⟨h2, by simp [hl1], fun k hk => ?_, fun k hk => ?_⟩
  · rcases hl with hl | hl
    · rw [hl] at hk; exact h.new k hk
    · rw [hl, World.size_alloc] at hk
      injection hk with hk
      omega
  · by_cases e : k = p
    · subst e
      obtain ⟨t1, t2⟩ := tp ht hf
      refine ⟨s, g, by rw [List.getElem?_append_right (by omega)]; simp [hl1], t1, t2, fun j t hj ht => hd j t (by rwa [List.getElem?_append_left (by omega)] at ht)⟩
    · obtain ⟨s', g', e1, t1, f1, d1⟩ := h.each k (by omega)
      obtain ⟨t2, f2⟩ := tp t1 f1
      exact ⟨s', g', by rw [List.getElem?_append_left (by omega)]; exact e1, t2, f2, fun j t hj ht => d1 j t hj (by rwa [List.getElem?_append_left (by omega)] at ht)⟩
/-- What was made just now lies in a block of its own. -/
theorem CRow.fresh (h : CRow S w A p cap hs cs p) {s : Sl} {x : List Int} {g : Nat} (ht : Tp w.heap.size w' s x g) : (Value.slice A p cap).ownBlock ≠ some g ∧ ∀ (k : Nat) (t : Sl), hs[k]? = some t → t.A ≠ s.A := by
  have hge := ht.ge
  refine ⟨fun e => by have := h.row.lt e; omega, fun k t hk e => ?_⟩
  have hkp : k < p := by have := (List.getElem?_eq_some_iff.1 hk).1; have := h.len; omega
  obtain ⟨s', g', e1, t1, _⟩ := h.each k hkp
  rw [hk] at e1
  injection e1 with e1
  subst e1
  rw [t1.at_, ht.at_] at e
  injection e with e
  injection e with e
  have := t1.lt
  omega
end
section
variable {wr : World} {ops : Array Oper} {o : Oper} {a : Act} {K : Act → World → Prop} {Q : Exit → Act → World → Prop}
theorem wpList_appS {rest : List Oper} (hgd : o.guard = none) (s x : Operand) (ho : o.op = .call { callee := .builtin .append, args := #[s, x], argTypes := #[30, 30] })
    (S : Nat) (A : Option Addr) (p cap : Nat) (hs : List Sl) (cs : Nat → List Int) (B : Option Addr) (n c g : Nat) (hs' : a.eval s = .slice A p cap) (hx : a.eval x = .slice (some ⟨wr.heap.size, 0, none⟩) 1 1) (h : CRow S wr A p cap hs cs p) (hS : S ≤ wr.heap.size) (ht : Tp S wr ⟨B, n, c⟩ (cs p) g)
    (hf : (Value.slice A p cap).ownBlock ≠ some g) (hd : ∀ (k : Nat) (t : Sl), hs[k]? = some t → t.A ≠ B) (hb : p ≤ 1000000)
    (hK : ∀ A2 cap2 w2, CRow S w2 A2 (p + 1) cap2 (hs ++ [⟨B, n, c⟩]) cs (p + 1) → Only ((Value.slice A p cap).ownBlock.toList) wr w2 → wpList Try.prog ops Q rest (a.put o.dst (.slice A2 (p + 1) cap2)) w2) : wpList Try.prog ops Q (o :: rest) a (wr.alloc (.cells #[.slice B n c] 23)) := by
  have oB : Only [] wr (wr.alloc (.cells #[.slice B n c] 23)) := (Only.refl [] wr).alloc _
  refine wpList_plain hgd fun _ hK' => El.wp_append (E := hE) Try.underlying30 s x ho (.slice A p cap) hs hs' (h.row.only0 oB) _ 1 1 [⟨B, n, c⟩] hx rfl (El.Src.box (E := hE) (x := ⟨B, n, c⟩) (heap_alloc_new wr _)) (p + 1) (by rw [h.len]) (by omega) ?_
  intro A2 cap2 w2 r2 g2 l2
  exact hK' _ _ (hK A2 cap2 w2 (h.snoc ht hf hd r2 g2 l2 hS) (((Only.refl _ wr).alloc _).grown g2 (fun k hk => .inl (by rw [hk]; simp))))
end
set_option maxHeartbeats 400000 in
theorem rClocksNo (A : Option Addr) (m c : Nat) (xs : List Ev) (w : World) (hm : xs.length = m) (hb : m ≤ 100) (h : Evs w A xs) (hok : okL xs = false) :
    Calls Try.prog 19 #[.slice A m c] w fun e w' => e = .returned (.slice none 0 0) ∧ Only [] w w' := by
  have k := rRight A m c xs w hm (by omega) h
  rw [hok] at k
  clear hok h hm
  go_enter Try.func19, Try.ntmps19
  go_wp2_with fail
  refine k.mono ?_
  rintro e w1 ⟨rfl, rfl⟩
  clear k
  go_wp2_with fail
  go_ret
  exact ⟨rfl, Only.refl _ _⟩
/-- What a row of clocks is made of so far. -/
structure CFr (w wr : World) (A : Option Addr) (p cap : Nat) (hs : List Sl) (cs : Nat → List Int) : Prop where
  row : CRow w.heap.size wr A p cap hs cs p
  only : Only [] w wr
theorem CFr.only0 {w wr w' : World} {A : Option Addr} {p cap : Nat} {hs : List Sl} {cs : Nat → List Int} (h : CFr w wr A p cap hs cs) (ho : Only [] wr w') : CFr w w' A p cap hs cs := ⟨h.row.only0 ho, h.only.trans' ho⟩
set_option maxHeartbeats 8000000 in
theorem rClocks (A : Option Addr) (m c : Nat) (xs : List Ev) (w : World) (hm : xs.length = m) (hb : m ≤ 100) (h : Evs w A xs) (hok : okL xs = true) :
    Calls Try.prog 19 #[.slice A m c] w fun e w' => ∃ A2 cap, e = .returned (.slice A2 m cap) ∧ ∃ hs, CFr w w' A2 m cap hs (clk (evs xs)) := by
  have k := rRight A m c xs w hm (by omega) h
  rw [hok] at k
  have HO : Hid (∀ i, i < m → okE (evs xs i) = true) := fun i hi => okL_iff.1 hok i (by omega)
  have HE := Lib.hid h
  have ow := Lib.hid (fun (i : Nat) (hi : i < m) (W : World) (o : Only [] w W) => rOwn A m c xs i W hm hi (by omega) (h.only0 o))
  have fo := Lib.hid (fun (i : Nat) (hi : i < m) (W : World) (o : Only [] w W) => rFound A m c xs i W hm hi (by omega) (h.only0 o))
  have hfit := Lib.hid (fun (i : Nat) (hi : i ≤ m) => kn_fits HO.out (by omega) i hi)
  have hclen := Lib.hid (fun (i : Nat) (hi : i < m) => clk_pos HO.out (by omega) hi)
  have HM := Lib.hid hm
  clear hok h hm
  go_enter Try.func19, Try.ntmps19
  go_wp2_with fail
  refine k.mono ?_
  rintro e w1 ⟨rfl, rfl⟩
  clear k
  go_wp2_with fail
  go_loopg [3, 4] (m + 1) (fun gk sl si wr => ∃ (p : Nat) (A1 : Option Addr) (cap1 : Nat) (hs : List Sl), si = .int .i64 (p : Int) ∧ sl = .slice A1 p cap1 ∧ p ≤ m ∧ m + 1 ≤ gk + p ∧ Hid (CFr w1 wr A1 p cap1 hs (clk (evs xs))))
  case atStart => exact ⟨0, none, 0, [], rfl, rfl, by omega, by omega, CRow.nil _ _ _, Only.refl _ _⟩
  case round =>
    obtain ⟨p, A1, cap1, hs, rfl, rfl, hp, hg, R⟩ := hrel
    by_cases hpl : p < m
    · have h1 : (p : Int) < (m : Int) := by omega
      have wl := wk_last (evs xs) (evs xs p).who p
      have pl := pl_last (evs xs) (evs xs p).lc p
      have f0 := (hfit.out p (by omega)).1 (evs xs p).who
      have f1 := (hfit.out p (by omega)).2 (evs xs p).lc
      rw [wl] at f0
      rw [pl] at f1
      have C : Hid (clk (evs xs) p = tickM (if hearsK (evs xs p).kind = true then joinM (clkO (evs xs) (lastW (evs xs) (evs xs p).who p)) (clkO (evs xs) (lastP (evs xs) (evs xs p).lc p)) else clkO (evs xs) (lastW (evs xs) (evs xs p).who p)) (evs xs p).who) := by rw [← wl, ← pl]; exact clk_def _ _
      have F := Lib.hid (And.intro f0 f1)
      clear wl pl f0 f1
      have ct := Lib.hid (hclen.out p hpl)
      obtain ⟨ev, hev⟩ : ∃ ev, evs xs p = ev := ⟨_, rfl⟩
      have HEV := Lib.hid hev
      rw [hev] at C F
      clear hev
      obtain ⟨r1, hr1⟩ : ∃ r, lastW (evs xs) ev.who p = r := ⟨_, rfl⟩
      obtain ⟨r2, hr2⟩ : ∃ r, lastP (evs xs) ev.lc p = r := ⟨_, rfl⟩
      have LW : Hid (∀ k, r1 = some k → k < p) := fun k hk => lastW_lt (hr1.trans hk)
      have LP : Hid (∀ k, r2 = some k → k < p) := fun k hk => lastP_lt (hr2.trans hk)
      have HW := Lib.hid hr1
      have HP := Lib.hid hr2
      rw [hr1, hr2] at C F
      clear hr1 hr2
      have HK : Hid (hearsK ev.kind = (ev.kind == 1 || ev.kind == 3 || ev.kind == 4)) := rfl
      obtain ⟨gv, rfl, _⟩ := (HE.out.only0 R.out.only) p _ (evs_get (by have := HM.out; omega))
      rcases r1 with _ | k1
      -- WALK
      · -- the last of this worker: none
        have O1 := Lib.hid (fun (W : World) (o : Only [] w1 W) => (ow.out p hpl W o))
        rw [HEV.out, HW.out] at O1
        change Hid (∀ (W : World), Only [] w1 W → Calls _ _ _ W fun e w' => e = .returned (.int .i64 (-1)) ∧ _) at O1
        go_wp2_with fail
        refine (O1.out wr R.out.only).mono ?_
        rintro e w2 ⟨rfl, o2⟩
        have R2 := Lib.hid (R.out.only0 o2)
        clear o2 R O1
        have hv := (HE.out.only0 R2.out.only) p _ (evs_get (by have := HM.out; omega))
        rw [HEV.out] at hv
        obtain ⟨g', eg, _, kc, _⟩ := hv
        injection eg with eg
        injection eg with eg
        subst eg
        rcases b1 : (ev.kind == 1)
        · rcases b3 : (ev.kind == 3)
          · rcases b4 : (ev.kind == 4)
            · have KB := Lib.hid (And.intro b1 (And.intro b3 b4))
              have HH : Hid (hearsK ev.kind = false) := by rw [HK.out, KB.out.1, KB.out.2.1, KB.out.2.2]; rfl
              have HC : Hid (clk (evs xs) p = tickM [] ev.who) := by have := C.out; rw [HH.out] at this; exact this
              have hv9 := (HE.out.only0 R2.out.only) p _ (evs_get (by have := HM.out; omega))
              rw [HEV.out] at hv9
              obtain ⟨g9', eg9, v0, _⟩ := hv9
              injection eg9 with eg9
              injection eg9 with eg9
              subst eg9
              have TK : Hid (Calls Try.prog 47 #[.slice none 0 0, .int .i64 ev.who] w2 (Fresh w2 (clk (evs xs) p))) := by
                have h9 := rTick none 0 0 [] ev.who w2 rfl (by decide) (Nums.nil _ _ _)
                rw [← HC.out] at h9
                exact h9
              go_wp2_with (first
                | (refine TK.out.mono ?_
                   clear TK
                   intro e w9 hf9
                   obtain ⟨B9, n9, q9, g9, rfl, t9, o9⟩ := hf9.tp ct.out
                   have F9 := Lib.hid (R2.out.row.fresh t9)
                   have S9 : Hid (w1.heap.size ≤ w2.heap.size) := R2.out.only.size
                   have T9 := Lib.hid (t9.mono S9.out)
                   have R9 := Lib.hid (R2.out.only0 o9)
                   clear hf9 t9 o9 v0)
                | (at_builtin
                   refine wpList_appS rfl (.tmp 59) (.tmp 67) rfl w1.heap.size _ p _ hs (clk (evs xs)) B9 n9 q9 g9 rfl rfl R9.out.row R9.out.only.size T9.out F9.out.1 F9.out.2 (by omega) ?_
                   intro A2 cap2 w8 h8 o8
                   have R8 : Hid (CFr w1 w8 A2 (p + 1) cap2 (hs ++ [⟨B9, n9, q9⟩]) (clk (evs xs))) := ⟨h8, R9.out.only.trans o8 (fun k hk => .inr (R9.out.row.new k (by simpa using hk)))⟩
                   clear h8 o8))
              go_roundg (m + 1 - (p + 1))
              case measure => omega
              case rel => exact ⟨p + 1, A2, cap2, _, by simp, rfl, by omega, by omega, R8⟩
            · have KB := Lib.hid (And.intro b1 (And.intro b3 b4))
              have HH : Hid (hearsK ev.kind = true) := by rw [HK.out, KB.out.1, KB.out.2.1, KB.out.2.2]; rfl
              rcases r2 with _ | k2
              · -- the last that told: none
                have O2 := Lib.hid (fun (W : World) (o : Only [] w1 W) => (fo.out p hpl W o))
                rw [HEV.out, HP.out] at O2
                change Hid (∀ (W : World), Only [] w1 W → Calls _ _ _ W fun e w' => e = .returned (.int .i64 (-1)) ∧ _) at O2
                go_wp2_with fail
                refine (O2.out w2 R2.out.only).mono ?_
                rintro e w3 ⟨rfl, o3⟩
                have R3 := Lib.hid (R2.out.only0 o3)
                have HC : Hid (clk (evs xs) p = tickM [] ev.who) := by
                  have h8 := C.out
                  rw [HH.out, if_pos rfl] at h8
                  change clk (evs xs) p = tickM (joinM [] []) ev.who at h8
                  have hj0 := joinM_none (c := []) (fun k => (F.out.1.2 k).1)
                  rw [hj0] at h8
                  exact h8
                clear o3
                have hv9 := (HE.out.only0 R3.out.only) p _ (evs_get (by have := HM.out; omega))
                rw [HEV.out] at hv9
                obtain ⟨g9', eg9, v0, _⟩ := hv9
                injection eg9 with eg9
                injection eg9 with eg9
                subst eg9
                have TK : Hid (Calls Try.prog 47 #[.slice none 0 0, .int .i64 ev.who] w3 (Fresh w3 (clk (evs xs) p))) := by
                  have h9 := rTick none 0 0 [] ev.who w3 rfl (by decide) (Nums.nil _ _ _)
                  rw [← HC.out] at h9
                  exact h9
                go_wp2_with (first
                  | (refine TK.out.mono ?_
                     clear TK
                     intro e w9 hf9
                     obtain ⟨B9, n9, q9, g9, rfl, t9, o9⟩ := hf9.tp ct.out
                     have F9 := Lib.hid (R3.out.row.fresh t9)
                     have S9 : Hid (w1.heap.size ≤ w3.heap.size) := R3.out.only.size
                     have T9 := Lib.hid (t9.mono S9.out)
                     have R9 := Lib.hid (R3.out.only0 o9)
                     clear hf9 t9 o9 v0)
                  | (at_builtin
                     refine wpList_appS rfl (.tmp 59) (.tmp 67) rfl w1.heap.size _ p _ hs (clk (evs xs)) B9 n9 q9 g9 rfl rfl R9.out.row R9.out.only.size T9.out F9.out.1 F9.out.2 (by omega) ?_
                     intro A2 cap2 w8 h8 o8
                     have R8 : Hid (CFr w1 w8 A2 (p + 1) cap2 (hs ++ [⟨B9, n9, q9⟩]) (clk (evs xs))) := ⟨h8, R9.out.only.trans o8 (fun k hk => .inr (R9.out.row.new k (by simpa using hk)))⟩
                     clear h8 o8))
                go_roundg (m + 1 - (p + 1))
                case measure => omega
                case rel => exact ⟨p + 1, A2, cap2, _, by simp, rfl, by omega, by omega, R8⟩
              · -- the last that told: some
                have O2 := Lib.hid (fun (W : World) (o : Only [] w1 W) => (fo.out p hpl W o))
                rw [HEV.out, HP.out] at O2
                change Hid (∀ (W : World), Only [] w1 W → Calls _ _ _ W fun e w' => e = .returned (.int .i64 (k2 : Int)) ∧ _) at O2
                go_wp2_with fail
                refine (O2.out w2 R2.out.only).mono ?_
                rintro e w3 ⟨rfl, o3⟩
                have R3 := Lib.hid (R2.out.only0 o3)
                have hkm2 : k2 < p := LP.out k2 rfl
                obtain ⟨gr2, g2, ⟨B2, n2, q2⟩, ea2, x2, _, t2⟩ := R3.out.row.at_ (LP.out k2 rfl)
                subst ea2
                have T3 := Lib.hid t2
                clear t2 o3
                have HC : Hid (clk (evs xs) p = tickM (joinM [] (clk (evs xs) k2)) ev.who) := by
                  have h8 := C.out
                  rw [HH.out, if_pos rfl] at h8
                  exact h8
                have HJ : Hid ((joinM [] (clk (evs xs) k2)).length ≤ 64) := by
                  have h8 := F.out.1.1
                  have h9 := F.out.2.1
                  change [].length ≤ 64 at h8
                  change (clk (evs xs) k2).length ≤ 64 at h9
                  show _ ≤ _
                  rw [joinM_len]
                  omega
                have JN := Lib.hid (rJoin none 0 0 [] B2 n2 q2 (clk (evs xs) k2) w3 rfl T3.out.len (by decide) (by have h7 : (clk (evs xs) k2).length = n2 := T3.out.len; have h9 := F.out.2.1; change (clk (evs xs) k2).length ≤ 64 at h9; omega) (Nums.nil _ _ _) T3.out.nums.zero)
                go_wp2_with fail
                refine JN.out.mono ?_
                clear JN
                rintro e w4 ⟨B4, q4, rfl, n4, o4, _⟩
                have R4 := Lib.hid (R3.out.only0 o4)
                have N4 := Lib.hid n4.zero
                clear n4 o4
                have hv9 := (HE.out.only0 R4.out.only) p _ (evs_get (by have := HM.out; omega))
                rw [HEV.out] at hv9
                obtain ⟨g9', eg9, v0, _⟩ := hv9
                injection eg9 with eg9
                injection eg9 with eg9
                subst eg9
                have TK : Hid (Calls Try.prog 47 #[.slice B4 (joinM [] (clk (evs xs) k2)).length q4, .int .i64 ev.who] w4 (Fresh w4 (clk (evs xs) p))) := by
                  have h9 := rTick B4 (joinM [] (clk (evs xs) k2)).length q4 (joinM [] (clk (evs xs) k2)) ev.who w4 rfl (by have := HJ.out; omega) N4.out
                  rw [← HC.out] at h9
                  exact h9
                go_wp2_with (first
                  | (refine TK.out.mono ?_
                     clear TK
                     intro e w9 hf9
                     obtain ⟨B9, n9, q9, g9, rfl, t9, o9⟩ := hf9.tp ct.out
                     have F9 := Lib.hid (R4.out.row.fresh t9)
                     have S9 : Hid (w1.heap.size ≤ w4.heap.size) := R4.out.only.size
                     have T9 := Lib.hid (t9.mono S9.out)
                     have R9 := Lib.hid (R4.out.only0 o9)
                     clear hf9 t9 o9 v0)
                  | (at_builtin
                     refine wpList_appS rfl (.tmp 59) (.tmp 67) rfl w1.heap.size _ p _ hs (clk (evs xs)) B9 n9 q9 g9 rfl rfl R9.out.row R9.out.only.size T9.out F9.out.1 F9.out.2 (by omega) ?_
                     intro A2 cap2 w8 h8 o8
                     have R8 : Hid (CFr w1 w8 A2 (p + 1) cap2 (hs ++ [⟨B9, n9, q9⟩]) (clk (evs xs))) := ⟨h8, R9.out.only.trans o8 (fun k hk => .inr (R9.out.row.new k (by simpa using hk)))⟩
                     clear h8 o8))
                go_roundg (m + 1 - (p + 1))
                case measure => omega
                case rel => exact ⟨p + 1, A2, cap2, _, by simp, rfl, by omega, by omega, R8⟩
          · have KB := Lib.hid (And.intro b1 b3)
            have HH : Hid (hearsK ev.kind = true) := by rw [HK.out, KB.out.1, KB.out.2]; rfl
            rcases r2 with _ | k2
            · -- the last that told: none
              have O2 := Lib.hid (fun (W : World) (o : Only [] w1 W) => (fo.out p hpl W o))
              rw [HEV.out, HP.out] at O2
              change Hid (∀ (W : World), Only [] w1 W → Calls _ _ _ W fun e w' => e = .returned (.int .i64 (-1)) ∧ _) at O2
              go_wp2_with fail
              refine (O2.out w2 R2.out.only).mono ?_
              rintro e w3 ⟨rfl, o3⟩
              have R3 := Lib.hid (R2.out.only0 o3)
              have HC : Hid (clk (evs xs) p = tickM [] ev.who) := by
                have h8 := C.out
                rw [HH.out, if_pos rfl] at h8
                change clk (evs xs) p = tickM (joinM [] []) ev.who at h8
                have hj0 := joinM_none (c := []) (fun k => (F.out.1.2 k).1)
                rw [hj0] at h8
                exact h8
              clear o3
              have hv9 := (HE.out.only0 R3.out.only) p _ (evs_get (by have := HM.out; omega))
              rw [HEV.out] at hv9
              obtain ⟨g9', eg9, v0, _⟩ := hv9
              injection eg9 with eg9
              injection eg9 with eg9
              subst eg9
              have TK : Hid (Calls Try.prog 47 #[.slice none 0 0, .int .i64 ev.who] w3 (Fresh w3 (clk (evs xs) p))) := by
                have h9 := rTick none 0 0 [] ev.who w3 rfl (by decide) (Nums.nil _ _ _)
                rw [← HC.out] at h9
                exact h9
              go_wp2_with (first
                | (refine TK.out.mono ?_
                   clear TK
                   intro e w9 hf9
                   obtain ⟨B9, n9, q9, g9, rfl, t9, o9⟩ := hf9.tp ct.out
                   have F9 := Lib.hid (R3.out.row.fresh t9)
                   have S9 : Hid (w1.heap.size ≤ w3.heap.size) := R3.out.only.size
                   have T9 := Lib.hid (t9.mono S9.out)
                   have R9 := Lib.hid (R3.out.only0 o9)
                   clear hf9 t9 o9 v0)
                | (at_builtin
                   refine wpList_appS rfl (.tmp 59) (.tmp 67) rfl w1.heap.size _ p _ hs (clk (evs xs)) B9 n9 q9 g9 rfl rfl R9.out.row R9.out.only.size T9.out F9.out.1 F9.out.2 (by omega) ?_
                   intro A2 cap2 w8 h8 o8
                   have R8 : Hid (CFr w1 w8 A2 (p + 1) cap2 (hs ++ [⟨B9, n9, q9⟩]) (clk (evs xs))) := ⟨h8, R9.out.only.trans o8 (fun k hk => .inr (R9.out.row.new k (by simpa using hk)))⟩
                   clear h8 o8))
              go_roundg (m + 1 - (p + 1))
              case measure => omega
              case rel => exact ⟨p + 1, A2, cap2, _, by simp, rfl, by omega, by omega, R8⟩
            · -- the last that told: some
              have O2 := Lib.hid (fun (W : World) (o : Only [] w1 W) => (fo.out p hpl W o))
              rw [HEV.out, HP.out] at O2
              change Hid (∀ (W : World), Only [] w1 W → Calls _ _ _ W fun e w' => e = .returned (.int .i64 (k2 : Int)) ∧ _) at O2
              go_wp2_with fail
              refine (O2.out w2 R2.out.only).mono ?_
              rintro e w3 ⟨rfl, o3⟩
              have R3 := Lib.hid (R2.out.only0 o3)
              have hkm2 : k2 < p := LP.out k2 rfl
              obtain ⟨gr2, g2, ⟨B2, n2, q2⟩, ea2, x2, _, t2⟩ := R3.out.row.at_ (LP.out k2 rfl)
              subst ea2
              have T3 := Lib.hid t2
              clear t2 o3
              have HC : Hid (clk (evs xs) p = tickM (joinM [] (clk (evs xs) k2)) ev.who) := by
                have h8 := C.out
                rw [HH.out, if_pos rfl] at h8
                exact h8
              have HJ : Hid ((joinM [] (clk (evs xs) k2)).length ≤ 64) := by
                have h8 := F.out.1.1
                have h9 := F.out.2.1
                change [].length ≤ 64 at h8
                change (clk (evs xs) k2).length ≤ 64 at h9
                show _ ≤ _
                rw [joinM_len]
                omega
              have JN := Lib.hid (rJoin none 0 0 [] B2 n2 q2 (clk (evs xs) k2) w3 rfl T3.out.len (by decide) (by have h7 : (clk (evs xs) k2).length = n2 := T3.out.len; have h9 := F.out.2.1; change (clk (evs xs) k2).length ≤ 64 at h9; omega) (Nums.nil _ _ _) T3.out.nums.zero)
              go_wp2_with fail
              refine JN.out.mono ?_
              clear JN
              rintro e w4 ⟨B4, q4, rfl, n4, o4, _⟩
              have R4 := Lib.hid (R3.out.only0 o4)
              have N4 := Lib.hid n4.zero
              clear n4 o4
              have hv9 := (HE.out.only0 R4.out.only) p _ (evs_get (by have := HM.out; omega))
              rw [HEV.out] at hv9
              obtain ⟨g9', eg9, v0, _⟩ := hv9
              injection eg9 with eg9
              injection eg9 with eg9
              subst eg9
              have TK : Hid (Calls Try.prog 47 #[.slice B4 (joinM [] (clk (evs xs) k2)).length q4, .int .i64 ev.who] w4 (Fresh w4 (clk (evs xs) p))) := by
                have h9 := rTick B4 (joinM [] (clk (evs xs) k2)).length q4 (joinM [] (clk (evs xs) k2)) ev.who w4 rfl (by have := HJ.out; omega) N4.out
                rw [← HC.out] at h9
                exact h9
              go_wp2_with (first
                | (refine TK.out.mono ?_
                   clear TK
                   intro e w9 hf9
                   obtain ⟨B9, n9, q9, g9, rfl, t9, o9⟩ := hf9.tp ct.out
                   have F9 := Lib.hid (R4.out.row.fresh t9)
                   have S9 : Hid (w1.heap.size ≤ w4.heap.size) := R4.out.only.size
                   have T9 := Lib.hid (t9.mono S9.out)
                   have R9 := Lib.hid (R4.out.only0 o9)
                   clear hf9 t9 o9 v0)
                | (at_builtin
                   refine wpList_appS rfl (.tmp 59) (.tmp 67) rfl w1.heap.size _ p _ hs (clk (evs xs)) B9 n9 q9 g9 rfl rfl R9.out.row R9.out.only.size T9.out F9.out.1 F9.out.2 (by omega) ?_
                   intro A2 cap2 w8 h8 o8
                   have R8 : Hid (CFr w1 w8 A2 (p + 1) cap2 (hs ++ [⟨B9, n9, q9⟩]) (clk (evs xs))) := ⟨h8, R9.out.only.trans o8 (fun k hk => .inr (R9.out.row.new k (by simpa using hk)))⟩
                   clear h8 o8))
              go_roundg (m + 1 - (p + 1))
              case measure => omega
              case rel => exact ⟨p + 1, A2, cap2, _, by simp, rfl, by omega, by omega, R8⟩
        · have KB := Lib.hid b1
          have HH : Hid (hearsK ev.kind = true) := by rw [HK.out, KB.out]; rfl
          rcases r2 with _ | k2
          · -- the last that told: none
            have O2 := Lib.hid (fun (W : World) (o : Only [] w1 W) => (fo.out p hpl W o))
            rw [HEV.out, HP.out] at O2
            change Hid (∀ (W : World), Only [] w1 W → Calls _ _ _ W fun e w' => e = .returned (.int .i64 (-1)) ∧ _) at O2
            go_wp2_with fail
            refine (O2.out w2 R2.out.only).mono ?_
            rintro e w3 ⟨rfl, o3⟩
            have R3 := Lib.hid (R2.out.only0 o3)
            have HC : Hid (clk (evs xs) p = tickM [] ev.who) := by
              have h8 := C.out
              rw [HH.out, if_pos rfl] at h8
              change clk (evs xs) p = tickM (joinM [] []) ev.who at h8
              have hj0 := joinM_none (c := []) (fun k => (F.out.1.2 k).1)
              rw [hj0] at h8
              exact h8
            clear o3
            have hv9 := (HE.out.only0 R3.out.only) p _ (evs_get (by have := HM.out; omega))
            rw [HEV.out] at hv9
            obtain ⟨g9', eg9, v0, _⟩ := hv9
            injection eg9 with eg9
            injection eg9 with eg9
            subst eg9
            have TK : Hid (Calls Try.prog 47 #[.slice none 0 0, .int .i64 ev.who] w3 (Fresh w3 (clk (evs xs) p))) := by
              have h9 := rTick none 0 0 [] ev.who w3 rfl (by decide) (Nums.nil _ _ _)
              rw [← HC.out] at h9
              exact h9
            go_wp2_with (first
              | (refine TK.out.mono ?_
                 clear TK
                 intro e w9 hf9
                 obtain ⟨B9, n9, q9, g9, rfl, t9, o9⟩ := hf9.tp ct.out
                 have F9 := Lib.hid (R3.out.row.fresh t9)
                 have S9 : Hid (w1.heap.size ≤ w3.heap.size) := R3.out.only.size
                 have T9 := Lib.hid (t9.mono S9.out)
                 have R9 := Lib.hid (R3.out.only0 o9)
                 clear hf9 t9 o9 v0)
              | (at_builtin
                 refine wpList_appS rfl (.tmp 59) (.tmp 67) rfl w1.heap.size _ p _ hs (clk (evs xs)) B9 n9 q9 g9 rfl rfl R9.out.row R9.out.only.size T9.out F9.out.1 F9.out.2 (by omega) ?_
                 intro A2 cap2 w8 h8 o8
                 have R8 : Hid (CFr w1 w8 A2 (p + 1) cap2 (hs ++ [⟨B9, n9, q9⟩]) (clk (evs xs))) := ⟨h8, R9.out.only.trans o8 (fun k hk => .inr (R9.out.row.new k (by simpa using hk)))⟩
                 clear h8 o8))
            go_roundg (m + 1 - (p + 1))
            case measure => omega
            case rel => exact ⟨p + 1, A2, cap2, _, by simp, rfl, by omega, by omega, R8⟩
          · -- the last that told: some
            have O2 := Lib.hid (fun (W : World) (o : Only [] w1 W) => (fo.out p hpl W o))
            rw [HEV.out, HP.out] at O2
            change Hid (∀ (W : World), Only [] w1 W → Calls _ _ _ W fun e w' => e = .returned (.int .i64 (k2 : Int)) ∧ _) at O2
            go_wp2_with fail
            refine (O2.out w2 R2.out.only).mono ?_
            rintro e w3 ⟨rfl, o3⟩
            have R3 := Lib.hid (R2.out.only0 o3)
            have hkm2 : k2 < p := LP.out k2 rfl
            obtain ⟨gr2, g2, ⟨B2, n2, q2⟩, ea2, x2, _, t2⟩ := R3.out.row.at_ (LP.out k2 rfl)
            subst ea2
            have T3 := Lib.hid t2
            clear t2 o3
            have HC : Hid (clk (evs xs) p = tickM (joinM [] (clk (evs xs) k2)) ev.who) := by
              have h8 := C.out
              rw [HH.out, if_pos rfl] at h8
              exact h8
            have HJ : Hid ((joinM [] (clk (evs xs) k2)).length ≤ 64) := by
              have h8 := F.out.1.1
              have h9 := F.out.2.1
              change [].length ≤ 64 at h8
              change (clk (evs xs) k2).length ≤ 64 at h9
              show _ ≤ _
              rw [joinM_len]
              omega
            have JN := Lib.hid (rJoin none 0 0 [] B2 n2 q2 (clk (evs xs) k2) w3 rfl T3.out.len (by decide) (by have h7 : (clk (evs xs) k2).length = n2 := T3.out.len; have h9 := F.out.2.1; change (clk (evs xs) k2).length ≤ 64 at h9; omega) (Nums.nil _ _ _) T3.out.nums.zero)
            go_wp2_with fail
            refine JN.out.mono ?_
            clear JN
            rintro e w4 ⟨B4, q4, rfl, n4, o4, _⟩
            have R4 := Lib.hid (R3.out.only0 o4)
            have N4 := Lib.hid n4.zero
            clear n4 o4
            have hv9 := (HE.out.only0 R4.out.only) p _ (evs_get (by have := HM.out; omega))
            rw [HEV.out] at hv9
            obtain ⟨g9', eg9, v0, _⟩ := hv9
            injection eg9 with eg9
            injection eg9 with eg9
            subst eg9
            have TK : Hid (Calls Try.prog 47 #[.slice B4 (joinM [] (clk (evs xs) k2)).length q4, .int .i64 ev.who] w4 (Fresh w4 (clk (evs xs) p))) := by
              have h9 := rTick B4 (joinM [] (clk (evs xs) k2)).length q4 (joinM [] (clk (evs xs) k2)) ev.who w4 rfl (by have := HJ.out; omega) N4.out
              rw [← HC.out] at h9
              exact h9
            go_wp2_with (first
              | (refine TK.out.mono ?_
                 clear TK
                 intro e w9 hf9
                 obtain ⟨B9, n9, q9, g9, rfl, t9, o9⟩ := hf9.tp ct.out
                 have F9 := Lib.hid (R4.out.row.fresh t9)
                 have S9 : Hid (w1.heap.size ≤ w4.heap.size) := R4.out.only.size
                 have T9 := Lib.hid (t9.mono S9.out)
                 have R9 := Lib.hid (R4.out.only0 o9)
                 clear hf9 t9 o9 v0)
              | (at_builtin
                 refine wpList_appS rfl (.tmp 59) (.tmp 67) rfl w1.heap.size _ p _ hs (clk (evs xs)) B9 n9 q9 g9 rfl rfl R9.out.row R9.out.only.size T9.out F9.out.1 F9.out.2 (by omega) ?_
                 intro A2 cap2 w8 h8 o8
                 have R8 : Hid (CFr w1 w8 A2 (p + 1) cap2 (hs ++ [⟨B9, n9, q9⟩]) (clk (evs xs))) := ⟨h8, R9.out.only.trans o8 (fun k hk => .inr (R9.out.row.new k (by simpa using hk)))⟩
                 clear h8 o8))
            go_roundg (m + 1 - (p + 1))
            case measure => omega
            case rel => exact ⟨p + 1, A2, cap2, _, by simp, rfl, by omega, by omega, R8⟩
      · -- the last of this worker: some
        have O1 := Lib.hid (fun (W : World) (o : Only [] w1 W) => (ow.out p hpl W o))
        rw [HEV.out, HW.out] at O1
        change Hid (∀ (W : World), Only [] w1 W → Calls _ _ _ W fun e w' => e = .returned (.int .i64 (k1 : Int)) ∧ _) at O1
        go_wp2_with fail
        refine (O1.out wr R.out.only).mono ?_
        rintro e w2 ⟨rfl, o2⟩
        have R2 := Lib.hid (R.out.only0 o2)
        clear o2 R O1
        have hv := (HE.out.only0 R2.out.only) p _ (evs_get (by have := HM.out; omega))
        rw [HEV.out] at hv
        obtain ⟨g', eg, _, kc, _⟩ := hv
        injection eg with eg
        injection eg with eg
        subst eg
        have hkm1 : k1 < p := LW.out k1 rfl
        obtain ⟨gr1, g1, ⟨B1, n1, q1⟩, ea1, x1, _, t1⟩ := R2.out.row.at_ (LW.out k1 rfl)
        have T1 := Lib.hid t1
        clear t1
        subst ea1
        rcases b1 : (ev.kind == 1)
        · rcases b3 : (ev.kind == 3)
          · rcases b4 : (ev.kind == 4)
            · have KB := Lib.hid (And.intro b1 (And.intro b3 b4))
              have HH : Hid (hearsK ev.kind = false) := by rw [HK.out, KB.out.1, KB.out.2.1, KB.out.2.2]; rfl
              have HC : Hid (clk (evs xs) p = tickM (clk (evs xs) k1) ev.who) := by have := C.out; rw [HH.out] at this; exact this
              have hv9 := (HE.out.only0 R2.out.only) p _ (evs_get (by have := HM.out; omega))
              rw [HEV.out] at hv9
              obtain ⟨g9', eg9, v0, _⟩ := hv9
              injection eg9 with eg9
              injection eg9 with eg9
              subst eg9
              have TK : Hid (Calls Try.prog 47 #[.slice B1 n1 q1, .int .i64 ev.who] w2 (Fresh w2 (clk (evs xs) p))) := by
                have h9 := rTick B1 n1 q1 (clk (evs xs) k1) ev.who w2 (T1.out.len) (by have h7 : (clk (evs xs) k1).length = n1 := T1.out.len; have h8 := F.out.1.1; change (clk (evs xs) k1).length ≤ 64 at h8; omega) T1.out.nums.zero
                rw [← HC.out] at h9
                exact h9
              go_wp2_with (first
                | (refine TK.out.mono ?_
                   clear TK
                   intro e w9 hf9
                   obtain ⟨B9, n9, q9, g9, rfl, t9, o9⟩ := hf9.tp ct.out
                   have F9 := Lib.hid (R2.out.row.fresh t9)
                   have S9 : Hid (w1.heap.size ≤ w2.heap.size) := R2.out.only.size
                   have T9 := Lib.hid (t9.mono S9.out)
                   have R9 := Lib.hid (R2.out.only0 o9)
                   clear hf9 t9 o9 v0)
                | (at_builtin
                   refine wpList_appS rfl (.tmp 59) (.tmp 67) rfl w1.heap.size _ p _ hs (clk (evs xs)) B9 n9 q9 g9 rfl rfl R9.out.row R9.out.only.size T9.out F9.out.1 F9.out.2 (by omega) ?_
                   intro A2 cap2 w8 h8 o8
                   have R8 : Hid (CFr w1 w8 A2 (p + 1) cap2 (hs ++ [⟨B9, n9, q9⟩]) (clk (evs xs))) := ⟨h8, R9.out.only.trans o8 (fun k hk => .inr (R9.out.row.new k (by simpa using hk)))⟩
                   clear h8 o8))
              go_roundg (m + 1 - (p + 1))
              case measure => omega
              case rel => exact ⟨p + 1, A2, cap2, _, by simp, rfl, by omega, by omega, R8⟩
            · have KB := Lib.hid (And.intro b1 (And.intro b3 b4))
              have HH : Hid (hearsK ev.kind = true) := by rw [HK.out, KB.out.1, KB.out.2.1, KB.out.2.2]; rfl
              rcases r2 with _ | k2
              · -- the last that told: none
                have O2 := Lib.hid (fun (W : World) (o : Only [] w1 W) => (fo.out p hpl W o))
                rw [HEV.out, HP.out] at O2
                change Hid (∀ (W : World), Only [] w1 W → Calls _ _ _ W fun e w' => e = .returned (.int .i64 (-1)) ∧ _) at O2
                go_wp2_with fail
                refine (O2.out w2 R2.out.only).mono ?_
                rintro e w3 ⟨rfl, o3⟩
                have R3 := Lib.hid (R2.out.only0 o3)
                have T2 := Lib.hid (T1.out.only o3 (by simp))
                have HC : Hid (clk (evs xs) p = tickM (clk (evs xs) k1) ev.who) := by
                  have h8 := C.out
                  rw [HH.out, if_pos rfl] at h8
                  change clk (evs xs) p = tickM (joinM (clk (evs xs) k1) []) ev.who at h8
                  have hj0 := joinM_none (c := (clk (evs xs) k1)) (fun k => (F.out.1.2 k).1)
                  rw [hj0] at h8
                  exact h8
                clear o3
                have hv9 := (HE.out.only0 R3.out.only) p _ (evs_get (by have := HM.out; omega))
                rw [HEV.out] at hv9
                obtain ⟨g9', eg9, v0, _⟩ := hv9
                injection eg9 with eg9
                injection eg9 with eg9
                subst eg9
                have TK : Hid (Calls Try.prog 47 #[.slice B1 n1 q1, .int .i64 ev.who] w3 (Fresh w3 (clk (evs xs) p))) := by
                  have h9 := rTick B1 n1 q1 (clk (evs xs) k1) ev.who w3 (T2.out.len) (by have h7 : (clk (evs xs) k1).length = n1 := T2.out.len; have h8 := F.out.1.1; change (clk (evs xs) k1).length ≤ 64 at h8; omega) T2.out.nums.zero
                  rw [← HC.out] at h9
                  exact h9
                go_wp2_with (first
                  | (refine TK.out.mono ?_
                     clear TK
                     intro e w9 hf9
                     obtain ⟨B9, n9, q9, g9, rfl, t9, o9⟩ := hf9.tp ct.out
                     have F9 := Lib.hid (R3.out.row.fresh t9)
                     have S9 : Hid (w1.heap.size ≤ w3.heap.size) := R3.out.only.size
                     have T9 := Lib.hid (t9.mono S9.out)
                     have R9 := Lib.hid (R3.out.only0 o9)
                     clear hf9 t9 o9 v0)
                  | (at_builtin
                     refine wpList_appS rfl (.tmp 59) (.tmp 67) rfl w1.heap.size _ p _ hs (clk (evs xs)) B9 n9 q9 g9 rfl rfl R9.out.row R9.out.only.size T9.out F9.out.1 F9.out.2 (by omega) ?_
                     intro A2 cap2 w8 h8 o8
                     have R8 : Hid (CFr w1 w8 A2 (p + 1) cap2 (hs ++ [⟨B9, n9, q9⟩]) (clk (evs xs))) := ⟨h8, R9.out.only.trans o8 (fun k hk => .inr (R9.out.row.new k (by simpa using hk)))⟩
                     clear h8 o8))
                go_roundg (m + 1 - (p + 1))
                case measure => omega
                case rel => exact ⟨p + 1, A2, cap2, _, by simp, rfl, by omega, by omega, R8⟩
              · -- the last that told: some
                have O2 := Lib.hid (fun (W : World) (o : Only [] w1 W) => (fo.out p hpl W o))
                rw [HEV.out, HP.out] at O2
                change Hid (∀ (W : World), Only [] w1 W → Calls _ _ _ W fun e w' => e = .returned (.int .i64 (k2 : Int)) ∧ _) at O2
                go_wp2_with fail
                refine (O2.out w2 R2.out.only).mono ?_
                rintro e w3 ⟨rfl, o3⟩
                have R3 := Lib.hid (R2.out.only0 o3)
                have T2 := Lib.hid (T1.out.only o3 (by simp))
                have hkm2 : k2 < p := LP.out k2 rfl
                obtain ⟨gr2, g2, ⟨B2, n2, q2⟩, ea2, x2, _, t2⟩ := R3.out.row.at_ (LP.out k2 rfl)
                injection ea2 with ea2
                injection ea2 with ea2
                subst ea2
                have T3 := Lib.hid t2
                clear t2 o3
                have HC : Hid (clk (evs xs) p = tickM (joinM (clk (evs xs) k1) (clk (evs xs) k2)) ev.who) := by
                  have h8 := C.out
                  rw [HH.out, if_pos rfl] at h8
                  exact h8
                have HJ : Hid ((joinM (clk (evs xs) k1) (clk (evs xs) k2)).length ≤ 64) := by
                  have h8 := F.out.1.1
                  have h9 := F.out.2.1
                  change (clk (evs xs) k1).length ≤ 64 at h8
                  change (clk (evs xs) k2).length ≤ 64 at h9
                  show _ ≤ _
                  rw [joinM_len]
                  omega
                have JN := Lib.hid (rJoin B1 n1 q1 (clk (evs xs) k1) B2 n2 q2 (clk (evs xs) k2) w3 (T2.out.len) T3.out.len (by have h7 : (clk (evs xs) k1).length = n1 := T2.out.len; have h8 := F.out.1.1; change (clk (evs xs) k1).length ≤ 64 at h8; omega) (by have h7 : (clk (evs xs) k2).length = n2 := T3.out.len; have h9 := F.out.2.1; change (clk (evs xs) k2).length ≤ 64 at h9; omega) T2.out.nums.zero T3.out.nums.zero)
                go_wp2_with fail
                refine JN.out.mono ?_
                clear JN
                rintro e w4 ⟨B4, q4, rfl, n4, o4, _⟩
                have R4 := Lib.hid (R3.out.only0 o4)
                have N4 := Lib.hid n4.zero
                clear n4 o4
                have hv9 := (HE.out.only0 R4.out.only) p _ (evs_get (by have := HM.out; omega))
                rw [HEV.out] at hv9
                obtain ⟨g9', eg9, v0, _⟩ := hv9
                injection eg9 with eg9
                injection eg9 with eg9
                subst eg9
                have TK : Hid (Calls Try.prog 47 #[.slice B4 (joinM (clk (evs xs) k1) (clk (evs xs) k2)).length q4, .int .i64 ev.who] w4 (Fresh w4 (clk (evs xs) p))) := by
                  have h9 := rTick B4 (joinM (clk (evs xs) k1) (clk (evs xs) k2)).length q4 (joinM (clk (evs xs) k1) (clk (evs xs) k2)) ev.who w4 rfl (by have := HJ.out; omega) N4.out
                  rw [← HC.out] at h9
                  exact h9
                go_wp2_with (first
                  | (refine TK.out.mono ?_
                     clear TK
                     intro e w9 hf9
                     obtain ⟨B9, n9, q9, g9, rfl, t9, o9⟩ := hf9.tp ct.out
                     have F9 := Lib.hid (R4.out.row.fresh t9)
                     have S9 : Hid (w1.heap.size ≤ w4.heap.size) := R4.out.only.size
                     have T9 := Lib.hid (t9.mono S9.out)
                     have R9 := Lib.hid (R4.out.only0 o9)
                     clear hf9 t9 o9 v0)
                  | (at_builtin
                     refine wpList_appS rfl (.tmp 59) (.tmp 67) rfl w1.heap.size _ p _ hs (clk (evs xs)) B9 n9 q9 g9 rfl rfl R9.out.row R9.out.only.size T9.out F9.out.1 F9.out.2 (by omega) ?_
                     intro A2 cap2 w8 h8 o8
                     have R8 : Hid (CFr w1 w8 A2 (p + 1) cap2 (hs ++ [⟨B9, n9, q9⟩]) (clk (evs xs))) := ⟨h8, R9.out.only.trans o8 (fun k hk => .inr (R9.out.row.new k (by simpa using hk)))⟩
                     clear h8 o8))
                go_roundg (m + 1 - (p + 1))
                case measure => omega
                case rel => exact ⟨p + 1, A2, cap2, _, by simp, rfl, by omega, by omega, R8⟩
          · have KB := Lib.hid (And.intro b1 b3)
            have HH : Hid (hearsK ev.kind = true) := by rw [HK.out, KB.out.1, KB.out.2]; rfl
            rcases r2 with _ | k2
            · -- the last that told: none
              have O2 := Lib.hid (fun (W : World) (o : Only [] w1 W) => (fo.out p hpl W o))
              rw [HEV.out, HP.out] at O2
              change Hid (∀ (W : World), Only [] w1 W → Calls _ _ _ W fun e w' => e = .returned (.int .i64 (-1)) ∧ _) at O2
              go_wp2_with fail
              refine (O2.out w2 R2.out.only).mono ?_
              rintro e w3 ⟨rfl, o3⟩
              have R3 := Lib.hid (R2.out.only0 o3)
              have T2 := Lib.hid (T1.out.only o3 (by simp))
              have HC : Hid (clk (evs xs) p = tickM (clk (evs xs) k1) ev.who) := by
                have h8 := C.out
                rw [HH.out, if_pos rfl] at h8
                change clk (evs xs) p = tickM (joinM (clk (evs xs) k1) []) ev.who at h8
                have hj0 := joinM_none (c := (clk (evs xs) k1)) (fun k => (F.out.1.2 k).1)
                rw [hj0] at h8
                exact h8
              clear o3
              have hv9 := (HE.out.only0 R3.out.only) p _ (evs_get (by have := HM.out; omega))
              rw [HEV.out] at hv9
              obtain ⟨g9', eg9, v0, _⟩ := hv9
              injection eg9 with eg9
              injection eg9 with eg9
              subst eg9
              have TK : Hid (Calls Try.prog 47 #[.slice B1 n1 q1, .int .i64 ev.who] w3 (Fresh w3 (clk (evs xs) p))) := by
                have h9 := rTick B1 n1 q1 (clk (evs xs) k1) ev.who w3 (T2.out.len) (by have h7 : (clk (evs xs) k1).length = n1 := T2.out.len; have h8 := F.out.1.1; change (clk (evs xs) k1).length ≤ 64 at h8; omega) T2.out.nums.zero
                rw [← HC.out] at h9
                exact h9
              go_wp2_with (first
                | (refine TK.out.mono ?_
                   clear TK
                   intro e w9 hf9
                   obtain ⟨B9, n9, q9, g9, rfl, t9, o9⟩ := hf9.tp ct.out
                   have F9 := Lib.hid (R3.out.row.fresh t9)
                   have S9 : Hid (w1.heap.size ≤ w3.heap.size) := R3.out.only.size
                   have T9 := Lib.hid (t9.mono S9.out)
                   have R9 := Lib.hid (R3.out.only0 o9)
                   clear hf9 t9 o9 v0)
                | (at_builtin
                   refine wpList_appS rfl (.tmp 59) (.tmp 67) rfl w1.heap.size _ p _ hs (clk (evs xs)) B9 n9 q9 g9 rfl rfl R9.out.row R9.out.only.size T9.out F9.out.1 F9.out.2 (by omega) ?_
                   intro A2 cap2 w8 h8 o8
                   have R8 : Hid (CFr w1 w8 A2 (p + 1) cap2 (hs ++ [⟨B9, n9, q9⟩]) (clk (evs xs))) := ⟨h8, R9.out.only.trans o8 (fun k hk => .inr (R9.out.row.new k (by simpa using hk)))⟩
                   clear h8 o8))
              go_roundg (m + 1 - (p + 1))
              case measure => omega
              case rel => exact ⟨p + 1, A2, cap2, _, by simp, rfl, by omega, by omega, R8⟩
            · -- the last that told: some
              have O2 := Lib.hid (fun (W : World) (o : Only [] w1 W) => (fo.out p hpl W o))
              rw [HEV.out, HP.out] at O2
              change Hid (∀ (W : World), Only [] w1 W → Calls _ _ _ W fun e w' => e = .returned (.int .i64 (k2 : Int)) ∧ _) at O2
              go_wp2_with fail
              refine (O2.out w2 R2.out.only).mono ?_
              rintro e w3 ⟨rfl, o3⟩
              have R3 := Lib.hid (R2.out.only0 o3)
              have T2 := Lib.hid (T1.out.only o3 (by simp))
              have hkm2 : k2 < p := LP.out k2 rfl
              obtain ⟨gr2, g2, ⟨B2, n2, q2⟩, ea2, x2, _, t2⟩ := R3.out.row.at_ (LP.out k2 rfl)
              injection ea2 with ea2
              injection ea2 with ea2
              subst ea2
              have T3 := Lib.hid t2
              clear t2 o3
              have HC : Hid (clk (evs xs) p = tickM (joinM (clk (evs xs) k1) (clk (evs xs) k2)) ev.who) := by
                have h8 := C.out
                rw [HH.out, if_pos rfl] at h8
                exact h8
              have HJ : Hid ((joinM (clk (evs xs) k1) (clk (evs xs) k2)).length ≤ 64) := by
                have h8 := F.out.1.1
                have h9 := F.out.2.1
                change (clk (evs xs) k1).length ≤ 64 at h8
                change (clk (evs xs) k2).length ≤ 64 at h9
                show _ ≤ _
                rw [joinM_len]
                omega
              have JN := Lib.hid (rJoin B1 n1 q1 (clk (evs xs) k1) B2 n2 q2 (clk (evs xs) k2) w3 (T2.out.len) T3.out.len (by have h7 : (clk (evs xs) k1).length = n1 := T2.out.len; have h8 := F.out.1.1; change (clk (evs xs) k1).length ≤ 64 at h8; omega) (by have h7 : (clk (evs xs) k2).length = n2 := T3.out.len; have h9 := F.out.2.1; change (clk (evs xs) k2).length ≤ 64 at h9; omega) T2.out.nums.zero T3.out.nums.zero)
              go_wp2_with fail
              refine JN.out.mono ?_
              clear JN
              rintro e w4 ⟨B4, q4, rfl, n4, o4, _⟩
              have R4 := Lib.hid (R3.out.only0 o4)
              have N4 := Lib.hid n4.zero
              clear n4 o4
              have hv9 := (HE.out.only0 R4.out.only) p _ (evs_get (by have := HM.out; omega))
              rw [HEV.out] at hv9
              obtain ⟨g9', eg9, v0, _⟩ := hv9
              injection eg9 with eg9
              injection eg9 with eg9
              subst eg9
              have TK : Hid (Calls Try.prog 47 #[.slice B4 (joinM (clk (evs xs) k1) (clk (evs xs) k2)).length q4, .int .i64 ev.who] w4 (Fresh w4 (clk (evs xs) p))) := by
                have h9 := rTick B4 (joinM (clk (evs xs) k1) (clk (evs xs) k2)).length q4 (joinM (clk (evs xs) k1) (clk (evs xs) k2)) ev.who w4 rfl (by have := HJ.out; omega) N4.out
                rw [← HC.out] at h9
                exact h9
              go_wp2_with (first
                | (refine TK.out.mono ?_
                   clear TK
                   intro e w9 hf9
                   obtain ⟨B9, n9, q9, g9, rfl, t9, o9⟩ := hf9.tp ct.out
                   have F9 := Lib.hid (R4.out.row.fresh t9)
                   have S9 : Hid (w1.heap.size ≤ w4.heap.size) := R4.out.only.size
                   have T9 := Lib.hid (t9.mono S9.out)
                   have R9 := Lib.hid (R4.out.only0 o9)
                   clear hf9 t9 o9 v0)
                | (at_builtin
                   refine wpList_appS rfl (.tmp 59) (.tmp 67) rfl w1.heap.size _ p _ hs (clk (evs xs)) B9 n9 q9 g9 rfl rfl R9.out.row R9.out.only.size T9.out F9.out.1 F9.out.2 (by omega) ?_
                   intro A2 cap2 w8 h8 o8
                   have R8 : Hid (CFr w1 w8 A2 (p + 1) cap2 (hs ++ [⟨B9, n9, q9⟩]) (clk (evs xs))) := ⟨h8, R9.out.only.trans o8 (fun k hk => .inr (R9.out.row.new k (by simpa using hk)))⟩
                   clear h8 o8))
              go_roundg (m + 1 - (p + 1))
              case measure => omega
              case rel => exact ⟨p + 1, A2, cap2, _, by simp, rfl, by omega, by omega, R8⟩
        · have KB := Lib.hid b1
          have HH : Hid (hearsK ev.kind = true) := by rw [HK.out, KB.out]; rfl
          rcases r2 with _ | k2
          · -- the last that told: none
            have O2 := Lib.hid (fun (W : World) (o : Only [] w1 W) => (fo.out p hpl W o))
            rw [HEV.out, HP.out] at O2
            change Hid (∀ (W : World), Only [] w1 W → Calls _ _ _ W fun e w' => e = .returned (.int .i64 (-1)) ∧ _) at O2
            go_wp2_with fail
            refine (O2.out w2 R2.out.only).mono ?_
            rintro e w3 ⟨rfl, o3⟩
            have R3 := Lib.hid (R2.out.only0 o3)
            have T2 := Lib.hid (T1.out.only o3 (by simp))
            have HC : Hid (clk (evs xs) p = tickM (clk (evs xs) k1) ev.who) := by
              have h8 := C.out
              rw [HH.out, if_pos rfl] at h8
              change clk (evs xs) p = tickM (joinM (clk (evs xs) k1) []) ev.who at h8
              have hj0 := joinM_none (c := (clk (evs xs) k1)) (fun k => (F.out.1.2 k).1)
              rw [hj0] at h8
              exact h8
            clear o3
            have hv9 := (HE.out.only0 R3.out.only) p _ (evs_get (by have := HM.out; omega))
            rw [HEV.out] at hv9
            obtain ⟨g9', eg9, v0, _⟩ := hv9
            injection eg9 with eg9
            injection eg9 with eg9
            subst eg9
            have TK : Hid (Calls Try.prog 47 #[.slice B1 n1 q1, .int .i64 ev.who] w3 (Fresh w3 (clk (evs xs) p))) := by
              have h9 := rTick B1 n1 q1 (clk (evs xs) k1) ev.who w3 (T2.out.len) (by have h7 : (clk (evs xs) k1).length = n1 := T2.out.len; have h8 := F.out.1.1; change (clk (evs xs) k1).length ≤ 64 at h8; omega) T2.out.nums.zero
              rw [← HC.out] at h9
              exact h9
            go_wp2_with (first
              | (refine TK.out.mono ?_
                 clear TK
                 intro e w9 hf9
                 obtain ⟨B9, n9, q9, g9, rfl, t9, o9⟩ := hf9.tp ct.out
                 have F9 := Lib.hid (R3.out.row.fresh t9)
                 have S9 : Hid (w1.heap.size ≤ w3.heap.size) := R3.out.only.size
                 have T9 := Lib.hid (t9.mono S9.out)
                 have R9 := Lib.hid (R3.out.only0 o9)
                 clear hf9 t9 o9 v0)
              | (at_builtin
                 refine wpList_appS rfl (.tmp 59) (.tmp 67) rfl w1.heap.size _ p _ hs (clk (evs xs)) B9 n9 q9 g9 rfl rfl R9.out.row R9.out.only.size T9.out F9.out.1 F9.out.2 (by omega) ?_
                 intro A2 cap2 w8 h8 o8
                 have R8 : Hid (CFr w1 w8 A2 (p + 1) cap2 (hs ++ [⟨B9, n9, q9⟩]) (clk (evs xs))) := ⟨h8, R9.out.only.trans o8 (fun k hk => .inr (R9.out.row.new k (by simpa using hk)))⟩
                 clear h8 o8))
            go_roundg (m + 1 - (p + 1))
            case measure => omega
            case rel => exact ⟨p + 1, A2, cap2, _, by simp, rfl, by omega, by omega, R8⟩
          · -- the last that told: some
            have O2 := Lib.hid (fun (W : World) (o : Only [] w1 W) => (fo.out p hpl W o))
            rw [HEV.out, HP.out] at O2
            change Hid (∀ (W : World), Only [] w1 W → Calls _ _ _ W fun e w' => e = .returned (.int .i64 (k2 : Int)) ∧ _) at O2
            go_wp2_with fail
            refine (O2.out w2 R2.out.only).mono ?_
            rintro e w3 ⟨rfl, o3⟩
            have R3 := Lib.hid (R2.out.only0 o3)
            have T2 := Lib.hid (T1.out.only o3 (by simp))
            have hkm2 : k2 < p := LP.out k2 rfl
            obtain ⟨gr2, g2, ⟨B2, n2, q2⟩, ea2, x2, _, t2⟩ := R3.out.row.at_ (LP.out k2 rfl)
            injection ea2 with ea2
            injection ea2 with ea2
            subst ea2
            have T3 := Lib.hid t2
            clear t2 o3
            have HC : Hid (clk (evs xs) p = tickM (joinM (clk (evs xs) k1) (clk (evs xs) k2)) ev.who) := by
              have h8 := C.out
              rw [HH.out, if_pos rfl] at h8
              exact h8
            have HJ : Hid ((joinM (clk (evs xs) k1) (clk (evs xs) k2)).length ≤ 64) := by
              have h8 := F.out.1.1
              have h9 := F.out.2.1
              change (clk (evs xs) k1).length ≤ 64 at h8
              change (clk (evs xs) k2).length ≤ 64 at h9
              show _ ≤ _
              rw [joinM_len]
              omega
            have JN := Lib.hid (rJoin B1 n1 q1 (clk (evs xs) k1) B2 n2 q2 (clk (evs xs) k2) w3 (T2.out.len) T3.out.len (by have h7 : (clk (evs xs) k1).length = n1 := T2.out.len; have h8 := F.out.1.1; change (clk (evs xs) k1).length ≤ 64 at h8; omega) (by have h7 : (clk (evs xs) k2).length = n2 := T3.out.len; have h9 := F.out.2.1; change (clk (evs xs) k2).length ≤ 64 at h9; omega) T2.out.nums.zero T3.out.nums.zero)
            go_wp2_with fail
            refine JN.out.mono ?_
            clear JN
            rintro e w4 ⟨B4, q4, rfl, n4, o4, _⟩
            have R4 := Lib.hid (R3.out.only0 o4)
            have N4 := Lib.hid n4.zero
            clear n4 o4
            have hv9 := (HE.out.only0 R4.out.only) p _ (evs_get (by have := HM.out; omega))
            rw [HEV.out] at hv9
            obtain ⟨g9', eg9, v0, _⟩ := hv9
            injection eg9 with eg9
            injection eg9 with eg9
            subst eg9
            have TK : Hid (Calls Try.prog 47 #[.slice B4 (joinM (clk (evs xs) k1) (clk (evs xs) k2)).length q4, .int .i64 ev.who] w4 (Fresh w4 (clk (evs xs) p))) := by
              have h9 := rTick B4 (joinM (clk (evs xs) k1) (clk (evs xs) k2)).length q4 (joinM (clk (evs xs) k1) (clk (evs xs) k2)) ev.who w4 rfl (by have := HJ.out; omega) N4.out
              rw [← HC.out] at h9
              exact h9
            go_wp2_with (first
              | (refine TK.out.mono ?_
                 clear TK
                 intro e w9 hf9
                 obtain ⟨B9, n9, q9, g9, rfl, t9, o9⟩ := hf9.tp ct.out
                 have F9 := Lib.hid (R4.out.row.fresh t9)
                 have S9 : Hid (w1.heap.size ≤ w4.heap.size) := R4.out.only.size
                 have T9 := Lib.hid (t9.mono S9.out)
                 have R9 := Lib.hid (R4.out.only0 o9)
                 clear hf9 t9 o9 v0)
              | (at_builtin
                 refine wpList_appS rfl (.tmp 59) (.tmp 67) rfl w1.heap.size _ p _ hs (clk (evs xs)) B9 n9 q9 g9 rfl rfl R9.out.row R9.out.only.size T9.out F9.out.1 F9.out.2 (by omega) ?_
                 intro A2 cap2 w8 h8 o8
                 have R8 : Hid (CFr w1 w8 A2 (p + 1) cap2 (hs ++ [⟨B9, n9, q9⟩]) (clk (evs xs))) := ⟨h8, R9.out.only.trans o8 (fun k hk => .inr (R9.out.row.new k (by simpa using hk)))⟩
                 clear h8 o8))
            go_roundg (m + 1 - (p + 1))
            case measure => omega
            case rel => exact ⟨p + 1, A2, cap2, _, by simp, rfl, by omega, by omega, R8⟩
      -- END
    · have h2 : ¬ ((p : Int) < (m : Int)) := by omega
      have h3 : decide ((p : Int) < (m : Int)) = false := decide_eq_false h2
      obtain rfl : p = m := by omega
      go_wp2_with fail
      go_ret
      exact ⟨A1, cap1, rfl, hs, R.out⟩
end Go.Proofs.Ytmgmfihjojhilaa
