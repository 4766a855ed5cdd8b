/-
  The document's scheduler: Starts, Flows.
-/
import Derived.Test.YtklolepmmabijaaGreatGmA
import Derived.Test.YtklolepmmabijaaGreatGmI
namespace Go.Proofs.YtklolepmmabijaaGreat
set_option maxRecDepth 100000
open Go.RowKit
set_option linter.unusedVariables false
set_option linter.unusedSimpArgs false
set_option maxRecDepth 100000

theorem itemsK_take {S : Sq} {es : List En} (hk : es.map En.key = S.l) {p : Nat} {e : En} (he : es[p]? = some e) : itemsK (S.l.take (p + 1)) = itemsK (S.l.take p) ++ (if e.F.any then [(⟨e.F.s, e.id⟩ : It)] else []) := by
  have h1 := key_at hk he
  obtain ⟨hl, h2⟩ := List.getElem?_eq_some_iff.1 h1
  unfold itemsK
  rw [List.take_succ_eq_append_getElem hl, List.filter_append, List.map_append, h2]
  congr 1
  by_cases h : e.F.any = true
  · simp [h, itemK]
  · simp [h]
theorem items_new {S : Sq} {es : List En} (hk : es.map En.key = S.l) (hs : Srt S.l) {p : Nat} {e : En} (he : es[p]? = some e) : hasId e.id (insAll (itemsK (S.l.take p))) = false := by
  rw [hasId_not]
  intro x hx e1
  have hx2 := (insAll_perm _).subset hx
  obtain ⟨d, hd, _, rfl⟩ := itemsK_mem.1 hx2
  obtain ⟨j, hj⟩ := List.getElem?_of_mem hd
  have hjp : j < p := by
    have := (List.getElem?_eq_some_iff.1 hj).1
    simp at this
    omega
  rw [List.getElem?_take, if_pos hjp] at hj
  have := hs.lt hjp hj (key_at hk he)
  simp only [itemK] at e1
  simp only at this
  omega
set_option maxHeartbeats 4000000 in
theorem zStarts (w : World) (b : Nat) (S : Sq) (O : List Nat) (h : RqOf w b S O) :
    Calls Tryz.prog 35 #[.pointer (some ⟨b, 0, none⟩)] w fun e w' => ∃ A cap, e = .returned (.slice A (startsK S.l).length cap) ∧ RowIs w' (.slice A (startsK S.l).length cap) (startsK S.l) ∧ (∀ k, (Value.slice A (startsK S.l).length cap).ownBlock = some k → w.heap.size ≤ k) ∧ Only [] w w' := by
  obtain ⟨u, es, h, rfl⟩ := h
  have hb := h.blk.lt
  have hl1 : es.length ≤ 1000 := by have := h.ok.len; have := key_len h.key; omega
  have hget : Hid (∀ k : Nat, k < es.length → ∃ e : En, es[k]? = some e) := fun k hk => ⟨_, List.getElem?_eq_getElem hk⟩
  obtain ⟨A, cap, ev⟩ := h.row.form
  rw [List.length_map] at ev
  subst ev
  have o0 : Only [] w (w.alloc (.cells #[.slice none 0 0] 104)) := (Only.refl [] w).alloc _
  have hI : ItemsOf (104, []) (w.alloc (.cells #[.slice none 0 0] 104)) w.heap.size [w.heap.size] [] := ⟨.slice none 0 0, rfl, ⟨heap_alloc_new w _, by decide, RowIs.nil _⟩, by simp⟩
  have H := Lib.hid h
  have HI := Lib.hid (And.intro hI o0)
  clear h hI o0
  generalize hn : es.length = n at *
  have HN := Lib.hid hn
  clear hn
  go_enter Tryz.func35, Tryz.ntmps35
  go_wp2_with fail
  generalize w.alloc (.cells #[.slice none 0 0] 104) = V at *
  obtain ⟨N, eN⟩ : ∃ N, w.heap.size = N := ⟨_, rfl⟩
  have HW := Lib.hid eN
  rw [eN] at HI ⊢
  clear eN
  go_loopg [4] (n + 1) (fun gk si wr => ∃ (p : Nat) (T : List Nat), si = .int .i64 (p : Int) ∧ p ≤ n ∧ n + 1 ≤ gk + p ∧ Hid (ItemsOf (104, []) wr N T (insAll (itemsK (S.l.take p)))) ∧ Hid (∀ k ∈ T, N ≤ k) ∧ Hid (Only [] w wr))
  case atStart => exact ⟨0, [N], rfl, by omega, by omega, HI.out.1, by intro k hk; simp at hk; omega, HI.out.2⟩
  case round =>
    obtain ⟨p, T, rfl, hp, hg, hI, hT, ho⟩ := hrel
    have Hr := Lib.hid (H.out.only0 ho.out)
    obtain ⟨c0, c1, c2⟩ := Hr.out.blk.c
    clear HI
    by_cases hpl : p < n
    · have hpl' : (p : Int) < (n : Int) := by omega
      obtain ⟨e, he⟩ := hget.out p hpl
      obtain ⟨g, rfl, hgl, d0⟩ := prow_at Hr.out.row wr (Only.refl _ _) p e he
      obtain ⟨k0, ⟨A3, cap3, k3⟩, s, k4, hs⟩ := ref_c (Hr.out.fam.each e (List.mem_of_getElem? he))
      have hit := Lib.hid (itemsK_take H.out.key he)
      have hnew := Lib.hid (items_new H.out.key H.out.ok.srt he)
      clear he
      rcases ha : e.F.any with _ | _
      · have h0 : e.F.l.length = 0 := by
          unfold Fl.any at ha
          rcases hl : e.F.l with _ | ⟨x, t⟩
          · rfl
          · rw [hl] at ha; cases ha
        rw [h0] at k3
        go_wp2_with fail
        go_roundg (n + 1 - (p + 1))
        case measure => omega
        case rel =>
          have h9 := hit.out
          rw [ha] at h9
          simp only [Bool.false_eq_true, if_false, List.append_nil] at h9
          exact ⟨p + 1, T, by simp, by omega, by omega, by rw [h9]; exact hI.out, hT.out, ho.out⟩
      · have h0 : (0 : Int) < (e.F.l.length : Int) := by
          unfold Fl.any at ha
          rcases hl : e.F.l with _ | ⟨x, t⟩
          · rw [hl] at ha; cases ha
          · simp
        have es := hs ha
        subst es
        generalize e.F.l.length = m at *
        have hpu := xPush (104, []) wr.drew N T (insAll (itemsK (S.l.take p))) (hI.out.only0 (Only.refl [] wr).drew) ⟨e.F.s, e.id⟩ (by
          rw [(insAll_perm _).length_eq]
          have h1 : (itemsK (S.l.take p)).length ≤ (S.l.take p).length := by unfold itemsK; rw [List.length_map]; exact List.length_filter_le _ _
          have h2 := H.out.ok.len
          have h3 := List.length_take_le p S.l
          omega)
        go_wp2_with fail
        go_still_tail 21, (by kernel_rfl)
        change wpList _ _ _ _ _ wr.drew
        go_wp2_with fail
        refine hpu.mono ?_
        rintro e1 w2 ⟨rfl, T2, i2, mv2⟩
        have R2 := Lib.hid (And.intro i2 mv2)
        clear hpu i2 mv2
        go_wp2_with fail
        go_roundg (n + 1 - (p + 1))
        case measure => omega
        case rel =>
          obtain ⟨i2, mv2⟩ := R2.out
          have h9 := hit.out
          rw [ha] at h9
          simp only [if_true] at h9
          rw [hnew.out] at i2
          simp only [Bool.false_eq_true, if_false] at i2
          have hsz := ho.out.size
          have hW := HW.out
          refine ⟨p + 1, T2, by simp, by omega, by omega, ?_, fun k hk => ?_, ?_⟩
          · rw [h9, insAll_step]; exact i2
          · rcases mv2.2 k hk with h3 | h3
            · exact hT.out k h3
            · have : wr.heap.size ≤ k := h3
              omega
          · exact (ho.out.drew).trans mv2.1 (fun k hk => .inr (by have := hT.out k hk; omega))
    · have hpl' : ¬ ((p : Int) < (n : Int)) := by omega
      have hpn : p = n := by omega
      obtain ⟨v, eT, hv, hvl⟩ := hI.out
      have hx := hv.c0
      have eS : S.l.take p = S.l := by rw [List.take_of_length_le (by have := key_len H.out.key; have := HN.out; omega)]
      rw [eS] at hv
      have hrow : RowIs wr v (startsK S.l) := hv.row
      obtain ⟨A1, cap1, ev⟩ := hrow.form
      have hfr : ∀ k, v.ownBlock = some k → N ≤ k := fun k hk => hT.out k (by rw [eT]; simp [iown, hk])
      subst ev
      have R := Lib.hid (And.intro hrow hfr)
      have hW := HW.out
      clear hv hfr hvl eT eS hpn hI hrow
      go_wp2_with fail
      go_ret
      exact ⟨_, _, rfl, R.out.1, fun k hk => by have := R.out.2 k hk; omega, ho.out⟩
set_option maxHeartbeats 2000000 in
theorem zFlows (w : World) (b : Nat) (S : Sq) (O : List Nat) (h : RqOf w b S O) :
    Calls Tryz.prog 36 #[.pointer (some ⟨b, 0, none⟩)] w fun e w' => ∃ A cap, e = .returned (.slice A (S.l.map (·.1)).length cap) ∧ iE.Row w' (.slice A (S.l.map (·.1)).length cap) (S.l.map (·.1)) ∧ (∀ k, (Value.slice A (S.l.map (·.1)).length cap).ownBlock = some k → w.heap.size ≤ k) ∧ Only [] w w' := by
  obtain ⟨u, es, h, rfl⟩ := h
  have hl1 : es.length ≤ 1000 := by have := h.ok.len; have := key_len h.key; omega
  have hget : Hid (∀ k : Nat, k < es.length → ∃ e : En, es[k]? = some e) := fun k hk => ⟨_, List.getElem?_eq_getElem hk⟩
  obtain ⟨A, cap, ev⟩ := h.row.form
  rw [List.length_map] at ev
  subst ev
  have hat : Hid (∀ (i : Nat) (e : En), es[i]? = some e → (S.l.map (·.1)).take (i + 1) = (S.l.map (·.1)).take i ++ [e.id]) := fun i e he => by
    have h1 : (S.l.map (·.1))[i]? = some e.id := by rw [List.getElem?_map, key_at h.key he]; rfl
    obtain ⟨hl, h2⟩ := List.getElem?_eq_some_iff.1 h1
    rw [List.take_succ_eq_append_getElem hl, h2]
  have hll : Hid ((S.l.map (·.1)).length = es.length) := by show _ = _; rw [List.length_map, key_len h.key]
  have H := Lib.hid h
  clear h
  generalize hn : es.length = n at *
  have HN := Lib.hid hn
  clear hn
  generalize S.l.map (·.1) = l at *
  go_enter Tryz.func36, Tryz.ntmps36
  go_wp2_with fail
  go_loopg [3, 4] (n + 1) (fun gk sl si wr => ∃ (p : Nat) (A1 : Option Addr) (cap1 : Nat), si = .int .i64 (p : Int) ∧ sl = .slice A1 p cap1 ∧ p ≤ n ∧ n + 1 ≤ gk + p ∧ Hid (iE.Row wr (.slice A1 p cap1) (l.take p)) ∧ Hid (∀ k, (Value.slice A1 p cap1).ownBlock = some k → w.heap.size ≤ k) ∧ Hid (Only [] w wr))
  case atStart => exact ⟨0, none, 0, rfl, rfl, by omega, by omega, El.Row.nil _, fun k hk => by simp [Value.ownBlock] at hk, Only.refl _ _⟩
  case round =>
    obtain ⟨p, A1, cap1, rfl, rfl, hp, hg, hR, hF, ho⟩ := hrel
    have Hr := Lib.hid (H.out.only0 ho.out)
    obtain ⟨c0, c1, c2⟩ := Hr.out.blk.c
    by_cases hpl : p < n
    · have hpl' : (p : Int) < (n : Int) := by omega
      obtain ⟨e, he⟩ := hget.out p hpl
      obtain ⟨g, rfl, hgl, d0⟩ := prow_at Hr.out.row wr (Only.refl _ _) p e he
      obtain ⟨k0, _, _⟩ := ref_c (Hr.out.fam.each e (List.mem_of_getElem? he))
      have hA := Lib.hid (hat.out p e he)
      have oB : Only [] wr (wr.alloc (.cells #[.int .i64 e.id] 3)) := (Only.refl [] wr).alloc _
      have HB := Lib.hid (And.intro oB (And.intro (El.Src.box (E := iE) (x := e.id) (heap_alloc_new wr _)) (hR.out.only0 oB)))
      clear oB he
      go_wp2_with (first
        | (at_builtin
           refine El.wpList_append (E := iE) Tryz.underlying44 rfl (.tmp 14) (.tmp 25) rfl (.slice A1 p cap1) (l.take p) rfl HB.out.2.2 _ 1 1 [e.id] rfl rfl HB.out.2.1 (p + 1) (by rw [List.length_take, hll.out]; omega) (by omega) ?_
           intro A2 cap2 w2 r2 g2 l2
           have R2 := Lib.hid (And.intro r2 (And.intro g2 l2))
           clear r2 g2 l2))
      go_roundg (n + 1 - (p + 1))
      case measure => omega
      case rel =>
        obtain ⟨r2, g2, l2⟩ := R2.out
        have hsz := ho.out.size
        refine ⟨p + 1, A2, cap2, by simp, rfl, by omega, by omega, ?_, fun k hk => ?_, ?_⟩
        · rw [hA.out]; exact r2
        · rcases l2 with l2 | l2
          · exact hF.out k (l2 ▸ hk)
          · rw [l2] at hk
            simp at hk
            omega
        · exact (ho.out.trans' HB.out.1).grown g2 (fun k hk => .inr (hF.out k hk))
    · have hpl' : ¬ ((p : Int) < (n : Int)) := by omega
      obtain rfl : p = n := by omega
      go_wp2_with fail
      go_ret
      have h2 := hR.out
      have h3 := hll.out
      rw [List.take_of_length_le (by omega)] at h2
      subst h3
      exact ⟨A1, cap1, rfl, h2, hF.out, ho.out⟩
end Go.Proofs.YtklolepmmabijaaGreat
