/-
  Ours: Flows, Copy.
-/
import Derived.Test.YtklolepmmabijaaGmP
namespace Go.Proofs.Ytklolepmmabijaa
set_option maxRecDepth 100000
open Go.RowKit
set_option linter.unusedVariables false
set_option linter.unusedSimpArgs false
set_option maxRecDepth 100000

def idsK (K : List (Int × Fl)) : List Int := K.map (·.1)
theorem idsK_at {S : Sq} {es : List En} (hk : es.map En.key = S.l) {i : Nat} {e : En} (hi : es[i]? = some e) : (idsK S.l)[i]? = some e.id := by
  unfold idsK
  rw [List.getElem?_map, key_at hk hi]
  rfl
set_option maxHeartbeats 2000000 in
theorem sFlows (w : World) (b : Nat) (S : Sq) (O : List Nat) (h : SqOf w b S O) :
    Calls Try.prog 22 #[.pointer (some ⟨b, 0, none⟩)] w fun e w' => ∃ A cap, e = .returned (.slice A (idsK S.l).length cap) ∧ iE.Row w' (.slice A (idsK S.l).length cap) (idsK S.l) ∧ (∀ k, (Value.slice A (idsK S.l).length cap).ownBlock = some k → w.heap.size ≤ k) ∧ Only [] w w' := by
  obtain ⟨u, es, h, rfl⟩ := h
  obtain ⟨c0, c1, c2⟩ := h.blk.c
  obtain ⟨A, cap, ev⟩ := h.row.form
  rw [List.length_map] at ev
  subst ev
  have hl1 : es.length ≤ 1000 := by have := h.ok.len; have := key_len h.key; omega
  have hl2 : (idsK S.l).length = es.length := by unfold idsK; rw [List.length_map, key_len h.key]
  have hat : Hid (∀ (i : Nat) (e : En), es[i]? = some e → (idsK S.l)[i]? = some e.id) := fun i e => idsK_at h.key
  have hget : Hid (∀ k : Nat, k < es.length → ∃ e : En, es[k]? = some e) := fun k hk => ⟨_, List.getElem?_eq_getElem hk⟩
  have row := Lib.hid (mrow_at h.row)
  have hmk := El.run_make_ (E := iE) Try.underlying34 w es.length es.length (Nat.le_refl _) (by omega)
  have hr0 := Lib.hid (El.Row.made (E := iE) 0 rfl w es.length (by omega))
  have ho0 : Hid (Only [] w (w.alloc (.cells (madeCells iE.z.cells (es.length * 1)) iE.T))) := (Only.refl [] w).alloc _
  have c2' : (w.alloc (.cells (madeCells iE.z.cells (es.length * 1)) iE.T)).cell? ⟨b, 2, none⟩ = some (.slice A es.length cap) := (h.blk.only0 ho0.out).c.2.2
  have hb := h.blk.lt
  clear h
  generalize w.alloc (.cells (madeCells iE.z.cells (es.length * 1)) iE.T) = W at *
  generalize idsK S.l = l at *
  rw [hl2]
  have HN := Lib.hid hl2
  clear hl2
  generalize es.length = n at *
  go_enter Try.func22, Try.ntmps22
  go_wp2_with fail
  obtain ⟨G, eG⟩ : ∃ G, w.heap.size = G := ⟨_, rfl⟩
  have HG := Lib.hid eG
  rw [eG] at hr0 hmk ⊢
  clear eG hmk c2'
  go_loopg [17] (n + 1) (fun gk si wr => ∃ (p : Nat) (L : List Int), si = .int .i64 (p : Int) ∧ p ≤ n ∧ n + 1 ≤ gk + p ∧ Hid (L.length = n) ∧ Hid (iE.Row wr (.slice (some ⟨G, 0, none⟩) n n) L) ∧ Hid (∀ j, j < p → L[j]? = l[j]?) ∧ Hid (Only [] w wr))
  case atStart => exact ⟨0, _, rfl, by omega, by omega, by show (List.replicate n _).length = n; simp, hr0, fun j hj => absurd hj (by omega), ho0⟩
  case round =>
    obtain ⟨p, L, rfl, hp, hg, hLl, hR, hL, ho⟩ := hrel
    clear hr0 ho0
    by_cases hpl : p < n
    · have hpl' : (p : Int) < (n : Int) := by omega
      obtain ⟨e, he⟩ := hget.out p hpl
      obtain ⟨z, hz⟩ : ∃ z, L[p]? = some z := ⟨_, List.getElem?_eq_getElem (by rw [hLl.out]; exact hpl)⟩
      obtain ⟨g, rfl, d0, d1⟩ := row.out wr ho.out p e he
      obtain ⟨G', e1, hG', hc⟩ := hR.out.cell hz
      injection e1 with e1
      injection e1 with e1
      subst e1
      obtain ⟨y0, yf0⟩ := hc 0 _ rfl
      simp only [Nat.add_zero, Nat.mul_one] at y0 yf0
      have HX := Lib.hid (hat.out p e he)
      clear hc hz he
      go_wp2_with fail
      go_roundg (n + 1 - (p + 1))
      case measure => omega
      case rel =>
        have hGw : w.heap.size = G := HG.out
        refine ⟨p + 1, L.set p e.id, by simp, by omega, by omega, by show (L.set p e.id).length = n; rw [List.length_set]; exact hLl.out, ?_, fun j hj => ?_, ?_⟩
        · exact (hR.out.store1 p e.id _ rfl).only ((Only.refl [] _).alloc _) (by simp)
        · rw [List.getElem?_set]
          by_cases e2 : p = j
          · subst e2
            rw [if_pos rfl, if_pos (by rw [hLl.out]; exact hpl), HX.out]
          · rw [if_neg e2]; exact hL.out j (by omega)
        · exact (ho.out.setCell (.inr (by simp; omega)) _).alloc _
    · have hpl' : ¬ ((p : Int) < (n : Int)) := by omega
      obtain rfl : p = n := by omega
      go_wp2_with fail
      go_ret
      have e1 : L = l := by
        apply List.ext_getElem?
        intro j
        rcases Nat.lt_or_ge j p with h1 | h1
        · exact hL.out j h1
        · rw [List.getElem?_eq_none (by rw [hLl.out]; exact h1), List.getElem?_eq_none (by rw [HN.out]; exact h1)]
      have hRl := hR.out
      rw [e1] at hRl
      have hGw : w.heap.size = G := HG.out
      refine ⟨_, _, rfl, hRl, fun k hk => ?_, ho.out⟩
      simp [Value.ownBlock] at hk
      omega
/-- A copy that is under way: the first p flows are there. -/
structure Cpy (w : World) (G n : Nat) (S : Sq) (es : List En) (wr : World) (p : Nat) (ds : List En) (L : List (Int × Option Nat)) : Prop where
  blk : SBlk wr (G + 1) S.v S.m (.slice (some ⟨G, 0, none⟩) n n)
  row : mE.Row wr (.slice (some ⟨G, 0, none⟩) n n) L
  len : L.length = n
  dl : ds.length = p
  key : ds.map En.key = (es.take p).map En.key
  eq : ∀ (j : Nat) (d : En), ds[j]? = some d → L[j]? = some d.mb
  fam : Fam Ours wr ds [G + 1, G]
  new : ∀ d ∈ ds, ∀ k ∈ d.O, w.heap.size ≤ k
  only : Only [] w wr
theorem Cpy.step {w wr W w3 : World} {G n p : Nat} {S : Sq} {es ds : List En} {L : List (Int × Option Nat)} (h : Cpy w G n S es wr p ds L) (hG : w.heap.size = G) {e : En} (he : es[p]? = some e) (hp : p < n) (o1 : Only [] wr W) (o2 : Only [] W w3) {nb : Nat} {O3 : List Nat} (hf : FlowOf w3 nb e.F O3) (hO : ∀ k ∈ O3, W.heap.size ≤ k) :
    Cpy w G n S es ((w3.setCell ⟨G, p * 2, none⟩ (.int .i64 e.id)).setCell ⟨G, p * 2 + 1, none⟩ (.pointer (some ⟨nb, 0, none⟩))) (p + 1) (ds ++ [⟨e.id, e.F, nb, O3⟩]) (L.set p (e.id, some nb)) := by
  have o13 := o1.trans' o2
  have hGl : G < wr.heap.size := h.row.lt rfl
  have hsz := o1.size
  have oG : Only [G] w3 ((w3.setCell ⟨G, p * 2, none⟩ (.int .i64 e.id)).setCell ⟨G, p * 2 + 1, none⟩ (.pointer (some ⟨nb, 0, none⟩))) := ((Only.refl [G] w3).setCell (by simp) _).setCell (by simp) _
  have hfa : FlowOf ((w3.setCell ⟨G, p * 2, none⟩ (.int .i64 e.id)).setCell ⟨G, p * 2 + 1, none⟩ (.pointer (some ⟨nb, 0, none⟩))) nb e.F O3 := hf.only oG (fun k hk hk2 => by
    simp at hk2
    have := hO k hk
    omega)
  obtain ⟨f1, g1⟩ := h.fam.added rep_ours (fun k hk => by
    simp at hk
    rcases hk with rfl | rfl
    · exact h.blk.lt
    · exact hGl) o13 (e := ⟨e.id, e.F, nb, O3⟩) (show FlowOf _ _ _ _ from hf) (fun k hk => Nat.le_trans hsz (hO k hk)) ds.length (oG.mono (T := [G + 1, G]) (by simp)) (X' := [G + 1, G]) (fun k hk => .inl hk)
  rw [List.take_length, List.drop_length] at f1
  refine ⟨(h.blk.only0 o13).only oG (by simp), (h.row.only0 o13).store2 p (e.id, some nb) _ _ rfl, by rw [List.length_set]; exact h.len, by rw [List.length_append, h.dl]; rfl, ?_, fun j d hd => ?_, f1, fun d hd k hk => ?_, ?_⟩
  · obtain ⟨hl, rfl⟩ := List.getElem?_eq_some_iff.1 he
    rw [List.map_append, h.key, List.take_succ_eq_append_getElem hl, List.map_append]
    rfl
  · rw [List.getElem?_set]
    by_cases e1 : p = j
    · subst e1
      rw [if_pos rfl, if_pos (by rw [h.len]; exact hp)]
      rw [List.getElem?_append_right (by rw [h.dl]; exact Nat.le_refl _), h.dl, Nat.sub_self] at hd
      simp at hd
      rw [← hd]
      rfl
    · rw [if_neg e1]
      have hj := (List.getElem?_eq_some_iff.1 hd).1
      rw [List.length_append, h.dl] at hj
      simp at hj
      rw [List.getElem?_append_left (by rw [h.dl]; omega)] at hd
      exact h.eq j d hd
  · rcases List.mem_append.1 hd with hd | hd
    · exact h.new d hd k hk
    · simp at hd
      subst hd
      exact Nat.le_trans h.only.size (Nat.le_trans hsz (hO k hk))
  · exact (((h.only.trans' o13).setCell (.inr (by simp; omega)) _).setCell (.inr (by simp; omega)) _)
theorem Cpy.done {w wr : World} {G n : Nat} {S : Sq} {u : Value} {es ds : List En} {L : List (Int × Option Nat)} (h : Cpy w G n S es wr n ds L) (hn : es.length = n) (hG : w.heap.size = G) (hk : es.map En.key = S.l) (hok : S.ok) :
    SqOf wr (G + 1) S (ownF (xOf (G + 1) (.slice (some ⟨G, 0, none⟩) n n)) ds) ∧ ∀ k ∈ ownF (xOf (G + 1) (.slice (some ⟨G, 0, none⟩) n n)) ds, w.heap.size ≤ k := by
  have e1 : L = ds.map En.mb := by
    apply List.ext_getElem?
    intro j
    rw [List.getElem?_map]
    rcases hd : ds[j]? with _ | d
    · have := List.getElem?_eq_none_iff.1 hd
      rw [h.dl] at this
      rw [List.getElem?_eq_none (by rw [h.len]; exact this)]
      rfl
    · rw [h.eq j d hd]
      rfl
  have e2 : ds.map En.key = S.l := by rw [h.key, ← hn, List.take_length, hk]
  refine ⟨⟨_, ds, ⟨hok, h.blk, e1 ▸ h.row, h.fam, e2⟩, rfl⟩, fun k hk => ?_⟩
  rcases mem_ownF.1 hk with hk | ⟨d, hd, hk⟩
  · rcases mem_xOf.1 hk with rfl | hk
    · omega
    · simp [Value.ownBlock] at hk; omega
  · exact h.new d hd k hk
end Go.Proofs.Ytklolepmmabijaa
