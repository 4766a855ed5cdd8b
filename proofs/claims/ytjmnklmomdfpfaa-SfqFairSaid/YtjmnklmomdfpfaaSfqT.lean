/-
  Ours: turns.
-/
import Derived.Test.YtjmnklmomdfpfaaSfqQ
namespace Go.Proofs.Ytjmnklmomdfpfaa
set_option maxRecDepth 100000
open Go.RowKit
set_option linter.unusedVariables false
set_option linter.unusedSimpArgs false
set_option maxRecDepth 100000

def tnOf (e : En) : It × Nat := (itemK e.key, e.b)
/-- Who waits. -/
def tnsOf (es : List En) : List (It × Nat) := (es.filter fun e => e.F.any).map tnOf
theorem tnsOf_take {es : List En} {k : Nat} {e : En} (hk : es[k]? = some e) : tnsOf (es.take (k + 1)) = tnsOf (es.take k) ++ (if e.F.any then [tnOf e] else []) := by
  obtain ⟨hl, rfl⟩ := List.getElem?_eq_some_iff.1 hk
  unfold tnsOf
  rw [List.take_succ_eq_append_getElem hl, List.filter_append, List.map_append]
  congr 1
  by_cases h : es[k].F.any = true
  · simp [h]
  · simp [h]
theorem tnsOf_len (es : List En) : (tnsOf es).length ≤ es.length := by unfold tnsOf; rw [List.length_map]; exact List.length_filter_le _ _

set_option maxHeartbeats 2000000 in
theorem sTurns (w : World) (b : Nat) (S : Sq) (u : Value) (es : List En) (h : SqIs w b S u es) :
    Calls Try.prog 39 #[.pointer (some ⟨b, 0, none⟩)] w fun e w' => ∃ A cap, e = .returned (.slice A (tnsOf es).length cap) ∧ tE.Row w' (.slice A (tnsOf es).length cap) (tnsOf es) ∧ (∀ k, (Value.slice A (tnsOf es).length cap).ownBlock = some k → w.heap.size ≤ k) ∧ Only [] w w' := by
  obtain ⟨c0, c1, c2⟩ := h.blk.c
  obtain ⟨A, cap, ev⟩ := h.row.form
  rw [List.length_map] at ev
  subst ev
  have H := Lib.hid h
  have hl1 : es.length ≤ 1000 := by have := h.ok.len; have := key_len h.key; omega
  have hget : Hid (∀ k : Nat, k < es.length → ∃ e : En, es[k]? = some e) := fun k hk => ⟨_, List.getElem?_eq_getElem hk⟩
  have hmk := El.run_make_ (E := tE) Try.underlying71 w 0 es.length (by omega) (by omega)
  have hr0 := Lib.hid (El.Row.made0 (E := tE) w es.length (by omega))
  have ho0 : Hid (Only [] w (w.alloc (.cells (madeCells tE.z.cells (es.length * 3)) tE.T))) := (Only.refl [] w).alloc _
  have c2' : (w.alloc (.cells (madeCells tE.z.cells (es.length * 3)) tE.T)).cell? ⟨b, 2, none⟩ = some (.slice A es.length cap) := (h.blk.only0 ho0.out).c.2.2
  have hb := h.blk.lt
  change (Instr.makeSlice _ (.int .i64 0) _).run _ _ = _ at hmk
  clear h
  generalize w.alloc (.cells (madeCells tE.z.cells (es.length * 3)) tE.T) = W at *
  go_enter Try.func39, Try.ntmps39
  go_wp2_with fail
  go_loopg [3, 19] (es.length + 1) (fun gk sl si wr => ∃ (p : Nat) (A1 : Option Addr) (n1 cap1 : Nat), si = .int .i64 (p : Int) ∧ sl = .slice A1 n1 cap1 ∧ p ≤ es.length ∧ es.length + 1 ≤ gk + p ∧ Hid (n1 = (tnsOf (es.take p)).length) ∧ Hid (tE.Row wr (.slice A1 n1 cap1) (tnsOf (es.take p))) ∧ Hid (∀ k, (Value.slice A1 n1 cap1).ownBlock = some k → w.heap.size ≤ k) ∧ Hid (Only [] w wr))
  case atStart => exact ⟨0, _, 0, es.length, rfl, rfl, by omega, by omega, rfl, hr0.out, fun k hk => by simp [Value.ownBlock] at hk; omega, ho0.out⟩
  case round =>
    obtain ⟨p, A1, n1, cap1, rfl, rfl, hp, hg, hn, hR, hF, ho⟩ := hrel
    by_cases hpl : p < es.length
    · have hpl' : (p : Int) < (es.length : Int) := by omega
      obtain ⟨e, he⟩ := hget.out p hpl
      obtain ⟨g, rfl, d0, d1⟩ := mrow_at H.out.row wr ho.out p e he
      have oA : Only [] wr (wr.alloc (.cells #[.int .i64 e.id, .pointer (some ⟨e.b, 0, none⟩)] 89)) := (Only.refl [] wr).alloc _
      have hst := flStart _ e.b e.F e.O ((H.out.only0 (ho.out.trans' oA)).fam.each e (List.mem_of_getElem? he))
      have hT := Lib.hid (tnsOf_take he)
      have hlen : Hid (n1 ≤ es.length) := by
        show n1 ≤ _
        have := tnsOf_len (es.take p)
        have := hn.out
        have h3 := List.length_take_le p es
        omega
      rcases ha : e.F.any with _ | _
      · rw [ha] at hst
        go_wp2_with fail
        refine hst.mono ?_
        rintro e1 w1 ⟨rfl, rfl⟩
        have HO2 : Hid (Only [] w (wr.alloc (.cells #[.int .i64 e.id, .pointer (some ⟨e.b, 0, none⟩)] 89))) := ho.out.trans' oA
        clear hst
        go_wp2_with fail
        go_roundg (es.length + 1 - (p + 1))
        case measure => omega
        case rel =>
          refine ⟨p + 1, A1, n1, cap1, by simp, rfl, by omega, by omega, ?_, ?_, hF.out, HO2.out⟩
          · have h9 := hT.out
            rw [ha] at h9
            simp only [Bool.false_eq_true, if_false, List.append_nil] at h9
            rw [h9]; exact hn.out
          · have h9 := hT.out
            rw [ha] at h9
            simp only [Bool.false_eq_true, if_false, List.append_nil] at h9
            rw [h9]; exact hR.out.only0 oA
      · rw [ha] at hst
        have es1 : e.F.st = e.F.s := by
          unfold Fl.st
          unfold Fl.any at ha
          rw [if_neg (by intro h0; rw [h0] at ha; cases ha)]
        rw [es1] at hst
        clear es1
        have oB : Only [] wr ((wr.alloc (.cells #[.int .i64 e.id, .pointer (some ⟨e.b, 0, none⟩)] 89)).alloc (.cells #[.int .u64 e.F.s, .int .i64 e.id, .pointer (some ⟨e.b, 0, none⟩)] 76)) := oA.alloc _
        have hS0 : tE.Src ((wr.alloc (.cells #[.int .i64 e.id, .pointer (some ⟨e.b, 0, none⟩)] 89)).alloc (.cells #[.int .u64 e.F.s, .int .i64 e.id, .pointer (some ⟨e.b, 0, none⟩)] 76)) (some ⟨wr.heap.size + 1, 0, none⟩) [tnOf e] := by
          have := El.Src.box (E := tE) (x := tnOf e) (heap_alloc_new (wr.alloc (.cells #[.int .i64 e.id, .pointer (some ⟨e.b, 0, none⟩)] 89)) (.cells #[.int .u64 e.F.s, .int .i64 e.id, .pointer (some ⟨e.b, 0, none⟩)] 76))
          simpa using this
        have HB := Lib.hid (And.intro oB (And.intro hS0 (hR.out.only0 oB)))
        clear oB hS0
        go_wp2_with fail
        refine hst.mono ?_
        rintro e1 w1 ⟨rfl, rfl⟩
        clear hst
        go_wp2_with (first
          | (at_builtin
             refine El.wpList_append (E := tE) Try.underlying71 rfl (.tmp 30) (.tmp 38) rfl (.slice A1 n1 cap1) (tnsOf (es.take p)) rfl HB.out.2.2 _ 1 1 [tnOf e] rfl rfl HB.out.2.1 (n1 + 1) (by rw [hn.out]) (by have := hlen.out; omega) ?_
             intro A2 cap2 w2 r2 g2 l2
             have R2 := Lib.hid (And.intro r2 (And.intro g2 l2))
             clear r2 g2 l2))
        go_roundg (es.length + 1 - (p + 1))
        case measure => omega
        case rel =>
          obtain ⟨r2, g2, l2⟩ := R2.out
          have h9 := hT.out
          rw [ha] at h9
          simp only [if_true] at h9
          have hsz := ho.out.size
          refine ⟨p + 1, A2, n1 + 1, cap2, by simp, rfl, by omega, by omega, ?_, ?_, fun k hk => ?_, ?_⟩
          · rw [h9, List.length_append, ← hn.out]; rfl
          · rw [h9]; exact r2
          · rcases l2 with l2 | l2
            · exact hF.out k (l2 ▸ hk)
            · rw [l2] at hk
              simp at hk
              omega
          · exact (ho.out.trans' HB.out.1).grown g2 (fun k hk => .inr (hF.out k hk))
    · have hpl' : ¬ ((p : Int) < (es.length : Int)) := by omega
      obtain rfl : p = es.length := by omega
      go_wp2_with fail
      go_ret
      have h1 := hn.out
      have h2 := hR.out
      have h3 := hF.out
      rw [List.take_length] at h1 h2
      subst h1
      exact ⟨A1, cap1, rfl, h2, h3, ho.out⟩
end Go.Proofs.Ytjmnklmomdfpfaa
