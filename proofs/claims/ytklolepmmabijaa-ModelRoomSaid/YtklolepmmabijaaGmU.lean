/-
  Ours: turns.
  Ours: compare, slices.MinFunc at turns.
  Ours: Serve.
-/
import Derived.Test.YtklolepmmabijaaGmP
namespace Go.Proofs.Ytklolepmmabijaa
set_option maxRecDepth 100000
open Go.RowKit
set_option linter.unusedVariables false
set_option linter.unusedSimpArgs false
set_option maxRecDepth 100000

def tnOf (e : En) : It × Nat := (itemK e.key, e.b)
/-- Who waits. -/
def tnsOf (es : List En) : List (It × Nat) := (es.filter fun e => e.F.any).map tnOf
theorem tnsOf_take {es : List En} {k : Nat} {e : En} (hk : es[k]? = some e) : tnsOf (es.take (k + 1)) = tnsOf (es.take k) ++ (if e.F.any then [tnOf e] else []) := by
  obtain ⟨hl, rfl⟩ := List.getElem?_eq_some_iff.1 hk
  unfold tnsOf
  rw [List.take_succ_eq_append_getElem hl, List.filter_append, List.map_append]
  congr 1
  by_cases h : es[k].F.any = true
  · simp [h]
  · simp [h]
theorem tnsOf_len (es : List En) : (tnsOf es).length ≤ es.length := by unfold tnsOf; rw [List.length_map]; exact List.length_filter_le _ _

set_option maxHeartbeats 2000000 in
theorem sTurns (w : World) (b : Nat) (S : Sq) (u : Value) (es : List En) (h : SqIs w b S u es) :
    Calls Try.prog 33 #[.pointer (some ⟨b, 0, none⟩)] w fun e w' => ∃ A cap, e = .returned (.slice A (tnsOf es).length cap) ∧ tE.Row w' (.slice A (tnsOf es).length cap) (tnsOf es) ∧ (∀ k, (Value.slice A (tnsOf es).length cap).ownBlock = some k → w.heap.size ≤ k) ∧ Only [] w w' := by
  obtain ⟨c0, c1, c2⟩ := h.blk.c
  obtain ⟨A, cap, ev⟩ := h.row.form
  rw [List.length_map] at ev
  subst ev
  have H := Lib.hid h
  have hl1 : es.length ≤ 1000 := by have := h.ok.len; have := key_len h.key; omega
  have hget : Hid (∀ k : Nat, k < es.length → ∃ e : En, es[k]? = some e) := fun k hk => ⟨_, List.getElem?_eq_getElem hk⟩
  have hmk := El.run_make_ (E := tE) Try.underlying73 w 0 es.length (by omega) (by omega)
  have hr0 := Lib.hid (El.Row.made0 (E := tE) w es.length (by omega))
  have ho0 : Hid (Only [] w (w.alloc (.cells (madeCells tE.z.cells (es.length * 3)) tE.T))) := (Only.refl [] w).alloc _
  have c2' : (w.alloc (.cells (madeCells tE.z.cells (es.length * 3)) tE.T)).cell? ⟨b, 2, none⟩ = some (.slice A es.length cap) := (h.blk.only0 ho0.out).c.2.2
  have hb := h.blk.lt
  change (Instr.makeSlice _ (.int .i64 0) _).run _ _ = _ at hmk
  clear h
  generalize w.alloc (.cells (madeCells tE.z.cells (es.length * 3)) tE.T) = W at *
  go_enter Try.func33, Try.ntmps33
  go_wp2_with fail
  go_loopg [3, 19] (es.length + 1) (fun gk sl si wr => ∃ (p : Nat) (A1 : Option Addr) (n1 cap1 : Nat), si = .int .i64 (p : Int) ∧ sl = .slice A1 n1 cap1 ∧ p ≤ es.length ∧ es.length + 1 ≤ gk + p ∧ Hid (n1 = (tnsOf (es.take p)).length) ∧ Hid (tE.Row wr (.slice A1 n1 cap1) (tnsOf (es.take p))) ∧ Hid (∀ k, (Value.slice A1 n1 cap1).ownBlock = some k → w.heap.size ≤ k) ∧ Hid (Only [] w wr))
  case atStart => exact ⟨0, _, 0, es.length, rfl, rfl, by omega, by omega, rfl, hr0.out, fun k hk => by simp [Value.ownBlock] at hk; omega, ho0.out⟩
  case round =>
    obtain ⟨p, A1, n1, cap1, rfl, rfl, hp, hg, hn, hR, hF, ho⟩ := hrel
    by_cases hpl : p < es.length
    · have hpl' : (p : Int) < (es.length : Int) := by omega
      obtain ⟨e, he⟩ := hget.out p hpl
      obtain ⟨g, rfl, d0, d1⟩ := mrow_at H.out.row wr ho.out p e he
      have oA : Only [] wr (wr.alloc (.cells #[.int .i64 e.id, .pointer (some ⟨e.b, 0, none⟩)] 72)) := (Only.refl [] wr).alloc _
      have hst := flStart _ e.b e.F e.O ((H.out.only0 (ho.out.trans' oA)).fam.each e (List.mem_of_getElem? he))
      have hT := Lib.hid (tnsOf_take he)
      have hlen : Hid (n1 ≤ es.length) := by
        show n1 ≤ _
        have := tnsOf_len (es.take p)
        have := hn.out
        have h3 := List.length_take_le p es
        omega
      rcases ha : e.F.any with _ | _
      · rw [ha] at hst
        go_wp2_with fail
        refine hst.mono ?_
        rintro e1 w1 ⟨rfl, rfl⟩
        have HO2 : Hid (Only [] w (wr.alloc (.cells #[.int .i64 e.id, .pointer (some ⟨e.b, 0, none⟩)] 72))) := ho.out.trans' oA
        clear hst
        go_wp2_with fail
        go_roundg (es.length + 1 - (p + 1))
        case measure => omega
        case rel =>
          refine ⟨p + 1, A1, n1, cap1, by simp, rfl, by omega, by omega, ?_, ?_, hF.out, HO2.out⟩
          · have h9 := hT.out
            rw [ha] at h9
            simp only [Bool.false_eq_true, if_false, List.append_nil] at h9
            rw [h9]; exact hn.out
          · have h9 := hT.out
            rw [ha] at h9
            simp only [Bool.false_eq_true, if_false, List.append_nil] at h9
            rw [h9]; exact hR.out.only0 oA
      · rw [ha] at hst
        have es1 : e.F.st = e.F.s := by
          unfold Fl.st
          unfold Fl.any at ha
          rw [if_neg (by intro h0; rw [h0] at ha; cases ha)]
        rw [es1] at hst
        clear es1
        have oB : Only [] wr ((wr.alloc (.cells #[.int .i64 e.id, .pointer (some ⟨e.b, 0, none⟩)] 72)).alloc (.cells #[.int .u64 e.F.s, .int .i64 e.id, .pointer (some ⟨e.b, 0, none⟩)] 79)) := oA.alloc _
        have hS0 : tE.Src ((wr.alloc (.cells #[.int .i64 e.id, .pointer (some ⟨e.b, 0, none⟩)] 72)).alloc (.cells #[.int .u64 e.F.s, .int .i64 e.id, .pointer (some ⟨e.b, 0, none⟩)] 79)) (some ⟨wr.heap.size + 1, 0, none⟩) [tnOf e] := by
          have := El.Src.box (E := tE) (x := tnOf e) (heap_alloc_new (wr.alloc (.cells #[.int .i64 e.id, .pointer (some ⟨e.b, 0, none⟩)] 72)) (.cells #[.int .u64 e.F.s, .int .i64 e.id, .pointer (some ⟨e.b, 0, none⟩)] 79))
          simpa using this
        have HB := Lib.hid (And.intro oB (And.intro hS0 (hR.out.only0 oB)))
        clear oB hS0
        go_wp2_with fail
        refine hst.mono ?_
        rintro e1 w1 ⟨rfl, rfl⟩
        clear hst
        go_wp2_with (first
          | (at_builtin
             refine El.wpList_append (E := tE) Try.underlying73 rfl (.tmp 30) (.tmp 38) rfl (.slice A1 n1 cap1) (tnsOf (es.take p)) rfl HB.out.2.2 _ 1 1 [tnOf e] rfl rfl HB.out.2.1 (n1 + 1) (by rw [hn.out]) (by have := hlen.out; omega) ?_
             intro A2 cap2 w2 r2 g2 l2
             have R2 := Lib.hid (And.intro r2 (And.intro g2 l2))
             clear r2 g2 l2))
        go_roundg (es.length + 1 - (p + 1))
        case measure => omega
        case rel =>
          obtain ⟨r2, g2, l2⟩ := R2.out
          have h9 := hT.out
          rw [ha] at h9
          simp only [if_true] at h9
          have hsz := ho.out.size
          refine ⟨p + 1, A2, n1 + 1, cap2, by simp, rfl, by omega, by omega, ?_, ?_, fun k hk => ?_, ?_⟩
          · rw [h9, List.length_append, ← hn.out]; rfl
          · rw [h9]; exact r2
          · rcases l2 with l2 | l2
            · exact hF.out k (l2 ▸ hk)
            · rw [l2] at hk
              simp at hk
              omega
          · exact (ho.out.trans' HB.out.1).grown g2 (fun k hk => .inr (hF.out k hk))
    · have hpl' : ¬ ((p : Int) < (es.length : Int)) := by omega
      obtain rfl : p = es.length := by omega
      go_wp2_with fail
      go_ret
      have h1 := hn.out
      have h2 := hR.out
      have h3 := hF.out
      rw [List.take_length] at h1 h2
      subst h1
      exact ⟨A1, cap1, rfl, h2, h3, ho.out⟩
end Go.Proofs.Ytklolepmmabijaa

namespace Go.Proofs.Ytklolepmmabijaa
set_option maxRecDepth 100000
open Go.RowKit
set_option linter.unusedVariables false
set_option linter.unusedSimpArgs false
set_option maxRecDepth 100000

def cmpT (x y : It) : Int := if x.lt y then -1 else if y.lt x then 1 else 0
/-- A block that holds one turn. -/
def TBox (w : World) (b : Nat) (x : It × Nat) : Prop := w.heap[b]? = some (.cells #[.int .u64 x.1.k, .int .i64 x.1.i, .pointer (some ⟨x.2, 0, none⟩)] 79 (0, 0))
theorem TBox.c {w : World} {b : Nat} {x : It × Nat} (h : TBox w b x) : w.cell? ⟨b, 0, none⟩ = some (.int .u64 x.1.k) ∧ w.cell? ⟨b, 1, none⟩ = some (.int .i64 x.1.i) ∧ w.cell? ⟨b, 2, none⟩ = some (.pointer (some ⟨x.2, 0, none⟩)) :=
  ⟨by rw [cell_of_row w b 0 _ _ _ h]; rfl, by rw [cell_of_row w b 1 _ _ _ h]; rfl, by rw [cell_of_row w b 2 _ _ _ h]; rfl⟩
theorem TBox.fr {w : World} {b : Nat} {x : It × Nat} (h : TBox w b x) (i : Nat) : w.frozen? ⟨b, i, none⟩ = false := by unfold TBox at h; simp [World.frozen?, h]
theorem TBox.lt {w : World} {b : Nat} {x : It × Nat} (h : TBox w b x) : b < w.heap.size := (Array.getElem?_eq_some_iff.1 h).1
theorem TBox.only {w w' : World} {b : Nat} {x : It × Nat} {S : List Nat} (h : TBox w b x) (ho : Only S w w') (hS : b ∉ S) : TBox w' b x := ho.get h hS
theorem TBox.new (w : World) (x : It × Nat) : TBox (w.alloc (.cells #[.int .u64 x.1.k, .int .i64 x.1.i, .pointer (some ⟨x.2, 0, none⟩)] 79)) w.heap.size x := heap_alloc_new w _
set_option maxHeartbeats 1000000 in
theorem sCompare (x y : It × Nat) (w : World) : Calls Try.prog 35 #[.agg #[.int .u64 x.1.k, .int .i64 x.1.i, .pointer (some ⟨x.2, 0, none⟩)], .agg #[.int .u64 y.1.k, .int .i64 y.1.i, .pointer (some ⟨y.2, 0, none⟩)]] w fun e w' => e = .returned (.int .i64 (cmpT x.1 y.1)) ∧ Only [] w w' := by
  unfold cmpT
  have oA : Only [] w ((w.alloc (.cells #[.int .u64 x.1.k, .int .i64 x.1.i, .pointer (some ⟨x.2, 0, none⟩)] 79)).alloc (.cells #[.int .u64 y.1.k, .int .i64 y.1.i, .pointer (some ⟨y.2, 0, none⟩)] 79)) := ((Only.refl [] w).alloc _).alloc _
  have bx : TBox ((w.alloc (.cells #[.int .u64 x.1.k, .int .i64 x.1.i, .pointer (some ⟨x.2, 0, none⟩)] 79)).alloc (.cells #[.int .u64 y.1.k, .int .i64 y.1.i, .pointer (some ⟨y.2, 0, none⟩)] 79)) w.heap.size x := (TBox.new w x).only ((Only.refl [] _).alloc _) (by simp)
  have by_ : TBox ((w.alloc (.cells #[.int .u64 x.1.k, .int .i64 x.1.i, .pointer (some ⟨x.2, 0, none⟩)] 79)).alloc (.cells #[.int .u64 y.1.k, .int .i64 y.1.i, .pointer (some ⟨y.2, 0, none⟩)] 79)) (w.heap.size + 1) y := by
    have := TBox.new (w.alloc (.cells #[.int .u64 x.1.k, .int .i64 x.1.i, .pointer (some ⟨x.2, 0, none⟩)] 79)) y
    simpa using this
  rcases h1 : x.1.lt y.1 with _ | _
  · rcases h2 : y.1.lt x.1 with _ | _
    all_goals
      go_enter Try.func35, Try.ntmps35
      go_wp2_with fail
      refine (ahead_only x.1 y.1 _).mono ?_
      rintro e w1 ⟨rfl, o1⟩
      obtain ⟨c0, c1, c2⟩ := (bx.only o1 (by simp)).c
      obtain ⟨d0, d1, d2⟩ := (by_.only o1 (by simp)).c
      have o2 := Lib.hid (oA.trans' o1)
      rw [h1]
      clear bx by_ oA o1
      go_wp2_with fail
      refine (ahead_only y.1 x.1 _).mono ?_
      rintro e w2 ⟨rfl, o3⟩
      rw [h2]
      go_wp2_with fail
      go_ret
      exact ⟨rfl, o2.out.trans' o3⟩
  · go_enter Try.func35, Try.ntmps35
    go_wp2_with fail
    refine (ahead_only x.1 y.1 _).mono ?_
    rintro e w1 ⟨rfl, o1⟩
    rw [h1]
    go_wp2_with fail
    go_ret
    exact ⟨rfl, oA.trans' o1⟩

/-- One of them, behind none. -/
def MinOf (xs : List (It × Nat)) (x : It × Nat) : Prop := x ∈ xs ∧ ∀ y ∈ xs, y.1.lt x.1 = false
/-- The cells of a turn, wherever the row is still as it was. -/
theorem trow_at {w : World} {A : Option Addr} {m cap : Nat} {xs : List (It × Nat)} (h : tE.Row w (.slice A m cap) xs) : ∀ W, Only [] w W → ∀ k x, xs[k]? = some x → ∃ g, A = some ⟨g, 0, none⟩ ∧ g < w.heap.size ∧ W.cell? ⟨g, k * 3, none⟩ = some (.int .u64 x.1.k) ∧ W.cell? ⟨g, k * 3 + 1, none⟩ = some (.int .i64 x.1.i) ∧ W.cell? ⟨g, k * 3 + 2, none⟩ = some (.pointer (some ⟨x.2, 0, none⟩)) := by
  intro W hW k x hx
  obtain ⟨g, e1, hg, hc⟩ := (h.only0 hW).cell (k := k) (x := x) hx
  subst e1
  exact ⟨g, rfl, h.lt rfl, (hc 0 _ rfl).1, (hc 1 _ rfl).1, (hc 2 _ rfl).1⟩

theorem tbox_put {w : World} {b : Nat} {a0 a1 a2 : Value} (h : w.heap[b]? = some (.cells #[a0, a1, a2] 79 (0, 0))) (y : It × Nat) :
    TBox (((w.setCell ⟨b, 0, none⟩ (.int .u64 y.1.k)).setCell ⟨b, 1, none⟩ (.int .i64 y.1.i)).setCell ⟨b, 2, none⟩ (.pointer (some ⟨y.2, 0, none⟩))) b y := by
  have h1 := heap_setCell_same w b 0 _ _ (.int .u64 y.1.k) h
  have h2 := heap_setCell_same _ b 1 _ _ (.int .i64 y.1.i) h1
  have h3 := heap_setCell_same _ b 2 _ _ (.pointer (some ⟨y.2, 0, none⟩)) h2
  simpa [TBox] using h3
theorem row3_c {w : World} {b : Nat} {a0 a1 a2 : Value} (h : w.heap[b]? = some (.cells #[a0, a1, a2] 79 (0, 0))) : w.cell? ⟨b, 0, none⟩ = some a0 ∧ w.cell? ⟨b, 1, none⟩ = some a1 ∧ w.cell? ⟨b, 2, none⟩ = some a2 ∧ ∀ j, w.frozen? ⟨b, j, none⟩ = false :=
  ⟨by rw [cell_of_row w b 0 _ _ _ h]; rfl, by rw [cell_of_row w b 1 _ _ _ h]; rfl, by rw [cell_of_row w b 2 _ _ _ h]; rfl, fun j => frozen_of_row w b j _ _ h⟩
set_option maxHeartbeats 2000000 in
theorem sMin (w : World) (A : Option Addr) (cap : Nat) (xs : List (It × Nat)) (h : tE.Row w (.slice A xs.length cap) xs) (h0 : 0 < xs.length) (hl : xs.length ≤ 1000000) :
    Calls Try.prog 64 #[.slice A xs.length cap, .func (.func 35) #[] #[]] w fun e w' => (∃ k i q, e = .returned (.agg #[.int .u64 k, .int .i64 i, .pointer (some ⟨q, 0, none⟩)]) ∧ MinOf xs (⟨k, i⟩, q)) ∧ Only [] w w' := by
  have row := Lib.hid (trow_at h)
  have hget : Hid (∀ k : Nat, k < xs.length → ∃ e : It × Nat, xs[k]? = some e) := fun k hk => ⟨_, List.getElem?_eq_getElem hk⟩
  obtain ⟨z0, hz0⟩ := hget.out 0 h0
  obtain ⟨g, rfl, hg, a0, a1, a2⟩ := row.out w (Only.refl _ _) 0 z0 hz0
  simp only [Nat.zero_mul, Nat.zero_add] at a0 a1 a2
  have hn0 : (1 : Int) ≤ (xs.length : Int) := by omega
  have HZ := Lib.hid hz0
  clear h hz0
  generalize hn : xs.length = n at *
  have HN := Lib.hid hn
  clear hn
  go_enter Try.func64, Try.ntmps64
  go_wp2_with fail
  have oA : Only [] w ((w.alloc (.cells #[.int .u64 0, .int .i64 0, .pointer none] 79)).alloc (.cells #[.int .u64 z0.1.k, .int .i64 z0.1.i, .pointer (some ⟨z0.2, 0, none⟩)] 79)) := ((Only.refl [] w).alloc _).alloc _
  have bZ : ((w.alloc (.cells #[.int .u64 0, .int .i64 0, .pointer none] 79)).alloc (.cells #[.int .u64 z0.1.k, .int .i64 z0.1.i, .pointer (some ⟨z0.2, 0, none⟩)] 79)).heap[w.heap.size]? = some (.cells #[.int .u64 0, .int .i64 0, .pointer none] 79 (0, 0)) :=
    ((Only.refl [] _).alloc _).get (heap_alloc_new w _) (by simp)
  have bM : TBox ((w.alloc (.cells #[.int .u64 0, .int .i64 0, .pointer none] 79)).alloc (.cells #[.int .u64 z0.1.k, .int .i64 z0.1.i, .pointer (some ⟨z0.2, 0, none⟩)] 79)) (w.heap.size + 1) z0 := by
    have := TBox.new (w.alloc (.cells #[.int .u64 0, .int .i64 0, .pointer none] 79)) z0
    simpa using this
  obtain ⟨N, eN⟩ : ∃ N, w.heap.size = N := ⟨_, rfl⟩
  have HW : Hid (w.heap.size = N) := eN
  rw [eN] at bZ bM hg ⊢
  clear eN
  generalize (w.alloc (.cells #[.int .u64 0, .int .i64 0, .pointer none] 79)).alloc (.cells #[.int .u64 z0.1.k, .int .i64 z0.1.i, .pointer (some ⟨z0.2, 0, none⟩)] 79) = W0 at *
  clear a0 a1 a2
  go_loopg [6] (n + 1) (fun gk si wr => ∃ (p : Nat) (x : It × Nat), si = .int .i64 (p : Int) ∧ 1 ≤ p ∧ p ≤ n ∧ n + 1 ≤ gk + p ∧ Hid (Only [] w wr) ∧ Hid (TBox wr (N + 1) x) ∧ Hid (wr.heap[N]? = some (.cells #[.int .u64 0, .int .i64 0, .pointer none] 79 (0, 0))) ∧ Hid (x ∈ xs) ∧ Hid (∀ j y, j < p → xs[j]? = some y → y.1.lt x.1 = false))
  case atStart => exact ⟨1, z0, rfl, by omega, by omega, by omega, oA, bM, bZ, List.mem_of_getElem? HZ.out, fun j y hj hy => by
    obtain rfl : j = 0 := by omega
    rw [HZ.out] at hy
    injection hy with hy
    subst hy
    exact It.irrefl _⟩
  case round =>
    obtain ⟨p, x, rfl, hp1, hp, hgk, ho, hM, hZ, hx, hL⟩ := hrel
    obtain ⟨m0, m1, m2⟩ := hM.out.c
    obtain ⟨y0, y1, y2, yf⟩ := row3_c hZ.out
    have yf0 := yf 0
    have yf1 := yf 1
    have yf2 := yf 2
    clear bM bZ oA yf
    by_cases hpl : p < n
    · have hpl' : (p : Int) < (n : Int) := by omega
      obtain ⟨z, ez⟩ := hget.out p hpl
      obtain ⟨g', e1, hg', d0, d1, d2⟩ := row.out wr ho.out p z ez
      injection e1 with e1
      injection e1 with e1
      subst e1
      have HE := Lib.hid ez
      have hc := sCompare z x
      clear ez
      go_wp2_with fail
      go_still_tail 6, (by kernel_rfl)
      change wpList _ _ _ _ _ wr.drew
      go_wp2_with fail
      refine (hc _).mono ?_
      rintro e w2 ⟨rfl, o2⟩
      have o2' : Only [] wr w2 := (Only.refl [] wr).drew.trans' o2
      have ho2 : Hid (Only [] w w2) := ho.out.trans' o2'
      have hM2 : Hid (TBox w2 (N + 1) x) := hM.out.only o2' (by simp)
      have hZ2 : Hid (w2.heap[N]? = some (.cells #[.int .u64 0, .int .i64 0, .pointer none] 79 (0, 0))) := o2'.get hZ.out (by simp)
      obtain ⟨g2, e2, hg2, q0, q1, q2⟩ := row.out w2 ho2.out p z HE.out
      injection e2 with e2
      injection e2 with e2
      subst e2
      obtain ⟨t0, t1, t2, tf⟩ := row3_c hM2.out
      have tf0 := tf 0
      have tf1 := tf 1
      have tf2 := tf 2
      clear o2 o2' m0 m1 m2 d0 d1 d2 y0 y1 y2 yf0 yf1 yf2 hc tf
      have hgN : ¬ (g = N + 1) := by omega
      rcases hz : z.1.lt x.1 with _ | _
      · have hcc : 0 ≤ cmpT z.1 x.1 := by unfold cmpT; rw [hz]; simp; split <;> omega
        generalize cmpT z.1 x.1 = c at *
        go_wp2_with fail
        go_roundg (n + 1 - (p + 1))
        case measure => omega
        case rel => exact ⟨p + 1, x, by simp, by omega, by omega, by omega, ho2, hM2, hZ2, hx, fun j y hj hy => by
          rcases Nat.lt_or_ge j p with h3 | h3
          · exact hL.out j y h3 hy
          · obtain rfl : j = p := by omega
            rw [HE.out] at hy
            injection hy with hy
            rw [← hy]; exact hz⟩
      · have hcc : cmpT z.1 x.1 = -1 := by unfold cmpT; rw [hz]; rfl
        rw [hcc]
        clear hcc
        go_wp2_with fail
        go_roundg (n + 1 - (p + 1))
        case measure => omega
        case rel =>
          have hW := HW.out
          refine ⟨p + 1, z, by simp, by omega, by omega, by omega, ?_, tbox_put hM2.out z, ?_, List.mem_of_getElem? HE.out, fun j y hj hy => ?_⟩
          · exact ((ho2.out.setCell (.inr (by simp; omega)) _).setCell (.inr (by simp; omega)) _).setCell (.inr (by simp; omega)) _
          · exact ((((Only.refl [N + 1] w2).setCell (by simp) _).setCell (by simp) _).setCell (by simp) _).get hZ2.out (by simp)
          · rcases Nat.lt_or_ge j p with h3 | h3
            · have h5 := hL.out j y h3 hy
              rcases h6 : y.1.lt z.1 with _ | _
              · rfl
              · rw [It.trans h6 hz] at h5; cases h5
            · obtain rfl : j = p := by omega
              rw [HE.out] at hy
              injection hy with hy
              rw [← hy]; exact It.irrefl _
    · have hpl' : ¬ ((p : Int) < (n : Int)) := by omega
      obtain rfl : p = n := by omega
      go_wp2_with fail
      have hR := tbox_put hZ.out x
      obtain ⟨r0, r1, r2⟩ := hR.c
      refine bodyPost_ret (v := .agg #[.int .u64 x.1.k, .int .i64 x.1.i, .pointer (some ⟨x.2, 0, none⟩)]) ?_ rfl ?_
      · rw [results_cell1 rfl]; go_simp
      · have hW := HW.out
        refine ⟨⟨_, _, _, rfl, hx.out, fun y hy => ?_⟩, ?_⟩
        · obtain ⟨j, hj⟩ := List.getElem?_of_mem hy
          have := (List.getElem?_eq_some_iff.1 hj).1
          have := HN.out
          exact hL.out j y (by omega) hj
        · exact ((ho.out.setCell (.inr (by simp; omega)) _).setCell (.inr (by simp; omega)) _).setCell (.inr (by simp; omega)) _
end Go.Proofs.Ytklolepmmabijaa

namespace Go.Proofs.Ytklolepmmabijaa
set_option maxRecDepth 100000
open Go.RowKit
set_option linter.unusedVariables false
set_option linter.unusedSimpArgs false
set_option maxRecDepth 100000

theorem tns_none {S : Sq} {es : List En} (hk : es.map En.key = S.l) (h : tnsOf es = []) : ∀ d ∈ S.l, d.2.any = false := by
  intro d hd
  rw [← hk] at hd
  obtain ⟨e, he, rfl⟩ := List.mem_map.1 hd
  rcases ha : e.key.2.any with _ | _
  · rfl
  · have : tnOf e ∈ tnsOf es := List.mem_map.2 ⟨e, List.mem_filter.2 ⟨he, ha⟩, rfl⟩
    rw [h] at this; cases this
theorem tns_min {S : Sq} {es : List En} (hk : es.map En.key = S.l) {x : It × Nat} (h : MinOf (tnsOf es) x) : ∃ (j : Nat) (e : En), es[j]? = some e ∧ x = tnOf e ∧ e.F.any = true ∧ ∀ d ∈ S.l, d.2.any = true → (itemK d).lt (itemK (e.id, e.F)) = false := by
  obtain ⟨h1, h2⟩ := h
  obtain ⟨e, he, rfl⟩ := List.mem_map.1 h1
  obtain ⟨he, ha⟩ := List.mem_filter.1 he
  obtain ⟨j, hj⟩ := List.getElem?_of_mem he
  refine ⟨j, e, hj, rfl, ha, fun d hd hda => ?_⟩
  rw [← hk] at hd
  obtain ⟨c, hc, rfl⟩ := List.mem_map.1 hd
  exact h2 (tnOf c) (List.mem_map.2 ⟨c, List.mem_filter.2 ⟨hc, hda⟩, rfl⟩)

/-- Behind all that, a block of the call's own is written. -/
theorem STo.box {w V U U' : World} {b N : Nat} {S : Sq} {u : Value} {es : List En} {O : List Nat} (h : SqIs U b S u es) (hw : Went V O U (ownF (xOf b u) es)) (o : Only [] w V) (hO : ∀ k ∈ O, k < w.heap.size) (h1 : w.heap.size ≤ N) (h2 : N < V.heap.size) (ho : Only [N] U U') : STo w b O S U' := by
  have hN : N ∉ ownF (xOf b u) es := fun hk => by
    rcases hw.2 N hk with h3 | h3
    · have := hO N h3; omega
    · omega
  have hT := (Went.still o O).trans hw
  exact ⟨_, ⟨u, es, h.only ho (fun k hk e => hN (by simp at e; exact e ▸ hk)), rfl⟩, hT.1.trans ho (by simp [h1]), hT.2⟩

set_option maxHeartbeats 4000000 in
theorem sServe (w : World) (b : Nat) (S : Sq) (O : List Nat) (h : SqOf w b S O) :
    Calls Try.prog 47 #[.pointer (some ⟨b, 0, none⟩)] w fun e w' => e = .returned (.tuple #[.agg #[.int .i64 S.hd.f, .int .i64 S.hd.l, .int .i64 S.hd.m], .bool S.any]) ∧ STo w b O S.srv w' := by
  obtain ⟨u, es, h, rfl⟩ := h
  have hokS := h.ok.srv
  have o0 : Only [] w (w.alloc (.cells #[.int .i64 0, .int .i64 0, .int .i64 0] 58)) := (Only.refl [] w).alloc _
  have bx := PBox.new w ⟨0, 0, 0⟩
  have ht := sTurns _ b S u es (h.only0 o0)
  have hlen : (tnsOf es).length ≤ 1000 := by have := tnsOf_len es; have := h.ok.len; have := key_len h.key; omega
  have hO : Hid (∀ k ∈ ownF (xOf b u) es, k < w.heap.size) := h.lt
  have hN : Hid (w.heap.size < (w.alloc (.cells #[.int .i64 0, .int .i64 0, .int .i64 0] 58)).heap.size) := bx.lt
  have H := Lib.hid (And.intro (h.only0 o0) o0)
  have hb := h.blk.lt
  clear h
  by_cases h0 : (tnsOf es).length = 0
  · obtain ⟨e1, e2, e3⟩ := Sq.srv_none (tns_none H.out.1.key (List.eq_nil_of_length_eq_zero h0))
    rw [e1] at hokS ⊢
    rw [e2, e3]
    rw [h0] at ht
    obtain ⟨M, hM⟩ : ∃ M, max S.v S.m = M := ⟨_, rfl⟩
    have hM2 : (if S.v < S.m then S.m else S.v) = M := by rw [← hM]; split <;> omega
    have hM3 : (if S.m < S.v then S.v else S.m) = M := by rw [← hM]; split <;> omega
    have hM4 : max S.m S.v = M := by rw [← hM]; omega
    rw [hM] at hokS ⊢
    clear o0
    go_enter Try.func47, Try.ntmps47
    go_wp2_with fail
    generalize w.alloc (.cells #[.int .i64 0, .int .i64 0, .int .i64 0] 58) = V at *
    refine ht.mono ?_
    rintro e w1 ⟨A1, cap1, rfl, r1, f1, o1⟩
    have H1 := Lib.hid (H.out.1.only0 o1)
    obtain ⟨c0, c1, c2⟩ := H1.out.blk.c
    have cf0 := H1.out.blk.fr 0
    obtain ⟨x0, x1, x2⟩ := (bx.only o1 (by simp)).c
    have xf : ∀ j, w1.frozen? ⟨w.heap.size, j, none⟩ = false := fun j => frozen_of_row w1 _ j _ _ (bx.only o1 (by simp))
    have xf0 := xf 0
    have xf1 := xf 1
    have xf2 := xf 2
    have HO := Lib.hid o1
    have hbN : ¬ (b = w.heap.size) := by omega
    have hbN' : ¬ (w.heap.size = b) := by omega
    clear r1 f1 o1 ht bx xf
    go_wp2_with fail
    go_still_tail 12, (by kernel_rfl)
    change wpList _ _ _ _ _ w1.drew
    go_wp2_with fail
    all_goals
      refine bodyPost_ret (v := .tuple #[.agg #[.int .i64 0, .int .i64 0, .int .i64 0], .bool false]) ?_ rfl ?_
      · rw [results_cell_tmp rfl]; go_simp
      · obtain ⟨q1, q2⟩ := H1.out.setV hokS.v
        refine ⟨rfl, STo.box q1 ((Went.still HO.out _).trans q2) H.out.2 hO.out (Nat.le_refl _) hN.out ?_⟩
        exact ((((Only.refl _ _).setCell (by simp) _).setCell (by simp) _).setCell (by simp) _).drew
  · have h0' : 0 < (tnsOf es).length := by omega
    have hz : ¬ (((tnsOf es).length : Int) = 0) := by omega
    have hz' : (((tnsOf es).length : Int) == 0) = false := by simpa using h0
    clear o0 h0
    go_enter Try.func47, Try.ntmps47
    go_wp2_with fail
    generalize w.alloc (.cells #[.int .i64 0, .int .i64 0, .int .i64 0] 58) = V at *
    refine ht.mono ?_
    rintro e w1 ⟨A1, cap1, rfl, r1, f1, o1⟩
    have H1 := Lib.hid (And.intro (H.out.1.only0 o1) o1)
    have hm := sMin w1 A1 cap1 (tnsOf es) r1 h0' (by omega)
    clear r1 f1 o1 ht
    go_wp2_with fail
    refine hm.mono ?_
    rintro e w2 ⟨⟨k, i, q, rfl, hmin⟩, o2⟩
    obtain ⟨j, d, hd, hxd, hda, hleast⟩ := tns_min H.out.1.key hmin
    obtain ⟨s1, s2, s3⟩ := Sq.srv_is H.out.1.ok (key_at H.out.1.key hd) hda hleast
    unfold tnOf itemK at hxd
    simp only [En.key, Prod.mk.injEq, It.mk.injEq] at hxd
    obtain ⟨⟨rfl, rfl⟩, rfl⟩ := hxd
    rw [s1] at hokS
    have HS := Lib.hid (And.intro s1 (And.intro s2 s3))
    have o12 := H1.out.2.trans' o2
    have H2 := Lib.hid (And.intro (H.out.1.only0 o12) o12)
    obtain ⟨p1, p2⟩ := H2.out.1.setV hokS.v
    have oA : Only [] (w2.setCell ⟨b, 0, none⟩ (.int .u64 d.F.s)) ((w2.setCell ⟨b, 0, none⟩ (.int .u64 d.F.s)).alloc (.cells #[.int .u64 d.F.s, .int .i64 d.id, .pointer (some ⟨d.b, 0, none⟩)] 79)) := (Only.refl [] _).alloc _
    have hsv := flServe _ d.b d.F d.O ((p1.only0 oA).fam.each d (List.mem_of_getElem? hd))
    have eout : d.F.out = d.F.fin := by
      unfold Fl.out
      unfold Fl.any at hda
      rw [if_neg (by intro e0; rw [e0] at hda; cases hda)]
    rw [eout, hda] at hsv
    have HP := Lib.hid (And.intro p1 (And.intro p2 (And.intro oA hd)))
    obtain ⟨c0, c1, c2⟩ := H2.out.1.blk.c
    have cf0 := H2.out.1.blk.fr 0
    have hb2 := H2.out.1.blk.lt
    have hbx : PBox w2 w.heap.size ⟨0, 0, 0⟩ := bx.only o12 (by simp)
    have HX := Lib.hid hbx
    clear p1 p2 oA hmin hleast hd s1 s2 s3 o12 o2 hm bx hbx eout
    go_wp2_with fail
    refine hsv.mono ?_
    rintro e w4 ⟨rfl, hf4⟩
    obtain ⟨es', q1, q2⟩ := HP.out.1.turned HP.out.2.2.1 HP.out.2.2.2 hf4 ⟨hokS.v, H.out.1.ok.m, hokS.srt, hokS.wf, hokS.len⟩
    have hT : Hid (Went V (ownF (xOf b u) es) w4 (ownF (xOf b u) es')) := (Went.still H2.out.2 _).trans (HP.out.2.1.trans q2)
    obtain ⟨g0, g1, g2⟩ := q1.blk.c
    have gf1 := q1.blk.fr 1
    have hb4 := q1.blk.lt
    simp only at g1
    have hNO : w.heap.size ∉ d.O := fun hk => by
      have := hO.out _ (mem_ownF.2 (.inr ⟨d, List.mem_of_getElem? HP.out.2.2.2, hk⟩)); omega
    have hbx4 : PBox w4 w.heap.size ⟨0, 0, 0⟩ := by
      obtain ⟨O', _, hW⟩ := hf4
      exact ((HX.out.only ((Only.refl [b] w2).setCell (by simp) _) (by simp; omega)).only HP.out.2.2.1 (by simp)).only hW.1 hNO
    obtain ⟨x0, x1, x2⟩ := hbx4.c
    have xf : ∀ j, w4.frozen? ⟨w.heap.size, j, none⟩ = false := fun j => frozen_of_row w4 _ j _ _ hbx4
    have xf0 := xf 0
    have xf1 := xf 1
    have xf2 := xf 2
    have hN4 := hbx4.lt
    have Q1 := Lib.hid q1
    have hbN : ¬ (b = w.heap.size) := by omega
    have hbN' : ¬ (w.heap.size = b) := by omega
    clear hsv hf4 q1 q2 xf hbx4 c0 c1 c2 cf0
    obtain ⟨M, hM⟩ : ∃ M, max S.m d.F.fin = M := ⟨_, rfl⟩
    have hM2 : (if S.m < d.F.fin then d.F.fin else S.m) = M := by rw [← hM]; split <;> omega
    have hM3 : (if d.F.fin < S.m then S.m else d.F.fin) = M := by rw [← hM]; split <;> omega
    have hM4 : max d.F.fin S.m = M := by rw [← hM]; omega
    rw [hM] at hokS
    go_wp2_with fail
    refine bodyPost_ret (v := .tuple #[.agg #[.int .i64 d.F.hd.f, .int .i64 d.F.hd.l, .int .i64 d.F.hd.m], .bool true]) ?_ rfl ?_
    · rw [results_cell_tmp rfl]; go_simp
    · obtain ⟨r1, r2⟩ := Q1.out.setM hokS.m
      refine ⟨by rw [HS.out.2.1, HS.out.2.2], ?_⟩
      rw [HS.out.1, hM]
      refine STo.box r1 (hT.out.trans r2) H.out.2 hO.out (Nat.le_refl _) hN.out ?_
      exact ((((Only.refl _ _).setCell (by simp) _).setCell (by simp) _).setCell (by simp) _).alloc _
end Go.Proofs.Ytklolepmmabijaa
