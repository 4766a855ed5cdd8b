/-
  Ours: Parts.
-/
import Derived.Test.YtaaolacfhdfagaaHsQ
namespace Go.Proofs.Ytaaolacfhdfagaa
set_option maxRecDepth 100000
open Go.RowKit
set_option linter.unusedVariables false
set_option linter.unusedSimpArgs false
set_option maxRecDepth 100000

set_option maxHeartbeats 2000000
theorem DR.setBox {u w : World} {A : Option Addr} {p c : Nat} {R : List Dn} {qs : List Da} (h : DR u w A p c R qs) {g : Nat} {cs : Array Value} (hb : w.heap[g]? = some (.cells cs 30 (0, 0))) (hg : u.heap.size ≤ g) (hn : ∀ b, (Value.slice A p c).ownBlock = some b → b ≠ g) (k : Nat) (v : Value) :
    DR u (w.setCell ⟨g, k, none⟩ v) A p c R qs := by
  have o : Only [g] w (w.setCell ⟨g, k, none⟩ v) := (Only.refl [g] w).setCell (.inl (by simp)) v
  refine ⟨⟨h.fr.row.only o (fun b hb2 => by simpa using hn b hb2), h.fr.len, h.fr.new, h.fr.only.setCell (.inr hg) v⟩, h.rw_.len, fun i x a hx ha => ?_⟩
  have h3 := h.rw_.at_ i x a hx ha
  exact ⟨h3.str, h3.row.only o (fun b hb2 => by simpa using h3.row.ne hb (by decide) b hb2), h3.new⟩
theorem cParts (A : Option Addr) (n c : Nat) (L : List Dn) (qs : List Da) (u : World) (hL : L.length = n) (hb : n ≤ 64) (h : Dns u A L) (hq : AbsL u L qs) (hm : ∀ x ∈ L, x.m ≤ 1048576) :
    Calls Try.prog 6 #[.slice A n c] u fun e w' => ∃ A2 q c2, e = .returned (.slice A2 q c2) ∧ ∃ R, DR u w' A2 q c2 R (partsL qs) := by
  have H := Lib.hid (And.intro h (And.intro hL (And.intro hq hm)))
  have hmk : (Instr.makeSlice 34 (.int .i64 0) (.int .i64 (n : Int))).run Try.prog u = .ok (.slice (some ⟨u.heap.size, 0, none⟩) 0 n) (u.alloc (.cells (madeCells dE.z.cells (n * 12)) dE.T)) := El.run_make_ (E := dE) Try.underlying34 u 0 n (Nat.zero_le _) (by omega)
  have hr0 : Hid (DR u (u.alloc (.cells (madeCells dE.z.cells (n * 12)) dE.T)) (some ⟨u.heap.size, 0, none⟩) 0 n [] []) := ⟨⟨El.Row.made0 u n (by omega), rfl, fun k hk => by simp [Value.ownBlock] at hk; omega, (Only.refl [] u).alloc _⟩, Rw.nil _ _⟩
  have kd := Lib.hid (fun (x : Dn) (V : World) => kDiv x V)
  clear h hL hq hm
  generalize u.alloc (.cells (madeCells dE.z.cells (n * 12)) dE.T) = W0 at *
  go_enter Try.func6, Try.ntmps6
  go_wp2_with fail
  clear hmk
  go_loopg [3, 11] (n + 1) (fun gk sl si wr => ∃ (i q : Nat) (A1 : Option Addr) (cap1 : Nat) (R : List Dn), si = .int .i64 (i : Int) ∧ sl = .slice A1 q cap1 ∧ i ≤ n ∧ n + 1 ≤ gk + i ∧ Hid (q ≤ i * 1048577) ∧ Hid (DR u wr A1 q cap1 R (partsL (qs.take i))))
  case atStart => exact ⟨0, 0, _, n, [], rfl, rfl, by omega, by omega, by show _ ≤ _; omega, by show DR _ _ _ _ _ _ _; simpa [partsL] using hr0.out⟩
  case round =>
    obtain ⟨i, q, A1, cap1, R, rfl, rfl, hi, hg2, hq, D⟩ := hrel
    clear hr0
    by_cases hin : i < n
    · have h1 : (i : Int) < (n : Int) := by omega
      obtain ⟨x, a, hx, ha, hxa⟩ := H.out.2.2.1.get (k := i) (by have := H.out.2.2.1.len; have := H.out.2.1; omega)
      obtain ⟨ga, rfl, hc⟩ := (H.out.1.only0 D.out.fr.only) i x hx
      have XM : Hid (x.m ≤ 1048576) := H.out.2.2.2 x (List.mem_of_getElem? hx)
      have XA : Hid (Abs u x a) := hxa
      have QS : Hid (partsL (qs.take (i + 1)) = partsL (qs.take i) ++ partsD a) := by show _ = _; rw [take_succ_at ha, partsL_snoc]
      have QL : Hid (q + a.2.length + 1 ≤ (i + 1) * 1048577) := by show _ ≤ _; have := hq.out; have := hxa.len; have := XM.out; rw [Nat.add_mul]; omega
      have HB : Hid (i ≤ 64) := by show _ ≤ _; omega
      have AL : Hid (x.strip = a.1 ∧ divB x = divB a.1) := ⟨hxa.str, by rw [← hxa.str]; rfl⟩
      have al := Only.alloc (Only.refl [] wr) (.cells #[.int .i64 x.who, .int .i64 x.place, .int .i64 x.op, .int .i64 x.f, .int .i64 x.a, .int .i64 x.b, .int .i64 x.e, .slice x.A x.m x.c, .int .i64 x.n, .int .u64 x.v, .int .i64 x.fr, .int .i64 x.to] 30)
      have HB1 : Hid ((wr.alloc (.cells #[.int .i64 x.who, .int .i64 x.place, .int .i64 x.op, .int .i64 x.f, .int .i64 x.a, .int .i64 x.b, .int .i64 x.e, .slice x.A x.m x.c, .int .i64 x.n, .int .u64 x.v, .int .i64 x.fr, .int .i64 x.to] 30)).heap[wr.heap.size]? = some (.cells #[.int .i64 x.who, .int .i64 x.place, .int .i64 x.op, .int .i64 x.f, .int .i64 x.a, .int .i64 x.b, .int .i64 x.e, .slice x.A x.m x.c, .int .i64 x.n, .int .u64 x.v, .int .i64 x.fr, .int .i64 x.to] 30 (0, 0))) := heap_alloc_new wr _
      have D1 : Hid (DR u (wr.alloc (.cells #[.int .i64 x.who, .int .i64 x.place, .int .i64 x.op, .int .i64 x.f, .int .i64 x.a, .int .i64 x.b, .int .i64 x.e, .slice x.A x.m x.c, .int .i64 x.n, .int .u64 x.v, .int .i64 x.fr, .int .i64 x.to] 30)) A1 q cap1 R (partsL (qs.take i))) := D.out.only0 al
      have NB1 : Hid (u.heap.size ≤ wr.heap.size ∧ ∀ g, (Value.slice A1 q cap1).ownBlock = some g → g ≠ wr.heap.size) := ⟨D.out.fr.only.size, fun g hg => by have := D.out.fr.row.lt hg; omega⟩
      obtain ⟨x0, x1, x2, x3, x4, x5, x6, x7, x8, x9, x10, x11⟩ := hc; (try simp only [Nat.zero_add] at x0 x1 x2 x3 x4 x5 x6 x7 x8 x9 x10 x11)
      clear hx ha hxa al
      go_upto_region 5 with fail
      clear x0 x1 x2 x3 x4 x5 x6 x7 x8 x9 x10 x11
      generalize wr.alloc (.cells #[.int .i64 x.who, .int .i64 x.place, .int .i64 x.op, .int .i64 x.f, .int .i64 x.a, .int .i64 x.b, .int .i64 x.e, .slice x.A x.m x.c, .int .i64 x.n, .int .u64 x.v, .int .i64 x.fr, .int .i64 x.to] 30) = W1 at *
      generalize wr.heap.size = g at *
      obtain ⟨x0, x1, x2, x3, x4, x5, x6, x7, x8, x9, x10, x11⟩ := DnAt.of_cells HB1.out; (try simp only [Nat.zero_add] at x0 x1 x2 x3 x4 x5 x6 x7 x8 x9 x10 x11)
      have kx := Lib.hid (kd.out x W1)
      rcases hd : divB x
      · have PD : Hid (partsD a = [a]) := by show _ = _; unfold partsD; rw [← AL.out.2, hd]; simp
        rw [hd] at kx
        clear hd
        go_upto_region 7 with (go_at_call 10; refine kx.out.mono ?_; rintro e w2 ⟨rfl, o2⟩; have O2 := Lib.hid o2; clear o2)
        clear kx x0 x1 x2 x3 x4 x5 x6 x7 x8 x9 x10 x11
        have pc := Lib.hid (pClone w2 x.A x.m x.c a.2 XA.out.nil XA.out.len.symm XM.out ((XA.out.src.only0 D1.out.fr.only).only0 O2.out))
        obtain ⟨-, -, -, -, -, -, -, x7, -, -, -, -⟩ := (DnAt.of_cells HB1.out).only0 O2.out
        simp only [Nat.zero_add] at x7
        go_wp2_with fail
        refine pc.out.mono ?_
        rintro e w3 ⟨A2, c2, rfl, r3, f3, o3⟩
        have O3 : Hid (Only [] W1 w3) := O2.out.trans' o3
        have D3 : Hid (DR u w3 A1 q cap1 R (partsL (qs.take i))) := D1.out.only0 O3.out
        have HB3 : Hid (w3.heap[g]? = some (.cells #[.int .i64 x.who, .int .i64 x.place, .int .i64 x.op, .int .i64 x.f, .int .i64 x.a, .int .i64 x.b, .int .i64 x.e, .slice x.A x.m x.c, .int .i64 x.n, .int .u64 x.v, .int .i64 x.fr, .int .i64 x.to] 30 (0, 0))) := O3.out.get HB1.out (by simp)
        have R3 : Hid (pE.Row w3 (.slice A2 x.m c2) a.2 ∧ ∀ k, (Value.slice A2 x.m c2).ownBlock = some k → u.heap.size ≤ k) := ⟨r3, fun k hk => Nat.le_trans (D1.out.fr.only.trans' O2.out).size (f3 k hk)⟩
        obtain ⟨y, hy⟩ : ∃ y : Dn, y = { x with A := A2, c := c2 } := ⟨_, rfl⟩
        have HY := Lib.hid hy
        have HB4 : Hid ((w3.setCell ⟨g, 7, none⟩ (.slice A2 x.m c2)).heap[g]? = some (.cells #[.int .i64 y.who, .int .i64 y.place, .int .i64 y.op, .int .i64 y.f, .int .i64 y.a, .int .i64 y.b, .int .i64 y.e, .slice y.A y.m y.c, .int .i64 y.n, .int .u64 y.v, .int .i64 y.fr, .int .i64 y.to] 30 (0, 0))) := by
          show _ = _
          rw [hy]
          simp [World.setCell, Array.getElem?_modify, HB3.out]
        have D4 : Hid (DR u (w3.setCell ⟨g, 7, none⟩ (.slice A2 x.m c2)) A1 q cap1 R (partsL (qs.take i))) := D3.out.setBox HB3.out NB1.out.1 NB1.out.2 7 _
        have PY : Hid (PR u.heap.size (w3.setCell ⟨g, 7, none⟩ (.slice A2 x.m c2)) y a) := by
          have o : Only [g] w3 (w3.setCell ⟨g, 7, none⟩ (.slice A2 x.m c2)) := (Only.refl [g] w3).setCell (.inl (by simp)) _
          refine ⟨by rw [hy]; exact AL.out.1, by rw [hy]; exact R3.out.1.only o (fun b hb2 => by simpa using R3.out.1.ne HB3.out (by decide) b hb2), by rw [hy]; exact R3.out.2⟩
        obtain ⟨-, -, -, -, -, -, -, x7, -, -, -, -⟩ := DnAt.of_cells HB3.out
        simp only [Nat.zero_add] at x7
        have f7 := frozen_of HB3.out 7
        clear pc r3 f3 o3 hy
        go_upto_region 8 with fail
        clear x7 f7
        generalize w3.setCell ⟨g, 7, none⟩ (.slice A2 x.m c2) = W4 at *
        obtain ⟨y0, y1, y2, y3, y4, y5, y6, y7, y8, y9, y10, y11⟩ := DnAt.of_cells HB4.out; (try simp only [Nat.zero_add] at y0 y1 y2 y3 y4 y5 y6 y7 y8 y9 y10 y11)
        go_wp2_with (at_builtin; refine wpList_appR rfl (.tmp 27) (.tmp 29) rfl A1 q cap1 R _ y a rfl rfl D4.out PY.out (by have := hq.out; have := HB.out; omega) ?_)
        intro A5 c5 w5 h5
        have D5 := Lib.hid h5
        clear h5
        go_wp2_with fail
        go_roundg (n + 1 - (i + 1))
        case measure => omega
        case rel => exact ⟨i + 1, q + 1, A5, c5, _, by simp, rfl, by omega, by omega, by show _ ≤ _; have := QL.out; omega, by show DR _ _ _ _ _ _ _; rw [QS.out, PD.out]; exact D5.out⟩
      · have PD : Hid (partsD a = partsA (x.strip, a.2)) := by show _ = _; unfold partsD; rw [← AL.out.2, hd, AL.out.1]; simp
        rw [hd] at kx
        clear hd
        go_upto_region 6 with (go_at_call 10; refine kx.out.mono ?_; rintro e w2 ⟨rfl, o2⟩; have O2 := Lib.hid o2; clear o2)
        clear kx x0 x1 x2 x3 x4 x5 x6 x7 x8 x9 x10 x11
        have kps := Lib.hid (kParts x x.A x.m x.c a.2 w2 XA.out.len.symm ((XA.out.src.only0 D1.out.fr.only).only0 O2.out) XM.out)
        have D2 : Hid (DR u w2 A1 q cap1 R (partsL (qs.take i))) := D1.out.only0 O2.out
        obtain ⟨x0, x1, x2, x3, x4, x5, x6, x7, x8, x9, x10, x11⟩ := (DnAt.of_cells HB1.out).only0 O2.out; (try simp only [Nat.zero_add] at x0 x1 x2 x3 x4 x5 x6 x7 x8 x9 x10 x11)
        go_wp2_with fail
        refine kps.out.mono ?_
        rintro e w3 ⟨A3, q3, c3, rfl, R3, d3⟩
        have D3 : Hid (DR u w3 A1 q cap1 R (partsL (qs.take i))) := D2.out.only0 d3.fr.only
        have Y3 := Lib.hid d3
        have V3 : Hid (Rw u.heap.size w3 R3 (partsA (x.strip, a.2))) := d3.rw_.mono (D2.out.fr.only).size
        have Q3 : Hid (q3 ≤ a.2.length + 1) := by show _ ≤ _; have h7 := d3.fr.len; have h8 := d3.rw_.len; have h9 := partsA_len (x.strip, a.2); simp only at h9; omega
        have QB : Hid (q + q3 ≤ 100000000) := by show _ ≤ _; have := Q3.out; have := hq.out; have := HB.out; have := XA.out.len; have := XM.out; omega
        clear kps d3 x0 x1 x2 x3 x4 x5 x6 x7 x8 x9 x10 x11
        go_wp2_with (at_builtin; refine wpList_appRs rfl (.tmp 17) (.tmp 19) rfl A1 q cap1 R _ A3 q3 c3 R3 _ rfl rfl D3.out Y3.out.fr.row V3.out QB.out ?_)
        intro A5 c5 w5 h5
        have D5 := Lib.hid h5
        clear h5
        go_wp2_with fail
        go_roundg (n + 1 - (i + 1))
        case measure => omega
        case rel => exact ⟨i + 1, q + q3, A5, c5, _, by simp, rfl, by omega, by omega, by show _ ≤ _; have := QL.out; have := Q3.out; omega, by show DR _ _ _ _ _ _ _; rw [QS.out, PD.out]; exact D5.out⟩
    · obtain rfl : i = n := by omega
      have h2 : ¬ ((i : Int) < (i : Int)) := by omega
      have h3 : decide ((i : Int) < (i : Int)) = false := decide_eq_false h2
      have TK : Hid (qs.take i = qs) := List.take_of_length_le (by have := H.out.2.2.1.len; have := H.out.2.1; omega)
      go_wp2_with fail
      go_ret
      exact ⟨A1, q, cap1, rfl, R, by have := D.out; rwa [TK.out] at this⟩
end Go.Proofs.Ytaaolacfhdfagaa
