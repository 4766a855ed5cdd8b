/-
  weighbridgelaw04.HeapSame returns true for every input, and leaves its arguments as they were. No condition but that the arguments are values of their types.
-/
import Derived.Test.YtppkbokjnocoeaaRows
import Derived.Test.YtppkbokjnocoeaaHeapO
import Derived.WalkKit
import Derived.ProofKit
import Derived.OpenShut
import Derived.ChangeOld
import Derived.Below
namespace Go.Proofs.Ytppkbokjnocoeaa.heapSame
open Go.ChangeShapes Go.WideShapes Go.ChangeAt Go.RowKit
set_option linter.unusedVariables false
set_option linter.unusedSimpArgs false

theorem item_neq (x y : It) (w : World) : (binOp .neq 37 (.agg #[.int .u64 x.k, .int .i64 x.i]) (.agg #[.int .u64 y.k, .int .i64 y.i])).run Try.prog w = .ok (.bool (!decide (x = y))) w := by
  have u1 := Try.underlying3
  have a1 := Try.isAgg3
  have z1 := Try.sizeOf3
  have u2 := Try.underlying31
  have a2 := Try.isAgg31
  have z2 := Try.sizeOf31
  rw [run_neq_struct, show (10000 : Nat) = 9999 + 1 from rfl, run_equalIn_agg w 9999 37 _ _ item_struct item_held]
  simp only [Program.fieldsOf, Try.underlying37]
  go_simp
  obtain ⟨k, i⟩ := x
  obtain ⟨k', i'⟩ := y
  by_cases h1 : k = k' <;> by_cases h2 : i = i' <;> simp [h1, h2]
theorem rises_ext : ∀ {l m : List It}, Rises l → Rises m → (∀ x, x ∈ l ↔ x ∈ m) → l = m
  | [], [], _, _, _ => rfl
  | [], y :: m, _, _, h => absurd ((h y).2 (by simp)) (by simp)
  | x :: l, [], _, _, h => absurd ((h x).1 (by simp)) (by simp)
  | x :: l, y :: m, h1, h2, h => by
    have hx := List.pairwise_cons.1 h1
    have hy := List.pairwise_cons.1 h2
    have e : x = y := by
      rcases List.mem_cons.1 ((h x).1 (by simp)) with e | mx
      · exact e
      · rcases List.mem_cons.1 ((h y).2 (by simp)) with e | my
        · exact e.symm
        · have := It.trans (hx.1 y my) (hy.1 x mx)
          rw [It.irrefl] at this; cases this
    subst e
    have ne1 : ∀ z ∈ l, z ≠ x := fun z hz e => by have := hx.1 z hz; rw [e, It.irrefl] at this; cases this
    have ne2 : ∀ z ∈ m, z ≠ x := fun z hz e => by have := hy.1 z hz; rw [e, It.irrefl] at this; cases this
    rw [rises_ext hx.2 hy.2 (fun z => ⟨fun hz => by
      rcases List.mem_cons.1 ((h z).1 (by simp [hz])) with e | e
      · exact absurd e (ne1 z hz)
      · exact e, fun hz => by
      rcases List.mem_cons.1 ((h z).2 (by simp [hz])) with e | e
      · exact absurd e (ne2 z hz)
      · exact e⟩)]
/-- The item with ID i. -/
def itm (z : Nat → Int) (i : Nat) : It := ⟨z i % 9, (i : Int)⟩
/-- All of l are of the first n. -/
def Sub (z : Nat → Int) (n : Nat) (l : List It) : Prop := ∀ x ∈ l, ∃ i, i < n ∧ x = itm z i
theorem Sub.mem {z : Nat → Int} {n : Nat} {l : List It} (h : Sub z n l) {i : Nat} (hh : hasId (itm z i).i l = true) : itm z i ∈ l := by
  obtain ⟨x, hx, e⟩ := (hasId_iff _ _).1 hh
  obtain ⟨j, _, rfl⟩ := h x hx
  have : j = i := by simp only [itm] at e; omega
  subst this
  exact hx
theorem Sub.push {z : Nat → Int} {n : Nat} {l : List It} (h : Sub z n l) {i : Nat} (hi : i < n) :
    Sub z n (if hasId (itm z i).i l = true then l else ins (itm z i) l) ∧ itm z i ∈ (if hasId (itm z i).i l = true then l else ins (itm z i) l) ∧ (∀ x ∈ l, x ∈ (if hasId (itm z i).i l = true then l else ins (itm z i) l)) ∧
      (if hasId (itm z i).i l = true then l else ins (itm z i) l).length ≤ l.length + 1 := by
  split
  · rename_i hh
    exact ⟨h, h.mem hh, fun x hx => hx, by omega⟩
  · have hp := ins_perm (itm z i) l
    refine ⟨fun x hx => ?_, hp.symm.subset (by simp), fun x hx => hp.symm.subset (by simp [hx]), by rw [ins_len]; omega⟩
    rcases List.mem_append.1 (hp.subset hx) with h9 | h9
    · exact h x h9
    · simp only [List.mem_singleton] at h9; exact ⟨i, hi, h9⟩
theorem itm_ok {z : Nat → Int} {i : Nat} (hz : (Lit.int .u64 (z i)).wf = true) (hi : i ≤ 60) : (itm z i).ok := by
  have := u64ok_to hz
  exact ⟨u64ok_of (by simp only [itm]; omega), i64ok_of (by simp only [itm]; omega)⟩

set_option maxRecDepth 100000 in
set_option maxHeartbeats 8000000 in
theorem walk (a0 : Option Addr) (len0 cap0 : Nat) (z0 : Nat → Int) (a1 : Option Addr) (len1 cap1 : Nat) (z1 : Nat → Int) (w : World) (w0 : InInts .u64 w a0 len0 z0) (w1 : InInts .i64 w a1 len1 z1) :
    Calls Try.prog 5 #[.slice a0 len0 cap0, .slice a1 len1 cap1] w fun e w' => e = .returned (.bool true) ∧ Below w.heap.size w w' := by
  have W0 := Lib.hid w0
  have W1 := Lib.hid w1
  clear w0 w1
  obtain ⟨n, hn60, hn0, en⟩ : ∃ n : Nat, n ≤ 60 ∧ n ≤ len0 ∧ Hid (n = min len0 60) := ⟨min len0 60, by omega, by omega, rfl⟩
  go_enter Try.func5, Try.ntmps5
  go_wp2_with fail
  refine (hNew _).mono ?_
  rintro e u1 ⟨hb, S1, rfl, h1, f1, o1⟩
  have A1 := Lib.hid (And.intro h1 (And.intro f1 o1))
  clear h1 f1 o1
  go_wp2_with fail
  refine (hNew _).mono ?_
  rintro e u2 ⟨gb, G1, rfl, h2, f2, o2⟩
  have TT : Hid (HeapOf u2 hb S1 [] ∧ HeapOf u2 gb G1 [] ∧ ∀ b ∈ S1, b ∉ G1) := ⟨A1.out.1.only0 o2, h2, fun b hb e => by have := A1.out.1.lt b hb; have := f2 b e; omega⟩
  have MM : Hid (Moved w [] u2 (S1 ++ G1)) := ⟨A1.out.2.2.trans' o2, fun b hb => .inr (by
    have h9 := A1.out.2.2.size
    rcases List.mem_append.1 hb with h7 | h7
    · exact A1.out.2.1 b h7
    · have := f2 b h7; omega)⟩
  clear h2 f2 o2 A1
  go_wp2_with fail
  refine (hAwake _).mono ?_
  rintro e u3 ⟨rfl, o3⟩
  have M3 := Lib.hid (MM.out.still o3)
  have T3 : Hid (HeapOf u3 hb S1 [] ∧ HeapOf u3 gb G1 [] ∧ ∀ b ∈ S1, b ∉ G1) := ⟨TT.out.1.only0 o3, TT.out.2.1.only0 o3, TT.out.2.2⟩
  clear MM TT o3
  go_wp2_with fail
  have emin : min (len0 : Int) 60 = (n : Int) := by have := en.out; omega
  rw [emin]
  clear emin
  go_loopg [8] (n + 1) (fun gk si wr => ∃ (p : Nat) (S : List Nat) (l : List It), si = .int .i64 (p : Int) ∧ p ≤ n ∧ n + 1 ≤ gk + p ∧ l.length = p ∧ Hid (HeapOf wr hb S l ∧ HeapOf wr gb G1 [] ∧ ∀ b ∈ S, b ∉ G1) ∧ Hid (Moved w [] wr (S ++ G1)) ∧ Hid (Sub z0 p l ∧ ∀ i, i < p → itm z0 i ∈ l))
  case atStart => exact ⟨0, S1, [], rfl, by omega, by omega, rfl, T3, M3, fun x hx => by simp at hx, fun i hi => absurd hi (by omega)⟩
  case round =>
    obtain ⟨p, S, l, rfl, hp, hg, hlp, hH, hM, hI⟩ := hrel
    clear T3 M3
    by_cases hpn : p < n
    · have c1 : (p : Int) < (n : Int) := by omega
      have c1' : (p : Int) < (len0 : Int) := by omega
      obtain ⟨hz, ad, rfl, hbw, q0⟩ := W0.out p (by omega)
      have r0 := hM.out.1.stay q0
      obtain ⟨b0, b1⟩ := u64ok_to hz
      have hok := itm_ok (z := z0) hz (by omega)
      have a2 := hPush wr hb S l hH.out.1 (itm z0 p) hok (by omega)
      have hno : hasId (itm z0 p).i l = false := (hasId_not _ _).2 (fun x hx e => by
        obtain ⟨i, hi, rfl⟩ := hI.out.1 x hx
        simp only [itm] at e
        omega)
      rw [hno] at a2
      change Calls _ _ #[_, .agg #[.int .u64 (z0 p % 9), .int .i64 (p : Int)]] _ _ at a2
      clear q0 hbw hz hok hno
      go_wp2_with fail
      refine a2.mono ?_
      clear a2
      rintro e w2 ⟨rfl, S2, h2, m2⟩
      have HF : Hid (HeapOf w2 hb S2 (ins (itm z0 p) l) ∧ HeapOf w2 gb G1 [] ∧ ∀ b ∈ S2, b ∉ G1) := ⟨by simpa using h2, hH.out.2.1.only m2.1 (fun b hb hb' => hH.out.2.2 b hb' hb), m2.apart hH.out.2.2 hH.out.2.1.lt⟩
      have MF : Hid (Moved w [] w2 (S2 ++ G1)) := hM.out.trans (m2.both (Moved.refl w2 G1))
      clear h2 m2
      go_wp2_with fail
      go_roundg (n + 1 - (p + 1))
      case measure => omega
      case rel =>
        have hpm := ins_perm (itm z0 p) l
        refine ⟨p + 1, S2, ins (itm z0 p) l, by simp, by omega, by omega, by rw [ins_len]; omega, HF, MF, fun x hx => ?_, fun i hi => ?_⟩
        · rcases List.mem_append.1 (hpm.subset hx) with h9 | h9
          · obtain ⟨i, hi, e⟩ := hI.out.1 x h9
            exact ⟨i, by omega, e⟩
          · simp only [List.mem_singleton] at h9; exact ⟨p, by omega, h9⟩
        · rcases Nat.lt_or_ge i p with h9 | h9
          · exact hpm.symm.subset (by simp [hI.out.2 i h9])
          · have : i = p := by omega
            subst this
            exact hpm.symm.subset (by simp)
    · have c1 : decide ((p : Int) < (n : Int)) = false := decide_eq_false (by omega)
      have hpe : p = n := by omega
      subst hpe
      clear hpn hp hg
      have HL := Lib.hid hlp
      clear hlp
      go_wp2_with fail
      generalize wr = wu at *
      go_loopg [9] (len1 + 1) (fun gk si wr => ∃ (q : Nat) (G : List Nat) (m : List It), si = .int .i64 (q : Int) ∧ q ≤ len1 ∧ q ≤ 60 ∧ len1 + 1 ≤ gk + q ∧ m.length ≤ q ∧ Hid (HeapOf wr hb S l ∧ HeapOf wr gb G m ∧ ∀ b ∈ S, b ∉ G) ∧ Hid (Moved w [] wr (S ++ G)) ∧ Hid (Sub z0 p m))
      case atStart => exact ⟨0, G1, [], rfl, by omega, by omega, by omega, by simp, hH, hM, fun x hx => by simp at hx⟩
      case round =>
        obtain ⟨q, G, m, rfl, hq, hq60, hg, hmq, hH2, hM2, hI2⟩ := hrel
        clear hH hM
        by_cases hc : q < len1 ∧ q < 60 ∧ 0 < p
        · have c2 : (q : Int) < (len1 : Int) := by omega
          have c3 : (q : Int) < 60 := by omega
          have c4 : (0 : Int) < (p : Int) := by omega
          obtain ⟨hz, ad, rfl, hbw, q0⟩ := W1.out q hc.1
          have r0 := hM2.out.1.stay q0
          have hmod := hMod (z1 q) p hc.2.2 (by omega)
          clear q0 hbw
          go_wp2_with fail
          refine (hmod _).mono ?_
          clear hmod
          rintro e w2 ⟨⟨k, hk, rfl⟩, rfl⟩
          obtain ⟨hz0, ad0, rfl, hbw0, q00⟩ := W0.out k (by omega)
          have r1 := hM2.out.1.stay q00
          obtain ⟨b0, b1⟩ := u64ok_to hz0
          have hok := itm_ok (z := z0) hz0 (by omega)
          have a2 := hPush w2 gb G m hH2.out.2.1 (itm z0 k) hok (by omega)
          change Calls _ _ #[_, .agg #[.int .u64 (z0 k % 9), .int .i64 (k : Int)]] _ _ at a2
          have c5 : (k : Int) < (len0 : Int) := by omega
          have HP := Lib.hid (hI2.out.push hk)
          clear q00 hbw0 hz0 hok
          go_wp2_with fail
          refine a2.mono ?_
          clear a2
          rintro e w3 ⟨rfl, G3, h3, m3⟩
          obtain ⟨m4, em4⟩ : ∃ m4, (if hasId (itm z0 k).i m = true then m else ins (itm z0 k) m) = m4 := ⟨_, rfl⟩
          rw [em4] at h3 HP
          have hGS := m3.apart (fun b hb hb' => hH2.out.2.2 b hb' hb) hH2.out.1.lt
          have HF : Hid (HeapOf w3 hb S l ∧ HeapOf w3 gb G3 m4 ∧ ∀ b ∈ S, b ∉ G3) := ⟨hH2.out.1.only m3.1 hH2.out.2.2, h3, fun b hb hb' => hGS b hb' hb⟩
          have MF : Hid (Moved w [] w3 (S ++ G3)) := hM2.out.trans ((Moved.refl _ S).both m3)
          clear h3 m3 em4 hGS
          go_wp2_with fail
          go_roundg (len1 + 1 - (q + 1))
          case measure => omega
          case rel =>
            have h9 := HP.out.2.2.2
            exact ⟨q + 1, G3, m4, by simp, by omega, by omega, by omega, by omega, HF, MF, HP.out.1⟩
        · have hcd : (decide ((q : Int) < (len1 : Int)) = false ∧ ¬ ((q : Int) < (len1 : Int)) ∧ True) ∨ ((q : Int) < (len1 : Int) ∧ decide ((q : Int) < 60) = false ∧ ¬ ((q : Int) < 60)) ∨ ((q : Int) < (len1 : Int) ∧ (q : Int) < 60 ∧ decide ((0 : Int) < (p : Int)) = false ∧ ¬ ((0 : Int) < (p : Int))) := by
            have hce : ¬ q < len1 ∨ (q < len1 ∧ ¬ q < 60) ∨ (q < len1 ∧ q < 60 ∧ p = 0) := by omega
            rcases hce with h9 | h9 | h9
            · exact .inl ⟨decide_eq_false (by omega), by omega, trivial⟩
            · exact .inr (.inl ⟨by omega, decide_eq_false (by omega), by omega⟩)
            · exact .inr (.inr ⟨by omega, by omega, decide_eq_false (by omega), by omega⟩)
          clear hc hq hg
          have start : Hid (∀ i, p ≤ i → i < p → itm z0 i ∈ m) := fun i h1 h2 => absurd h1 (by omega)
          have hm60 : m.length ≤ 60 := by omega
          clear hmq
          rcases hcd with ⟨c2, c3, c4⟩ | ⟨c2, c3, c4⟩ | ⟨c2, c3, c4, c5⟩
          all_goals
            go_wp2_with fail
            generalize wr = wv at *
            go_loopg [11] (p + 1) (fun gk si wr => ∃ (r : Nat) (G : List Nat) (m : List It), si = .int .i64 ((r : Int) - 1) ∧ r ≤ p ∧ r + 1 ≤ gk ∧ m.length + r ≤ 60 + p ∧ Hid (HeapOf wr hb S l ∧ HeapOf wr gb G m ∧ ∀ b ∈ S, b ∉ G) ∧ Hid (Moved w [] wr (S ++ G)) ∧ Hid (Sub z0 p m ∧ ∀ i, r ≤ i → i < p → itm z0 i ∈ m))
            case atStart => exact ⟨p, G, m, rfl, by omega, by omega, by omega, hH2, hM2, hI2.out, start.out⟩
            case round =>
              obtain ⟨r, G, m, rfl, hr, hg, hmr, hH3, hM3, hI3⟩ := hrel
              clear hH2 hM2 start hI2 hm60
              rcases r with _ | r
              · have e0 : ((0 : Nat) : Int) - 1 = -1 := by omega
                rw [e0]
                clear e0
                have elm : l = m := rises_ext hH3.out.1.rises hH3.out.2.1.rises (fun x => ⟨fun hx => by
                  obtain ⟨i, hi, rfl⟩ := hI.out.1 x hx
                  exact hI3.out.2 i (Nat.zero_le _) hi, fun hx => by
                  obtain ⟨i, hi, rfl⟩ := hI3.out.1 x hx
                  exact hI.out.2 i hi⟩)
                subst elm
                have s1 := hAll wr hb S l hH3.out.1
                go_wp2_with fail
                refine s1.mono ?_
                clear s1
                rintro e v1 ⟨A1, cp1, rfl, r1, q1, o1⟩
                have s2 := hAll v1 gb G l (hH3.out.2.1.only0 o1)
                have R1 := Lib.hid (And.intro r1 o1)
                clear r1 q1 o1
                go_wp2_with fail
                refine s2.mono ?_
                clear s2
                rintro e v2 ⟨A2, cp2, rfl, r2, q2, o2⟩
                have s3 := hPlain v2 _ _ l l (R1.out.1.keep (w' := v2) (fun g hg => o2.block g (R1.out.1.lt hg) (by simp))) r2 (by have := HL.out; omega) (by have := HL.out; omega)
                rw [show decide (l = l) = true by simp] at s3
                have R2 := Lib.hid (R1.out.2.trans' o2)
                clear r2 q2 o2 R1
                go_wp2_with fail
                refine s3.mono ?_
                clear s3
                rintro e v3 ⟨rfl, o3⟩
                have o03 := R2.out.trans' o3
                have H4 : Hid (HeapOf v3 hb S l ∧ HeapOf v3 gb G l ∧ ∀ b ∈ S, b ∉ G) := ⟨hH3.out.1.only0 o03, hH3.out.2.1.only0 o03, hH3.out.2.2⟩
                have M4 := Lib.hid (hM3.out.still o03)
                clear o3 o03 R2
                go_wp2_with fail
                go_loopg [12] (p + 2) (fun gk si wr => ∃ (k : Nat) (S G : List Nat) (l : List It), si = .int .i64 (k : Int) ∧ k ≤ p + 1 ∧ p + 2 ≤ gk + k ∧ l.length = p - k ∧ Hid (HeapOf wr hb S l ∧ HeapOf wr gb G l ∧ ∀ b ∈ S, b ∉ G) ∧ Hid (Moved w [] wr (S ++ G)))
                case atStart => exact ⟨0, S, G, l, rfl, by omega, by omega, HL.out, H4, M4⟩
                case round =>
                  obtain ⟨k, S, G, l, rfl, hk, hg, hlk, hH5, hM5⟩ := hrel
                  clear H4 M4 HL hH3 hM3 hI hI3
                  by_cases hkp : k ≤ p
                  · have c8 : (k : Int) ≤ (p : Int) := by omega
                    obtain ⟨x, ex⟩ : ∃ x, first l = x := ⟨_, rfl⟩
                    obtain ⟨bo, eb⟩ : ∃ b, (!l.isEmpty) = b := ⟨_, rfl⟩
                    have hbo : decide ((k : Int) < (p : Int)) = bo := by
                      rw [← eb]
                      cases l with
                      | nil => simp at hlk ⊢; omega
                      | cons y l => simp at hlk ⊢; omega
                    have s1 := hPop wr hb S l hH5.out.1
                    rw [ex, eb] at s1
                    have s2 := fun v G (h : HeapOf v gb G l) => hPop v gb G l h
                    rw [ex, eb] at s2
                    unfold It.val at s1 s2
                    have hlt : l.tail.length = p - (k + 1) := by simp; omega
                    have HT := Lib.hid hlt
                    have he := item_neq x x
                    simp only [decide_true, Bool.not_true] at he
                    have hgu := item_guard
                    clear ex eb hlt hlk
                    go_wp2_with fail
                    refine s1.mono ?_
                    clear s1
                    rintro e v1 ⟨rfl, S2, h2, m2⟩
                    have oX : Only [] v1 (v1.alloc (.cells #[.int .u64 x.k, .int .i64 x.i] 37)) := (Only.refl [] v1).alloc _
                    have hG2 := (hH5.out.2.1.only m2.1 (fun b hb hb' => hH5.out.2.2 b hb' hb)).only0 oX
                    have s3 := s2 _ G hG2
                    have bA : Box _ v1.heap.size x := Box.new v1 x
                    have hAG : v1.heap.size ∉ G := fun e => by have := hH5.out.2.1.lt _ e; have := m2.1.size; omega
                    have hd2 := m2.apart hH5.out.2.2 hH5.out.2.1.lt
                    have R2 := Lib.hid (And.intro (h2.only0 oX) (And.intro hd2 (And.intro bA ((hM5.out.trans (m2.both (Moved.refl v1 G))).still oX))))
                    clear h2 m2 oX hG2 bA hd2 s2
                    go_wp2_with fail
                    refine s3.mono ?_
                    clear s3
                    rintro e v2 ⟨rfl, G2, h3, m3⟩
                    have bA2 := R2.out.2.2.1.only m3.1 hAG
                    have y0 := bA2.c0
                    have y1 := bA2.c1
                    have hlt2 : v1.heap.size < v2.heap.size := bA2.lt
                    have hGS := m3.apart (fun b hb hb' => R2.out.2.1 b hb' hb) R2.out.1.lt
                    have oY : Only [] v2 (v2.alloc (.cells #[.int .u64 x.k, .int .i64 x.i] 37)) := (Only.refl [] v2).alloc _
                    have HF : Hid (HeapOf (v2.alloc (.cells #[.int .u64 x.k, .int .i64 x.i] 37)) hb S2 l.tail ∧ HeapOf (v2.alloc (.cells #[.int .u64 x.k, .int .i64 x.i] 37)) gb G2 l.tail ∧ ∀ b ∈ S2, b ∉ G2) :=
                      ⟨(R2.out.1.only m3.1 R2.out.2.1).only0 oY, h3.only0 oY, fun b hb hb' => hGS b hb' hb⟩
                    have MF : Hid (Moved w [] (v2.alloc (.cells #[.int .u64 x.k, .int .i64 x.i] 37)) (S2 ++ G2)) := (R2.out.2.2.2.trans ((Moved.refl _ S2).both m3)).still oY
                    clear h3 m3 bA2 hGS oY R2
                    rcases bo with _ | _
                    all_goals
                      first
                        | have c10 := of_decide_eq_true hbo
                        | have c10 := of_decide_eq_false hbo
                      first
                        | (exfalso; omega)
                        | (go_wp2_with fail
                           go_roundg (p + 2 - (k + 1))
                           case measure => omega
                           case rel => exact ⟨k + 1, S2, G2, l.tail, by simp, by omega, by omega, HT.out, HF, MF⟩)
                  · have c8 : decide ((k : Int) ≤ (p : Int)) = false := decide_eq_false (by omega)
                    have c9 : ¬ ((k : Int) ≤ (p : Int)) := by omega
                    go_wp2_with fail
                    go_ret
                    exact ⟨rfl, hM5.out.1.below (Nat.le_refl _) (by simp)⟩
              · first
                | (exfalso; omega)
                | (have e0 : ((r + 1 : Nat) : Int) - 1 = (r : Int) := by omega
                   rw [e0]
                   clear e0
                   obtain ⟨hz0, ad0, rfl, hbw0, q00⟩ := W0.out r (by omega)
                   have r1 := hM3.out.1.stay q00
                   obtain ⟨b0, b1⟩ := u64ok_to hz0
                   have hok := itm_ok (z := z0) hz0 (by omega)
                   have a2 := hPush wr gb G m hH3.out.2.1 (itm z0 r) hok (by omega)
                   change Calls _ _ #[_, .agg #[.int .u64 (z0 r % 9), .int .i64 (r : Int)]] _ _ at a2
                   have c7 : (r : Int) < (len0 : Int) := by omega
                   have c8 : (0 : Int) ≤ (r : Int) := by omega
                   have HP := Lib.hid (hI3.out.1.push (i := r) (by omega))
                   clear q00 hbw0 hz0 hok
                   go_wp2_with fail
                   refine a2.mono ?_
                   clear a2
                   rintro e w3 ⟨rfl, G3, h3, m3⟩
                   obtain ⟨m4, em4⟩ : ∃ m4, (if hasId (itm z0 r).i m = true then m else ins (itm z0 r) m) = m4 := ⟨_, rfl⟩
                   rw [em4] at h3 HP
                   have hGS := m3.apart (fun b hb hb' => hH3.out.2.2 b hb' hb) hH3.out.1.lt
                   have HF : Hid (HeapOf w3 hb S l ∧ HeapOf w3 gb G3 m4 ∧ ∀ b ∈ S, b ∉ G3) := ⟨hH3.out.1.only m3.1 hH3.out.2.2, h3, fun b hb hb' => hGS b hb' hb⟩
                   have MF : Hid (Moved w [] w3 (S ++ G3)) := hM3.out.trans ((Moved.refl _ S).both m3)
                   clear h3 m3 em4 hGS
                   go_wp2_with fail
                   go_roundg (r + 1)
                   case measure => omega
                   case rel =>
                     have h9 := HP.out.2.2.2
                     refine ⟨r, G3, m4, rfl, by omega, by omega, by omega, HF, MF, HP.out.1, fun i h1 h2 => ?_⟩
                     rcases Nat.lt_or_ge r i with h8 | h8
                     · exact HP.out.2.2.1 _ (hI3.out.2 i (by omega) h2)
                     · have : i = r := by omega
                       subst this
                       exact HP.out.2.1)

/-! ### The step from the walk to the statement -/
set_option maxRecDepth 100000 in
theorem lifted (os : Os) (started : os.Started) (H : Type) (enc : TypeId × Value → H) :
    ReturnsInHanded {} Try.checked os 5 .any (Rows.heapSameSpec.pre6 enc Try.prog Try.f5 Rows.heapSameRow.domain false) (Rows.heapSameSpec.post enc Try.prog Try.f5 false true false false) := by
  refine returnsInHanded_of_change (C := Try.checked) own started (by kernel_rfl) Try.func5
    (ChangeSpec.witness6 (enc := enc) (C := Try.checked) false ⟨#[], #[.slice none 0 0, .slice none 0 0], []⟩ 8 (by kernel_rfl) (by kernel_rfl) (by kernel_rfl) (by kernel_rfl)) ?_
  intro W base args ds gs before hval0 hW hcnd _
  have hval : ∀ (j : Nat) t v, Try.f5.params[j]? = some t → args[j]? = some v → Value.okWide Try.prog W .any base t v := hval0
  have hW' := hW
  obtain ⟨p, q, hA0, hV, rfl, hfz, hnd⟩ := hW
  have hA : DataW.TrodAll enc Try.prog W 0 (fun _ => true) true Try.f5.params.toList args.toList ds p := hA0
  rw [Try.params5] at hA hval
  obtain ⟨v0, vs0, d0, ds0, p0, q0, hargs, rfl, rfl, h0, r0⟩ := trodAll_cons hA
  obtain ⟨v1, vs1, d1, ds1, p1, q1, rfl, rfl, rfl, h1, r1⟩ := trodAll_cons r0
  obtain ⟨rfl, rfl, rfl⟩ := trodAll_nil r1
  obtain rfl : args = #[v0, v1] := by cases args; simp_all
  obtain ⟨rfl, rfl⟩ := trodVars_none hV
  obtain ⟨a0, len0, cap0, rfl⟩ := okWide_slice Try.underlying46 (hval 0 46 v0 rfl rfl)
  have k0 := h0
  have lt0 : ∀ x ∈ p0, x.block < W.heap.size := by obtain ⟨m, hm⟩ := k0; exact DataW.trod_lt m _ _ _ hm
  obtain ⟨z0, w0⟩ : ∃ z, InInts .u64 W a0 len0 z := by
    obtain ⟨fuel, hf⟩ := h0
    exact open_nums Try.underlying46 Try.underlying31 (by kernel_rfl) hf
  obtain ⟨a1, len1, cap1, rfl⟩ := okWide_slice Try.underlying47 (hval 1 47 v1 rfl rfl)
  have k1 := h1
  have lt1 : ∀ x ∈ p1, x.block < W.heap.size := by obtain ⟨m, hm⟩ := k1; exact DataW.trod_lt m _ _ _ hm
  obtain ⟨z1, w1⟩ : ∃ z, InInts .i64 W a1 len1 z := by
    obtain ⟨fuel, hf⟩ := h1
    exact open_nums Try.underlying47 Try.underlying3 (by kernel_rfl) hf
  clear hA0 hval0
  refine (walk a0 len0 cap0 z0 a1 len1 cap1 z1 W w0 w1).mono fun e W' ⟨he, bel⟩ => ?_
  subst he
  exact ⟨_, rfl, _, _, _, [], _, [], hW', trodAll_mk1 (shut_bool Try.underlying4 _), (trodAll_cons_mk (Below.trod laidOut (by kernel_rfl) (of_decide_eq_true (by kernel_rfl)) k0 bel lt0) (trodAll_cons_mk (Below.trod laidOut (by kernel_rfl) (of_decide_eq_true (by kernel_rfl)) k1 bel lt1) trodAll_mk0)), rfl, bel.frame _, fun h => by cases h⟩

theorem over : Rows.heapSameRow.holds Try.pinned (OpenSpec.ofChange Rows.heapSameSpec) :=
  OpenClaim.holds_of_wide 5 Try.f5 rfl rfl rfl rfl rfl rfl rfl ⟨rfl, rfl, rfl, rfl, rfl⟩ rfl rfl rfl rfl rfl (by kernel_rfl) Try.func5 (by kernel_rfl)
    (of_decide_eq_true (by kernel_rfl)) (by unfold Func.isWrapper; first | (rw [if_pos (by decide +kernel)]; kernel_rfl) | (rw [if_neg (by decide +kernel)]; exact ⟨rfl, rfl⟩))
    (fun os started H enc _ => lifted os started H enc)

/-- The statement. -/
theorem proved : Rows.HeapSameSaid := over
#print axioms proved
end Go.Proofs.Ytppkbokjnocoeaa.heapSame
