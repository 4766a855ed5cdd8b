/-
  weighbridgelaw10.SfqKept returns true for every input, and leaves its arguments as they were. No condition but that the arguments are values of their types.
-/
import Derived.Test.YtjmnklmomdfpfaaRows
import Derived.Test.YtjmnklmomdfpfaaSfqD
import Derived.WalkKit
import Derived.ProofKit
import Derived.OpenShut
import Derived.ChangeOld
import Derived.Below
namespace Go.Proofs.Ytjmnklmomdfpfaa.sfqKept
open Go.ChangeShapes Go.WideShapes Go.ChangeAt Go.RowKit
set_option linter.unusedVariables false
set_option linter.unusedSimpArgs false

theorem PRow.reads {w : World} {A : Option Addr} {n c : Nat} {xs : List Pk} (h : PRow w (.slice A n c) xs) (hn : xs.length = n) : ∀ W, Only [] w W → ∀ k, k < n → ∃ g, A = some ⟨g, 0, none⟩ ∧ W.cell? ⟨g, k * 3, none⟩ = some (.int .i64 (pOf xs k).f) ∧ W.cell? ⟨g, k * 3 + 1, none⟩ = some (.int .i64 (pOf xs k).l) ∧ W.cell? ⟨g, k * 3 + 2, none⟩ = some (.int .i64 (pOf xs k).m) := by
  intro W ho k hk
  obtain ⟨g, cap, e, _, _, _, _, hc⟩ := (h.only ho (by simp)).at_ (by omega)
  injection e with e1 e2 e3
  exact ⟨g, e1, hc k (by omega)⟩
set_option maxRecDepth 100000 in
set_option maxHeartbeats 8000000 in
theorem walk (a0 : Option Addr) (len0 cap0 : Nat) (z0 : Nat → Ax) (w : World) (w0 : InAxs w a0 len0 z0) :
    Calls Try.prog 6 #[.slice a0 len0 cap0] w fun e w' => e = .returned (.bool true) ∧ Below w.heap.size w w' := by
  have W0 := Lib.hid w0
  clear w0
  go_enter Try.func6, Try.ntmps6
  go_wp2_with fail
  refine (sNew w).mono ?_
  rintro e v1 ⟨rfl, h1, o1⟩
  have H1 := Lib.hid (qsnd_new h1 o1)
  clear h1 o1
  go_wp2_with fail
  generalize v1.alloc (.cells #[.slice none 0 0, .int .u64 0, .int .u64 0] 29) = V1 at *
  refine (sAwake _).mono ?_
  rintro e v2 ⟨rfl, o2⟩
  have H2 := Lib.hid (H1.out.only0 o2)
  clear o2 H1
  go_wp2_with fail
  refine (QSnd.some H2.out).mono ?_
  rintro e v3 ⟨rfl, O3, P3, h3⟩
  have H3 : Hid (QOrd w v3 w.heap.size someS O3 (.slice none 0 0) (.slice none 0 0) [] [] ∧ Kp someS [] [] ∧ ([] : List Pk).length ≤ 0) := ⟨QOrd.start h3.one, Kp.some, Nat.le_refl _⟩
  clear h3 H2
  go_wp2_with fail
  go_loopg [7, 5, 6] (len0 + 1) (fun gk si s5 s6 wr => ∃ (p : Nat) (S : Sq) (O : List Nat) (A1 : Option Addr) (c1 : Nat) (A2 : Option Addr) (c2 : Nat) (I Q : List Pk), si = .int .i64 (p : Int) ∧ s5 = .slice A1 I.length c1 ∧ s6 = .slice A2 Q.length c2 ∧ p ≤ len0 ∧ p ≤ 60 ∧ len0 + 1 ≤ gk + p ∧ Hid (QOrd w wr w.heap.size S O (.slice A1 I.length c1) (.slice A2 Q.length c2) I Q ∧ Kp S I Q ∧ I.length ≤ p))
  case atStart => exact ⟨0, _, _, none, 0, none, 0, [], [], rfl, rfl, rfl, by omega, by omega, by omega, H3⟩
  case round =>
    obtain ⟨p, S, O, A1, c1, A2, c2, I, Q, rfl, rfl, rfl, hp, hp60, hg, hS⟩ := hrel
    clear H3
    by_cases hc : p < len0 ∧ p < 60
    · have k1 : (p : Int) < (len0 : Int) := by omega
      have k2 : (p : Int) < 60 := by omega
      obtain ⟨hdok, ad, bb, o, s, rfl, hadd, r0, r1, r2, r3, r4, r5, r6⟩ := W0.out.at_ hS.out.1.one.only hc.1
      obtain ⟨d, ed⟩ : ∃ d, z0 p = d := ⟨_, rfl⟩
      rw [ed] at r0 r1 r2 r3 r4 r5 r6 hdok
      have hn := Lib.hid (sNear d hdok wr)
      have hnok := hdok.near
      obtain ⟨a, ea⟩ : ∃ a, d.near = a := ⟨_, rfl⟩
      rw [ea] at hn hnok
      obtain ⟨q0, q4⟩ := modI_lt a.k (n := 4) (by decide)
      have md := fun w => sMod a.k 4 (by decide) (by decide) w
      have hpo : Hid ((⟨a.p.f, a.p.l, (p : Int)⟩ : Pk).ok) := ⟨hnok.2.2.2.2.1, hnok.2.2.2.2.2.1, i64_nat (by omega)⟩
      have hSok := hS.out.1.one.of_.ok
      have hK := Lib.hid (hS.out.2.1.srv hSok)
      have hA := Lib.hid (hS.out.2.1.arr hSok ⟨a.p.f, a.p.l, (p : Int)⟩)
      have hIl : I.length ≤ p := hS.out.2.2
      have hQl : Q.length ≤ p := by have := hS.out.2.1.len; omega
      clear ed ea hdok hnok hSok
      go_wp2_with fail
      refine hn.out.mono ?_
      rintro e u1 ⟨rfl, o1⟩
      have hS0 := Lib.hid (hS.out.1.only0 o1)
      clear hn o1 r0 r1 r2 r3 r4 r5 r6 hS
      by_cases hq : 0 < modI a.k 4
      · clear hK
        go_wp2_with fail
        refine (md _).mono ?_
        rintro e u2 ⟨rfl, rfl⟩
        clear md
        have oA : Only [] u1 (u1.alloc (.cells #[.int .i64 a.k, .int .i64 a.f, .int .i64 a.m, .int .u64 a.r, .int .i64 a.p.f, .int .i64 a.p.l, .int .i64 (p : Int)] 36)) := (Only.refl [] u1).alloc _
        have h2 := hS0.out.only0 oA
        have bx := heap_alloc_new u1 (.cells #[.int .i64 a.k, .int .i64 a.f, .int .i64 a.m, .int .u64 a.r, .int .i64 a.p.f, .int .i64 a.p.l, .int .i64 (p : Int)] 36)
        have hnO : u1.heap.size ∉ O := fun hk => Nat.lt_irrefl _ (hS0.out.one.of_.lt _ hk)
        have har := Lib.hid (h2.arr ⟨a.p.f, a.p.l, (p : Int)⟩ hpo.out)
        have H2 := Lib.hid (And.intro h2 (And.intro bx hnO))
        clear h2 oA bx hnO hS0
        obtain ⟨x, ex⟩ : ∃ x : Pk, (⟨a.p.f, a.p.l, (p : Int)⟩ : Pk) = x := ⟨_, rfl⟩
        obtain ⟨E, eE⟩ : ∃ E, S.arrE ⟨a.p.f, a.p.l, (p : Int)⟩ = E := ⟨_, rfl⟩
        rw [eE] at har hA
        rw [ex] at hA
        have EX := Lib.hid ex
        clear eE ex
        go_wp2_with fail
        refine har.out.mono ?_
        rintro e u3 ⟨rfl, t3⟩
        have bx3 := (H2.out.1.one.apart t3 (by have := (Array.getElem?_eq_some_iff.1 H2.out.2.1).1; exact this) H2.out.2.2).trans H2.out.2.1
        obtain ⟨O2, h3⟩ := H2.out.1.turn t3
        have x4 : u3.cell? ⟨u1.heap.size, 4, none⟩ = some (.int .i64 a.p.f) := by rw [cell_of_row u3 _ 4 _ _ _ bx3]; rfl
        have x5 : u3.cell? ⟨u1.heap.size, 5, none⟩ = some (.int .i64 a.p.l) := by rw [cell_of_row u3 _ 5 _ _ _ bx3]; rfl
        have x6 : u3.cell? ⟨u1.heap.size, 6, none⟩ = some (.int .i64 (p : Int)) := by rw [cell_of_row u3 _ 6 _ _ _ bx3]; rfl
        have T := Lib.hid h3
        rw [EX.out] at T
        clear h3 har bx3 t3 H2
        generalize S.arr x = S2 at *
        rcases hA.out with ⟨e0, kq⟩ | ⟨e0, kq⟩
        · have KQ := Lib.hid kq
          clear kq hA
          subst e0
          go_wp2_with (at_builtin
                       refine wpList_append_pk Try.underlying48 rfl (.tmp 57) (.tmp 60) rfl (.slice A1 I.length c1) I rfl (T.out.ri.only ((Only.refl [] u3).alloc _) (by simp)) _ 1 1 [⟨a.p.f, a.p.l, (p : Int)⟩] rfl rfl (PSrc.box (PBox.new u3 ⟨a.p.f, a.p.l, (p : Int)⟩)) (I.length + 1) rfl (by omega) ?_
                       intro A3 c3 w3 r3 g3 l3
                       have T3 := Lib.hid (And.intro (T.out.grow ((Only.refl [] u3).alloc _) g3 r3 l3) True.intro)
                       clear r3 g3 l3)
          have e9 : (I ++ [x]).length = I.length + 1 := by simp
          rw [EX.out] at T3
          go_roundg (len0 + 1 - (p + 1))
          case measure => omega
          case rel => exact ⟨p + 1, _, O2, A3, c3, A2, c2, I ++ [x], Q, by simp, by rw [e9], rfl, by omega, by omega, by omega, by rw [e9]; exact T3.out.1, KQ.out, by rw [e9]; omega⟩
        · have KQ := Lib.hid kq
          have e1 : (E == 0) = false := by simp [e0]
          clear kq hA
          go_wp2_with fail
          go_roundg (len0 + 1 - (p + 1))
          case measure => omega
          case rel => exact ⟨p + 1, _, O2, A1, c1, A2, c2, I, Q, by simp, rfl, rfl, by omega, by omega, by omega, T.out, KQ.out, by omega⟩
      · clear hA hpo
        have hq' : decide (0 < modI a.k 4) = false := decide_eq_false hq
        go_wp2_with fail
        refine (md _).mono ?_
        rintro e u2 ⟨rfl, rfl⟩
        clear md
        have hS1 := Lib.hid (hS0.out.only0 (w' := u1.alloc (.cells #[.int .i64 a.k, .int .i64 a.f, .int .i64 a.m, .int .u64 a.r, .int .i64 a.p.f, .int .i64 a.p.l, .int .i64 (p : Int)] 36)) ((Only.refl [] u1).alloc _))
        clear hS0
        rcases hK.out with ⟨ea, kq⟩ | ⟨ea, kq⟩
        · have hsv := Lib.hid hS1.out.srv
          rw [ea] at hsv
          obtain ⟨y, ey⟩ : ∃ y, S.hd = y := ⟨_, rfl⟩
          rw [ey] at hsv kq
          have KQ := Lib.hid kq
          clear kq ea ey hK
          generalize S.srv = S2 at *
          go_wp2_with fail
          refine hsv.out.mono ?_
          rintro e t1 ⟨rfl, O2, h2⟩
          have T := Lib.hid (h2.only0 (w' := t1.alloc (.cells #[.int .i64 y.f, .int .i64 y.l, .int .i64 y.m] 34)) ((Only.refl [] t1).alloc _))
          obtain ⟨y0, y1, y2⟩ := (PBox.new t1 y).c
          clear h2 hsv hS1
          go_wp2_with (at_builtin
                       refine wpList_append_pk Try.underlying48 rfl (.tmp 68) (.tmp 70) rfl (.slice A2 Q.length c2) Q rfl (T.out.ro.only ((Only.refl [] _).alloc _) (by simp)) _ 1 1 [y] rfl rfl (PSrc.box (by first | exact PBox.new _ y | (have := PBox.new (t1.alloc (.cells #[.int .i64 y.f, .int .i64 y.l, .int .i64 y.m] 34)) y; simpa using this))) (Q.length + 1) rfl (by omega) ?_
                       intro A3 c3 w3 r3 g3 l3
                       have T3 := Lib.hid (And.intro (T.out.growOut ((Only.refl [] _).alloc _) g3 r3 l3) True.intro)
                       clear r3 g3 l3)
          have e9 : (Q ++ [y]).length = Q.length + 1 := by simp
          go_roundg (len0 + 1 - (p + 1))
          case measure => omega
          case rel => exact ⟨p + 1, _, O2, A1, c1, A3, c3, I, Q ++ [y], by simp, rfl, by rw [e9], by omega, by omega, by omega, by rw [e9]; exact T3.out.1, KQ.out.1, by omega⟩
        · have hsv := Lib.hid hS1.out.srv
          rw [ea] at hsv
          obtain ⟨y, ey⟩ : ∃ y, S.hd = y := ⟨_, rfl⟩
          rw [ey] at hsv
          have KQ := Lib.hid kq
          clear kq ea ey hK
          generalize S.srv = S2 at *
          go_wp2_with fail
          refine hsv.out.mono ?_
          rintro e t1 ⟨rfl, O2, h2⟩
          have T := Lib.hid (h2.only0 (w' := t1.alloc (.cells #[.int .i64 y.f, .int .i64 y.l, .int .i64 y.m] 34)) ((Only.refl [] t1).alloc _))
          clear h2 hsv hS1
          go_wp2_with fail
          go_roundg (len0 + 1 - (p + 1))
          case measure => omega
          case rel => exact ⟨p + 1, _, O2, A1, c1, A2, c2, I, Q, by simp, rfl, rfl, by omega, by omega, by omega, T.out, KQ.out.1, by omega⟩
    · have hcd : (decide ((p : Int) < (len0 : Int)) = false ∧ ¬ ((p : Int) < (len0 : Int))) ∨ ((p : Int) < (len0 : Int) ∧ decide ((p : Int) < 60) = false) := by
        have hce : ¬ p < len0 ∨ (p < len0 ∧ ¬ p < 60) := by omega
        rcases hce with h9 | h9
        · exact .inl ⟨decide_eq_false (by omega), by omega⟩
        · exact .inr ⟨by omega, decide_eq_false (by omega)⟩
      have hIl : I.length ≤ 60 := by have := hS.out.2.2; omega
      have HT : Hid (QOrd w wr w.heap.size S O (.slice A1 I.length c1) (.slice A2 Q.length c2) I Q ∧ Kp S I Q ∧ (allK S.l).length + 0 ≤ 60) := ⟨hS.out.1, hS.out.2.1, by have := hS.out.2.1.len; omega⟩
      clear hc W0 hS hp hp60 hg
      rcases hcd with ⟨h1, h2⟩ | ⟨h1, h2⟩
      all_goals
        go_wp2_with fail
        clear h1 h2
        go_loopg [11, 6] 61 (fun gk si s6 wr => ∃ (p : Nat) (S : Sq) (O : List Nat) (A2 : Option Addr) (c2 : Nat) (Q : List Pk), si = .int .i64 (p : Int) ∧ s6 = .slice A2 Q.length c2 ∧ p ≤ 60 ∧ 61 ≤ gk + p ∧ Hid (QOrd w wr w.heap.size S O (.slice A1 I.length c1) (.slice A2 Q.length c2) I Q ∧ Kp S I Q ∧ (allK S.l).length + p ≤ 60))
        case atStart => exact ⟨0, S, O, A2, c2, Q, rfl, rfl, by omega, by omega, HT⟩
        case round =>
          clear HT
          obtain ⟨p, S, O, A2, c2, Q, rfl, rfl, hp, hg, HT⟩ := hrel
          by_cases hc : p < 60
          · have k1 : (p : Int) < 60 := by omega
            have hSok := HT.out.1.one.of_.ok
            have hK := Lib.hid (HT.out.2.1.srv hSok)
            have hS1 := Lib.hid HT.out.1
            have hQl : Q.length ≤ 60 := by have := HT.out.2.1.len; omega
            have hal : Hid ((allK S.l).length + p ≤ 60) := HT.out.2.2
            clear HT hSok
            rcases hK.out with ⟨ea, kq⟩ | ⟨ea, kq⟩
            · have hsv := Lib.hid hS1.out.srv
              rw [ea] at hsv
              obtain ⟨y, ey⟩ : ∃ y, S.hd = y := ⟨_, rfl⟩
              rw [ey] at hsv kq
              have KQ := Lib.hid kq
              clear kq ea ey hK
              generalize S.srv = S2 at *
              go_wp2_with fail
              refine hsv.out.mono ?_
              rintro e t1 ⟨rfl, O2, h2⟩
              have T := Lib.hid (h2.only0 (w' := t1.alloc (.cells #[.int .i64 y.f, .int .i64 y.l, .int .i64 y.m] 34)) ((Only.refl [] t1).alloc _))
              obtain ⟨y0, y1, y2⟩ := (PBox.new t1 y).c
              clear h2 hsv hS1
              go_wp2_with (at_builtin
                           refine wpList_append_pk Try.underlying48 rfl (.tmp 82) (.tmp 84) rfl (.slice A2 Q.length c2) Q rfl (T.out.ro.only ((Only.refl [] _).alloc _) (by simp)) _ 1 1 [y] rfl rfl (PSrc.box (by first | exact PBox.new _ y | (have := PBox.new (t1.alloc (.cells #[.int .i64 y.f, .int .i64 y.l, .int .i64 y.m] 34)) y; simpa using this))) (Q.length + 1) rfl (by omega) ?_
                           intro A3 c3 w3 r3 g3 l3
                           have T3 := Lib.hid (And.intro (T.out.growOut ((Only.refl [] _).alloc _) g3 r3 l3) True.intro)
                           clear r3 g3 l3)
              have e9 : (Q ++ [y]).length = Q.length + 1 := by simp
              go_roundg (61 - (p + 1))
              case measure => omega
              case rel => exact ⟨p + 1, _, O2, A3, c3, Q ++ [y], by simp, by rw [e9], by omega, by omega, by rw [e9]; exact T3.out.1, KQ.out.1, by have := KQ.out.2; have := hal.out; omega⟩
            · have hsv := Lib.hid hS1.out.srv
              rw [ea] at hsv
              obtain ⟨y, ey⟩ : ∃ y, S.hd = y := ⟨_, rfl⟩
              rw [ey] at hsv
              have KQ := Lib.hid kq
              clear kq ea ey hK
              generalize S.srv = S2 at *
              go_wp2_with fail
              refine hsv.out.mono ?_
              rintro e t1 ⟨rfl, O2, h2⟩
              have T := Lib.hid (h2.only0 (w' := t1.alloc (.cells #[.int .i64 y.f, .int .i64 y.l, .int .i64 y.m] 34)) ((Only.refl [] t1).alloc _))
              clear h2 hsv hS1
              go_wp2_with fail
              go_roundg (61 - (p + 1))
              case measure => omega
              case rel => exact ⟨p + 1, _, O2, A2, c2, Q, by simp, rfl, by omega, by omega, T.out, KQ.out.1, by rw [KQ.out.2.1]; simp; omega⟩
          · have k1 : decide ((p : Int) < 60) = false := decide_eq_false (by omega)
            have hd := HT.out.2.1.done (by have := HT.out.2.2; omega)
            have hst := hd.1
            have HF := Lib.hid hd.2.2
            obtain ⟨n, en⟩ : ∃ n, I.length = n := ⟨_, rfl⟩
            have eq9 : Q.length = n := by rw [← hd.2.1]; exact en
            have HN : Hid (I.length = n ∧ Q.length = n) := ⟨en, eq9⟩
            have hn60 : n ≤ 60 := by rw [← en]; exact hIl
            have RI := HT.out.1.ri
            have RQ := HT.out.1.ro
            have ks := sStarts wr _ _ _ HT.out.1.one.of_
            have HW := Lib.hid HT.out.1.one.only
            rw [hst] at ks
            rw [en] at RI ⊢
            rw [eq9] at RQ ⊢
            have RR := Lib.hid (And.intro RI RQ)
            clear RI RQ hd hst HT en eq9 hIl hc hp hg
            simp only [List.length_nil] at ks
            go_wp2_with (first
              | (go_at_call 17; refine ks.mono ?_; rintro e u4 ⟨A4, cap4, rfl, r4, f4, o4⟩; have H4 := Lib.hid (And.intro (HW.out.trans' o4) (And.intro (RR.out.1.only o4 (by simp)) (RR.out.2.only o4 (by simp)))); clear r4 f4 o4))
            have R1 := Lib.hid (PRow.reads H4.out.2.1 HN.out.1)
            have R2 := Lib.hid (PRow.reads H4.out.2.2 HN.out.2)
            clear ks RR HW
            go_loopg [14] 5 (fun gk sf wr => ∃ f : Nat, sf = .int .i64 (f : Int) ∧ f ≤ 4 ∧ 5 ≤ gk + f ∧ Hid (Only [] u4 wr))
            case atStart => exact ⟨0, rfl, by omega, by omega, Only.refl _ _⟩
            case round =>
              obtain ⟨f, rfl, hf, hg, ho⟩ := hrel
              by_cases hf4 : f < 4
              · have hf4' : (f : Int) < 4 := by omega
                go_wp2_with fail
                go_loopg [17, 15, 16] (n + 1) (fun gk2 sj sa sb wq => ∃ (k : Nat) (A3 : Option Addr) (c3 : Nat) (A4 : Option Addr) (c4 : Nat), sj = .int .i64 (k : Int) ∧ sa = .slice A3 (fil (f : Int) (I.take k)).length c3 ∧ sb = .slice A4 (fil (f : Int) (Q.take k)).length c4 ∧ k ≤ n ∧ n + 1 ≤ gk2 + k ∧ Hid (QAB wr wq (.slice A3 (fil (f : Int) (I.take k)).length c3) (.slice A4 (fil (f : Int) (Q.take k)).length c4) (fil (f : Int) (I.take k)) (fil (f : Int) (Q.take k))))
                case atStart => exact ⟨0, none, 0, none, 0, rfl, rfl, rfl, by omega, by omega, QAB.start⟩
                case round =>
                  obtain ⟨k, A3, c3, A4, c4, rfl, rfl, rfl, hk, hgk, hQ⟩ := hrel
                  by_cases hkl : k < n
                  · have hkl' : (k : Int) < (n : Int) := by omega
                    have hkl2 : k < n := hkl
                    obtain ⟨g1, rfl, a0, a1, a2⟩ := R1.out wr (ho.out.trans' hQ.out.only) k hkl
                    obtain ⟨g2, rfl, b0, b1, b2⟩ := R2.out wr (ho.out.trans' hQ.out.only) k hkl
                    have SA := Lib.hid (fil_step (f : Int) (xs := I) (k := k) (by rw [HN.out.1]; exact hkl))
                    have SB := Lib.hid (fil_step (f : Int) (xs := Q) (k := k) (by rw [HN.out.2]; exact hkl))
                    have lA : (fil (f : Int) (I.take k)).length ≤ 60 := by have := fil_len (f : Int) (I.take k); rw [List.length_take] at this; omega
                    have lB : (fil (f : Int) (Q.take k)).length ≤ 60 := by have := fil_len (f : Int) (Q.take k); rw [List.length_take] at this; omega
                    obtain ⟨x, ex⟩ : ∃ x, pOf I k = x := ⟨_, rfl⟩
                    obtain ⟨y, ey⟩ : ∃ y, pOf Q k = y := ⟨_, rfl⟩
                    rw [ex] at a0 a1 a2 SA
                    rw [ey] at b0 b1 b2 SB
                    generalize fil (f : Int) (I.take k) = FA at *
                    generalize fil (f : Int) (Q.take k) = FB at *
                    by_cases hx : x.f = (f : Int)
                    · rw [if_pos hx] at SA
                      obtain ⟨xf, xl, xm⟩ := x
                      change xf = (f : Int) at hx
                      subst hx
                      dsimp only at a0 a1 a2
                      by_cases hy : y.f = (f : Int)
                      · rw [if_pos hy] at SB
                        have EY := Lib.hid ey
                        clear ey ex
                        obtain ⟨yf, yl, ym⟩ := y
                        change yf = (f : Int) at hy
                        subst hy
                        dsimp only at b0 b1 b2
                        go_wp2_with (first
                          | (at_builtin
                             refine wpList_append_pk Try.underlying48 rfl (.tmp 114) (.tmp 119) rfl (.slice A3 FA.length c3) FA rfl (hQ.out.ra.only ((Only.refl [] _).alloc _) (by simp)) _ 1 1 [⟨(f : Int), xl, xm⟩] rfl rfl (PSrc.box (PBox.new wr ⟨(f : Int), xl, xm⟩)) (FA.length + 1) rfl (by omega) ?_
                             intro A5 c5 w5 r5 g5 l5
                             have T5 := Lib.hid (And.intro (hQ.out.grow ((Only.refl [] _).alloc _) g5 r5 l5) True.intro)
                             obtain ⟨g2', eg2, b0, b1, b2⟩ := R2.out w5 (ho.out.trans' T5.out.1.only) k hkl
                             injection eg2 with eg2
                             injection eg2 with eg2
                             subst eg2
                             rw [EY.out] at b0 b1 b2
                             try dsimp only at b0 b1 b2
                             clear r5 g5 l5)
                          | (at_builtin
                             refine wpList_append_pk Try.underlying48 rfl (.tmp 128) (.tmp 133) rfl (.slice A4 FB.length c4) FB rfl (T5.out.1.rb.only ((Only.refl [] _).alloc _) (by simp)) _ 1 1 [⟨(f : Int), yl, ym⟩] rfl rfl (PSrc.box (PBox.new w5 ⟨(f : Int), yl, ym⟩)) (FB.length + 1) rfl (by omega) ?_
                             intro A6 c6 w6 r6 g6 l6
                             have T6 := Lib.hid (And.intro (T5.out.1.growOut ((Only.refl [] _).alloc _) g6 r6 l6) True.intro)
                             clear r6 g6 l6))
                        go_roundg (n + 1 - (k + 1))
                        case measure => omega
                        case rel =>
                          refine ⟨k + 1, A5, c5, A6, c6, by simp, ?_, ?_, by omega, by omega, ?_⟩
                          · rw [SA.out]
                            simp
                          · rw [SB.out]
                            simp
                          · rw [SA.out, SB.out]
                            show QAB _ _ _ _ _ _
                            have tq := T6.out.1
                            simpa using tq
                      · rw [if_neg hy] at SB
                        have hy2 : (y.f == (f : Int)) = false := by simp [hy]
                        have EY := Lib.hid ey
                        clear ey ex
                        go_wp2_with (first
                          | (at_builtin
                             refine wpList_append_pk Try.underlying48 rfl (.tmp 114) (.tmp 119) rfl (.slice A3 FA.length c3) FA rfl (hQ.out.ra.only ((Only.refl [] _).alloc _) (by simp)) _ 1 1 [⟨(f : Int), xl, xm⟩] rfl rfl (PSrc.box (PBox.new wr ⟨(f : Int), xl, xm⟩)) (FA.length + 1) rfl (by omega) ?_
                             intro A5 c5 w5 r5 g5 l5
                             have T5 := Lib.hid (And.intro (hQ.out.grow ((Only.refl [] _).alloc _) g5 r5 l5) True.intro)
                             obtain ⟨g2', eg2, b0, b1, b2⟩ := R2.out w5 (ho.out.trans' T5.out.1.only) k hkl
                             injection eg2 with eg2
                             injection eg2 with eg2
                             subst eg2
                             rw [EY.out] at b0 b1 b2
                             try dsimp only at b0 b1 b2
                             clear r5 g5 l5))
                        go_roundg (n + 1 - (k + 1))
                        case measure => omega
                        case rel =>
                          refine ⟨k + 1, A5, c5, A4, c4, by simp, ?_, ?_, by omega, by omega, ?_⟩
                          · rw [SA.out]
                            simp
                          · rw [SB.out]
                            simp
                          · rw [SA.out, SB.out]
                            show QAB _ _ _ _ _ _
                            have tq := T5.out.1
                            simpa using tq
                    · rw [if_neg hx] at SA
                      have hx2 : (x.f == (f : Int)) = false := by simp [hx]
                      by_cases hy : y.f = (f : Int)
                      · rw [if_pos hy] at SB
                        have EY := Lib.hid ey
                        clear ey ex
                        obtain ⟨yf, yl, ym⟩ := y
                        change yf = (f : Int) at hy
                        subst hy
                        dsimp only at b0 b1 b2
                        go_wp2_with (first
                          | (at_builtin
                             refine wpList_append_pk Try.underlying48 rfl (.tmp 128) (.tmp 133) rfl (.slice A4 FB.length c4) FB rfl (hQ.out.rb.only ((Only.refl [] _).alloc _) (by simp)) _ 1 1 [⟨(f : Int), yl, ym⟩] rfl rfl (PSrc.box (PBox.new wr ⟨(f : Int), yl, ym⟩)) (FB.length + 1) rfl (by omega) ?_
                             intro A6 c6 w6 r6 g6 l6
                             have T6 := Lib.hid (And.intro (hQ.out.growOut ((Only.refl [] _).alloc _) g6 r6 l6) True.intro)
                             clear r6 g6 l6))
                        go_roundg (n + 1 - (k + 1))
                        case measure => omega
                        case rel =>
                          refine ⟨k + 1, A3, c3, A6, c6, by simp, ?_, ?_, by omega, by omega, ?_⟩
                          · rw [SA.out]
                            simp
                          · rw [SB.out]
                            simp
                          · rw [SA.out, SB.out]
                            show QAB _ _ _ _ _ _
                            have tq := T6.out.1
                            simpa using tq
                      · rw [if_neg hy] at SB
                        have hy2 : (y.f == (f : Int)) = false := by simp [hy]
                        have EY := Lib.hid ey
                        clear ey ex
                        go_wp2_with fail
                        go_roundg (n + 1 - (k + 1))
                        case measure => omega
                        case rel =>
                          refine ⟨k + 1, A3, c3, A4, c4, by simp, ?_, ?_, by omega, by omega, ?_⟩
                          · rw [SA.out]
                            simp
                          · rw [SB.out]
                            simp
                          · rw [SA.out, SB.out]
                            show QAB _ _ _ _ _ _
                            have tq := hQ.out
                            simpa using tq
                  · have hkl' : ¬ ((k : Int) < (n : Int)) := by omega
                    have ekn : k = n := by omega
                    have eI : I.take k = I := by rw [ekn]; exact List.take_of_length_le (by rw [HN.out.1]; exact Nat.le_refl _)
                    have eQ : Q.take k = Q := by rw [ekn]; exact List.take_of_length_le (by rw [HN.out.2]; exact Nat.le_refl _)
                    rw [eI, eQ] at hQ ⊢
                    have hpl := pPlain wr _ _ _ _ hQ.out.ra hQ.out.rb (by have := fil_len (f : Int) I; have := HN.out.1; omega) (by have := fil_len (f : Int) Q; have := HN.out.2; omega)
                    rw [decide_eq_true (HF.out (f : Int))] at hpl
                    have HPL := Lib.hid hpl
                    have hQo := Lib.hid hQ.out.only
                    clear eI eQ ekn hpl hkl hk hgk hQ
                    generalize (fil (f : Int) I).length = m1 at *
                    generalize (fil (f : Int) Q).length = m2 at *
                    go_wp2_with fail
                    refine HPL.out.mono ?_
                    rintro e z1 ⟨rfl, oz⟩
                    have HO := Lib.hid (ho.out.trans' (hQo.out.trans' oz))
                    clear oz HPL
                    go_wp2_with fail
                    go_roundg (5 - (f + 1))
                    case measure => omega
                    case rel => exact ⟨f + 1, by simp, by omega, by omega, HO⟩
              · have hf4' : decide ((f : Int) < 4) = false := decide_eq_false (by omega)
                go_wp2_with fail
                go_ret
                exact ⟨rfl, (H4.out.1.trans' ho.out).below (Nat.le_refl _) (by simp)⟩

/-! ### The step from the walk to the statement -/
set_option maxRecDepth 100000 in
theorem lifted (os : Os) (started : os.Started) (H : Type) (enc : TypeId × Value → H) :
    ReturnsInHanded {} Try.checked os 6 .any (Rows.sfqKeptSpec.pre6 enc Try.prog Try.f6 Rows.sfqKeptRow.domain false) (Rows.sfqKeptSpec.post enc Try.prog Try.f6 false true false false) := by
  refine returnsInHanded_of_change (C := Try.checked) own started (by kernel_rfl) Try.func6
    (ChangeSpec.witness6 (enc := enc) (C := Try.checked) false ⟨#[], #[.slice none 0 0], []⟩ 8 (by kernel_rfl) (by kernel_rfl) (by kernel_rfl) (by kernel_rfl)) ?_
  intro W base args ds gs before hval0 hW hcnd _
  have hval : ∀ (j : Nat) t v, Try.f6.params[j]? = some t → args[j]? = some v → Value.okWide Try.prog W .any base t v := hval0
  have hW' := hW
  obtain ⟨p, q, hA0, hV, rfl, hfz, hnd⟩ := hW
  have hA : DataW.TrodAll enc Try.prog W 0 (fun _ => true) true Try.f6.params.toList args.toList ds p := hA0
  rw [Try.params6] at hA hval
  obtain ⟨v0, vs0, d0, ds0, p0, q0, hargs, rfl, rfl, h0, r0⟩ := trodAll_cons hA
  obtain ⟨rfl, rfl, rfl⟩ := trodAll_nil r0
  obtain rfl : args = #[v0] := by cases args; simp_all
  obtain ⟨rfl, rfl⟩ := trodVars_none hV
  obtain ⟨a0, len0, cap0, rfl⟩ := okWide_slice Try.underlying22 (hval 0 22 v0 rfl rfl)
  have k0 := h0
  have lt0 : ∀ x ∈ p0, x.block < W.heap.size := by obtain ⟨m, hm⟩ := k0; exact DataW.trod_lt m _ _ _ hm
  obtain ⟨z0, w0⟩ : ∃ z, InAxs W a0 len0 z := by
    obtain ⟨fuel, hf⟩ := h0
    exact open_axs hf
  clear hA0 hval0
  refine (walk a0 len0 cap0 z0 W w0).mono fun e W' ⟨he, bel⟩ => ?_
  subst he
  exact ⟨_, rfl, _, _, _, [], _, [], hW', trodAll_mk1 (shut_bool Try.underlying4 _), (trodAll_cons_mk (Below.trod laidOut (by kernel_rfl) (of_decide_eq_true (by kernel_rfl)) k0 bel lt0) trodAll_mk0), rfl, bel.frame _, fun h => by cases h⟩

theorem over : Rows.sfqKeptRow.holds Try.pinned (OpenSpec.ofChange Rows.sfqKeptSpec) :=
  OpenClaim.holds_of_wide 6 Try.f6 rfl rfl rfl rfl rfl rfl rfl ⟨rfl, rfl, rfl, rfl, rfl⟩ rfl rfl rfl rfl rfl (by kernel_rfl) Try.func6 (by kernel_rfl)
    (of_decide_eq_true (by kernel_rfl)) (by unfold Func.isWrapper; first | (rw [if_pos (by decide +kernel)]; kernel_rfl) | (rw [if_neg (by decide +kernel)]; exact ⟨rfl, rfl⟩))
    (fun os started H enc _ => lifted os started H enc)

/-- The statement. -/
theorem proved : Rows.SfqKeptSaid := over
#print axioms proved
end Go.Proofs.Ytjmnklmomdfpfaa.sfqKept
