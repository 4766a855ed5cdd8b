/-
  The document's scheduler: Add.
-/
import Derived.Test.YtklolepmmabijaaGmA
namespace Go.Proofs.Ytklolepmmabijaa
set_option maxRecDepth 100000
open Go.RowKit
set_option linter.unusedVariables false
set_option linter.unusedSimpArgs false
set_option maxRecDepth 100000

theorem step_newflow {E : Prop} {w : World} {ops : Array Oper} {o : Oper} {a : Act} {K : Act → World → Prop} {Q : Exit → Act → World → Prop} (hgd : o.guard = none) (x y z : Operand) (tys : Array TypeId) (ho : o.op = .call { callee := .value (.func 78), args := #[x, y, z], argTypes := tys }) (id r most : Int) (hr : U64 r) (hx : a.eval x = .int .i64 id) (hy : a.eval y = .int .u64 r) (hz : a.eval z = .int .i64 most)
    (hK : ∀ w', RefOf w' w.heap.size id (Fl.new r (room most)) [w.heap.size] → Only [] w w' → K (a.put o.dst (.pointer (some ⟨w.heap.size, 0, none⟩))) w') : if Region.wanted o (yielded ops a.tmps) = true then Oper.wp Try.prog o a w K Q else E := by
  have hw : Region.wanted o (yielded ops a.tmps) = true := by simp [Region.wanted, hgd]
  rw [if_pos hw]
  unfold Oper.wp execOp
  simp only [ho, resolve, invoke, Sem.run_bind, Sem.run_pure, Result.andThen_ok, List.map_toArray, List.map_cons, List.map_nil, hx, hy, hz]
  go_simp
  refine (rlNew w id r most hr).mono ?_
  rintro e w' ⟨rfl, h1, h2⟩
  exact hK w' h1 h2
/-- Where a slice goes on from p. -/
def adOf (A : Option Addr) (cap p : Nat) : Option Addr := A.map fun a => if cap = p then a else ⟨a.block, p, none⟩
/-- A new flow, appended behind the first ones. -/
theorem add_mid {wr w2 w3 W3 w4 : World} {A2 : Option Addr} {p cap2 : Nat} {xs : List Nat} (r2 : pE.Row w2 (.slice A2 p cap2) xs) (o2 : Only [] wr w2) (f2 : ∀ k, (Value.slice A2 p cap2).ownBlock = some k → wr.heap.size ≤ k) (o3 : Only [] w2 w3) {id : Int} {F : Fl} (f3 : RefOf w3 w2.heap.size id F [w2.heap.size]) (o3' : Only [] w3 W3) {v4 : Value} (g4 : W3.grownBy w4 (Value.slice A2 p cap2).ownBlock) (l4 : v4.ownBlock = (Value.slice A2 p cap2).ownBlock ∨ v4.ownBlock = some W3.heap.size) :
    Only [] wr w4 ∧ RefOf w4 w2.heap.size id F [w2.heap.size] ∧ (∀ k, v4.ownBlock = some k → wr.heap.size ≤ k) ∧ v4.ownBlock ≠ some w2.heap.size := by
  have hA : ∀ k, (Value.slice A2 p cap2).ownBlock = some k → k < w2.heap.size := fun k hk => r2.lt hk
  have s2 := o2.size
  have s3 := o3'.size
  have s1 := o3.size
  have hlt := f3.lt w2.heap.size (by simp)
  refine ⟨((o2.trans' o3).trans' o3').grown g4 (fun k hk => .inr (f2 k hk)), ?_, fun k hk => ?_, fun hk => ?_⟩
  · refine (f3.only0 o3').only ((Only.refl (Value.slice A2 p cap2).ownBlock.toList W3).grown g4 (fun k hk => .inl (Option.mem_toList.2 hk))) (fun k hk hk2 => ?_)
    simp at hk
    subst hk
    have := hA _ (Option.mem_toList.1 hk2)
    omega
  · rcases l4 with l4 | l4
    · exact f2 k (l4 ▸ hk)
    · rw [l4] at hk; injection hk with hk; omega
  · rcases l4 with l4 | l4
    · have := hA _ (l4 ▸ hk); omega
    · rw [l4] at hk; injection hk with hk; omega
theorem add_end {wr w4 w5 : World} {v4 v5 : Value} {nb : Nat} {id : Int} {F : Fl} (o4 : Only [] wr w4) (f4 : RefOf w4 nb id F [nb]) (n4 : ∀ k, v4.ownBlock = some k → wr.heap.size ≤ k) (ne4 : v4.ownBlock ≠ some nb) (g5 : w4.grownBy w5 v4.ownBlock) (l5 : v5.ownBlock = v4.ownBlock ∨ v5.ownBlock = some w4.heap.size) :
    Only [] wr w5 ∧ RefOf w5 nb id F [nb] ∧ ∀ k, v5.ownBlock = some k → wr.heap.size ≤ k := by
  have s4 := o4.size
  refine ⟨o4.grown g5 (fun k hk => .inr (n4 k hk)), f4.only ((Only.refl v4.ownBlock.toList w4).grown g5 (fun k hk => .inl (Option.mem_toList.2 hk))) (fun k hk hk2 => ?_), fun k hk => ?_⟩
  · simp at hk
    subst hk
    exact ne4 (Option.mem_toList.1 hk2)
  · rcases l5 with l5 | l5
    · exact n4 k (l5 ▸ hk)
    · rw [l5] at hk; injection hk with hk; omega
section
variable (w : World) (b : Nat) (S : Sq) (O : List Nat) (h : RqOf w b S O)
include h
set_option maxHeartbeats 4000000 in
theorem zAdd (id r most : Int) (hid : i64ok id) (hr : U64 r) (hl : S.l.length < 1000) :
    Calls Try.prog 54 #[.pointer (some ⟨b, 0, none⟩), .int .i64 id, .int .u64 r, .int .i64 most] w fun e w' => e = .returned (.bool (!hasK S.l id)) ∧ QTo w b O (S.add id r (room most)) w' := by
  have hok := (RqOf.ok h).add hid hr most hl
  have h0 := h
  obtain ⟨u, es, h, rfl⟩ := h
  have hf := zAt w b S u es h id
  rcases hh : hasK S.l id with _ | _
  · have hS : S.add id r (room most) = ⟨S.v, S.m, insK S.l (id, Fl.new r (room most))⟩ := by unfold Sq.add; rw [if_neg (by simp [hh])]
    rw [hS] at hok ⊢
    rw [atK_not hh] at hf
    obtain ⟨A, cap, ev⟩ := h.row.form
    rw [List.length_map] at ev
    subst ev
    have H := Lib.hid h
    obtain ⟨c0, c1, c2⟩ := h.blk.c
    have cf0 := h.blk.fr 0
    have hb := h.blk.lt
    have hl1 : es.length ≤ 1000 := by have := h.ok.len; have := key_len h.key; omega
    have hget : Hid (∀ k : Nat, k < es.length → ∃ e : En, es[k]? = some e) := fun k hk => ⟨_, List.getElem?_eq_getElem hk⟩
    have hcap : es.length ≤ cap ∧ cap ≤ 9223372036854775807 ∧ (A = none ∨ ∃ g, A = some ⟨g, 0, none⟩) := by
      rcases h.row.2 with ⟨e, e2⟩ | ⟨g, cap', cur, e, _, _, hn, hm, _⟩
      · injection e with e1 e2' e3
        exact ⟨by omega, by omega, .inl e1⟩
      · injection e with e1 e2' e3
        rw [List.length_map] at hn
        unfold maxLen at hm
        exact ⟨by omega, by omega, .inr ⟨g, e1⟩⟩
    obtain ⟨hcap, hcm, hA⟩ := hcap
    have HR := Lib.hid hr
    clear h
    generalize hn : es.length = n at *
    have HN := Lib.hid hn
    clear hn
    go_enter Try.func54, Try.ntmps54
    go_wp2_with fail
    refine hf.mono ?_
    rintro e w1 ⟨rfl, rfl⟩
    clear hf
    go_wp2_with fail
    go_loopg [9] (n + 1) (fun gk si wr => ∃ p : Nat, si = .int .i64 (p : Int) ∧ wr = w1 ∧ p ≤ n ∧ n + 1 ≤ gk + p ∧ Hid (∀ (j : Nat) (e : En), j < p → es[j]? = some e → e.id < id))
    case atStart => exact ⟨0, rfl, rfl, by omega, by omega, fun j e hj => absurd hj (by omega)⟩
    case round =>
      obtain ⟨p, rfl, rfl, hp, hg, hL⟩ := hrel
      have fin : Hid ((∀ e, es[p]? = some e → ¬ e.id < id) → posK S.l id = p) := fun hx => by
        refine posK_of (by have := key_len H.out.key; have := HN.out; omega) (fun j x hj hx' => ?_) (fun x hx' => ?_)
        · obtain ⟨e, he, e1, _⟩ := at_key H.out.key hx'
          rw [← e1]; exact hL.out j e hj he
        · obtain ⟨e, he, e1, _⟩ := at_key H.out.key hx'
          rw [← e1]; exact hx e he
      by_cases hgo : p < n ∧ ∃ e, es[p]? = some e ∧ e.id < id
      · obtain ⟨hpl, e, he, hlt⟩ := hgo
        have hpl' : (p : Int) < (n : Int) := by omega
        have hpd : decide ((p : Int) < (n : Int)) = true := decide_eq_true hpl'
        have hpd2 : decide (p < n) = true := decide_eq_true hpl
        have hld : decide (e.id < id) = true := decide_eq_true hlt
        obtain ⟨g, rfl, hgl, d0⟩ := prow_at H.out.row wr (Only.refl _ _) p e he
        obtain ⟨k0, _, _⟩ := ref_c (H.out.fam.each e (List.mem_of_getElem? he))
        have HE := Lib.hid he
        clear he fin
        go_wp2_with fail
        go_roundg (n + 1 - (p + 1))
        case measure => omega
        case rel => exact ⟨p + 1, by simp, rfl, by omega, by omega, fun j d hj hd => by
          rcases Nat.lt_or_ge j p with h1 | h1
          · exact hL.out j d h1 hd
          · obtain rfl : j = p := by omega
            rw [HE.out] at hd
            injection hd with hd
            rw [← hd]; exact hlt⟩
      · have hpos : posK S.l id = p := fin.out (fun e he hlt => hgo ⟨by have := (List.getElem?_eq_some_iff.1 he).1; have := HN.out; omega, e, he, hlt⟩)
        have HP := Lib.hid hpos
        clear hpos fin
        have hS1 : Hid (pE.Src wr A ((es.map En.b).take p)) := El.Src.take (El.Src.of_row H.out.row) p
        obtain ⟨AD, hAD, hS2⟩ : ∃ AD : Option Addr, adOf A cap p = AD ∧ Hid (∀ W, Only [] wr W → pE.Src W AD ((es.map En.b).drop p)) := by
          by_cases hpl : p < n
          · obtain ⟨e, he⟩ := hget.out p hpl
            obtain ⟨g, rfl, hgl, d0⟩ := prow_at H.out.row wr (Only.refl _ _) p e he
            refine ⟨some ⟨g, p, none⟩, by unfold adOf; simp; omega, fun W hW => ?_⟩
            have h9 := (El.Src.drop (E := pE) H.out.row p).only0 hW
            rw [Nat.mul_one] at h9
            exact h9
          · have e0 : (es.map En.b).drop p = [] := List.drop_eq_nil_of_le (by rw [List.length_map, HN.out]; omega)
            rw [e0]
            rcases hA with rfl | ⟨g, rfl⟩
            · exact ⟨none, rfl, fun W _ => El.Src.nil W _⟩
            · exact ⟨_, rfl, fun W _ => El.Src.nil W _⟩
        have hlr : Hid ((es.map En.b).length = n) := by show _ = _; rw [List.length_map]; exact HN.out
        have cases4 : (∃ (e : En) (g : Nat), p < n ∧ A = some ⟨g, 0, none⟩ ∧ ¬ cap = p ∧ wr.cell? ⟨g, p, none⟩ = some (.pointer (some ⟨e.b, 0, none⟩)) ∧ wr.cell? ⟨e.b, 0, none⟩ = some (.int .i64 e.id) ∧ ¬ e.id < id) ∨ (p = n ∧ A = none) ∨ (∃ g, p = n ∧ A = some ⟨g, 0, none⟩ ∧ cap = p) ∨ (∃ g, p = n ∧ A = some ⟨g, 0, none⟩ ∧ ¬ cap = p) := by
          by_cases hpl : p < n
          · obtain ⟨e, he⟩ := hget.out p hpl
            obtain ⟨g, rfl, hgl, d0⟩ := prow_at H.out.row wr (Only.refl _ _) p e he
            obtain ⟨k0, _, _⟩ := ref_c (H.out.fam.each e (List.mem_of_getElem? he))
            exact .inl ⟨e, g, hpl, rfl, by omega, d0, k0, fun hlt => hgo ⟨hpl, e, he, hlt⟩⟩
          · rcases hA with rfl | ⟨g, rfl⟩
            · exact .inr (.inl ⟨by omega, rfl⟩)
            · rcases Decidable.em (cap = p) with hc | hc
              · exact .inr (.inr (.inl ⟨g, by omega, rfl, hc⟩))
              · exact .inr (.inr (.inr ⟨g, by omega, rfl, hc⟩))
        have i1 : (0 : Int) ≤ (p : Int) := by omega
        have i2 : (p : Int) ≤ (n : Int) := by omega
        have i4 : (p : Int) ≤ (cap : Int) := by omega
        clear hgo hA
        rcases cases4 with ⟨e, g, hpl, rfl, hca, d0, k0, hlt⟩ | ⟨hpn, rfl⟩ | ⟨g, hpn, rfl, hca⟩ | ⟨g, hpn, rfl, hca⟩
        · have hpl' : (p : Int) < (n : Int) := by omega
          have hpd : decide ((p : Int) < (n : Int)) = true := decide_eq_true hpl'
          have hpd2 : decide (p < n) = true := decide_eq_true hpl
          have hld : decide (e.id < id) = false := decide_eq_false hlt
          simp only [adOf, Option.map_some, if_neg hca] at hAD
          subst hAD
          go_wp2_with (first
            | (at_builtin
               refine El.wpList_append (E := pE) Try.underlying83 rfl (.const (.slice none 0 0)) (.tmp 43) rfl (.slice none 0 0) [] rfl (El.Row.nil _) _ p _ ((es.map En.b).take p) rfl (by rw [List.length_take, hlr.out]; omega) hS1.out p (by simp) (by omega) ?_
               intro A2 cap2 w2 r2 g2 l2
               have o2 : Only [] wr w2 := (Only.refl [] wr).grown g2 (by simp [Value.ownBlock])
               have f2 : ∀ k, (Value.slice A2 p cap2).ownBlock = some k → wr.heap.size ≤ k := fun k hk => by
                 rcases l2 with l2 | l2
                 · rw [l2] at hk; cases hk
                 · rw [l2] at hk; injection hk with hk; omega
               obtain ⟨e0, e1, e2⟩ := (H.out.blk.only0 o2).c
               have hb2 := (H.out.blk.only0 o2).lt
               have R2 := Lib.hid (And.intro r2 (And.intro o2 f2))
               clear r2 g2 l2 o2 f2))
          go_region_law (first
            | (refine step_newflow rfl (.tmp 47) (.tmp 48) (.tmp 49) _ rfl id r most HR.out (by simp [Act.eval, Act.put]) (by simp [Act.eval, Act.put]) (by simp [Act.eval, Act.put]) ?_
               intro w3 f3 o3
               have o3' : Only [] wr w3 := R2.out.2.1.trans' ((Only.refl [] w2).drew.trans' o3)
               obtain ⟨e0', e1', e2'⟩ := (H.out.blk.only0 o3').c
               have hb3 := (H.out.blk.only0 o3').lt
               have R3 := Lib.hid (And.intro f3 (And.intro o3' (And.intro (R2.out.1.only0 ((Only.refl [] w2).drew.trans' o3)) ((Only.refl [] w2).drew.trans' o3))))
               clear f3 o3 o3')
            | (refine El.step_append (E := pE) Try.underlying83 rfl (.tmp 46) (.tmp 51) rfl (.slice A2 p cap2) _ (by simp [Act.eval, Act.put]) (by exact R3.out.2.2.1.only0 ((Only.refl [] w3).alloc _)) (some ⟨w3.heap.size, 0, none⟩) 1 1 [w2.heap.size] (by simp [Act.eval, Act.put]) rfl (by exact El.Src.box (E := pE) (heap_alloc_new w3 _)) (p + 1) (by simp only [List.length_append, List.length_take, hlr.out, List.length_nil, List.length_cons]; omega) (by omega) ?_
               intro A4 cap4 w4 r4 g4 l4
               obtain ⟨q1, q2, q3, q4⟩ := add_mid R2.out.1 R2.out.2.1 R2.out.2.2 R3.out.2.2.2 R3.out.1 ((Only.refl [] w3).alloc _) g4 l4
               obtain ⟨e0'', e1'', e2''⟩ := (H.out.blk.only0 q1).c
               have hb4 := (H.out.blk.only0 q1).lt
               have R4 := Lib.hid (And.intro r4 (And.intro q1 (And.intro q2 (And.intro q3 q4))))
               clear r4 g4 l4 q1 q2 q3 q4)
            | (refine El.step_append (E := pE) Try.underlying83 rfl (.tmp 52) (.tmp 58) rfl (.slice A4 (p + 1) cap4) _ (by simp [Act.eval, Act.put]) R4.out.1 _ (n - p) _ ((es.map En.b).drop p) (by simp [Act.eval, Act.put]; rfl) (by rw [List.length_drop, hlr.out]) (hS2.out w4 R4.out.2.1) (n + 1) (by simp only [List.length_append, List.length_take, hlr.out, List.length_nil, List.length_cons]; omega) (by omega) ?_
               intro A5 cap5 w5 r5 g5 l5
               obtain ⟨q1, q2, q3⟩ := add_end R4.out.2.1 R4.out.2.2.1 R4.out.2.2.2.1 R4.out.2.2.2.2 g5 l5
               obtain ⟨x0, x1, x2⟩ := (H.out.blk.only0 q1).c
               have xf0 := (H.out.blk.only0 q1).fr 0
               simp only [List.nil_append, List.append_assoc, List.singleton_append] at r5
               rw [← HP.out] at r5
               have R5 := Lib.hid (H.out.added q1 q2 R2.out.2.1.size r5 q3 hok)
               clear r5 g5 l5 q1 q2 q3))
          all_goals
            go_wp2_with fail
            go_ret
            exact ⟨rfl, R5.out⟩
        · have hpl' : ¬ ((p : Int) < (n : Int)) := by omega
          have hpd : decide ((p : Int) < (n : Int)) = false := decide_eq_false hpl'
          have hpd2 : decide (p < n) = false := decide_eq_false (by omega)
          clear hpn
          simp only [adOf, Option.map_none] at hAD
          subst hAD
          go_wp2_with (first
            | (at_builtin
               refine El.wpList_append (E := pE) Try.underlying83 rfl (.const (.slice none 0 0)) (.tmp 43) rfl (.slice none 0 0) [] rfl (El.Row.nil _) _ p _ ((es.map En.b).take p) rfl (by rw [List.length_take, hlr.out]; omega) hS1.out p (by simp) (by omega) ?_
               intro A2 cap2 w2 r2 g2 l2
               have o2 : Only [] wr w2 := (Only.refl [] wr).grown g2 (by simp [Value.ownBlock])
               have f2 : ∀ k, (Value.slice A2 p cap2).ownBlock = some k → wr.heap.size ≤ k := fun k hk => by
                 rcases l2 with l2 | l2
                 · rw [l2] at hk; cases hk
                 · rw [l2] at hk; injection hk with hk; omega
               obtain ⟨e0, e1, e2⟩ := (H.out.blk.only0 o2).c
               have hb2 := (H.out.blk.only0 o2).lt
               have R2 := Lib.hid (And.intro r2 (And.intro o2 f2))
               clear r2 g2 l2 o2 f2))
          go_region_law (first
            | (refine step_newflow rfl (.tmp 47) (.tmp 48) (.tmp 49) _ rfl id r most HR.out (by simp [Act.eval, Act.put]) (by simp [Act.eval, Act.put]) (by simp [Act.eval, Act.put]) ?_
               intro w3 f3 o3
               have o3' : Only [] wr w3 := R2.out.2.1.trans' ((Only.refl [] w2).drew.trans' o3)
               obtain ⟨e0', e1', e2'⟩ := (H.out.blk.only0 o3').c
               have hb3 := (H.out.blk.only0 o3').lt
               have R3 := Lib.hid (And.intro f3 (And.intro o3' (And.intro (R2.out.1.only0 ((Only.refl [] w2).drew.trans' o3)) ((Only.refl [] w2).drew.trans' o3))))
               clear f3 o3 o3')
            | (refine El.step_append (E := pE) Try.underlying83 rfl (.tmp 46) (.tmp 51) rfl (.slice A2 p cap2) _ (by simp [Act.eval, Act.put]) (by exact R3.out.2.2.1.only0 ((Only.refl [] w3).alloc _)) (some ⟨w3.heap.size, 0, none⟩) 1 1 [w2.heap.size] (by simp [Act.eval, Act.put]) rfl (by exact El.Src.box (E := pE) (heap_alloc_new w3 _)) (p + 1) (by simp only [List.length_append, List.length_take, hlr.out, List.length_nil, List.length_cons]; omega) (by omega) ?_
               intro A4 cap4 w4 r4 g4 l4
               obtain ⟨q1, q2, q3, q4⟩ := add_mid R2.out.1 R2.out.2.1 R2.out.2.2 R3.out.2.2.2 R3.out.1 ((Only.refl [] w3).alloc _) g4 l4
               obtain ⟨e0'', e1'', e2''⟩ := (H.out.blk.only0 q1).c
               have hb4 := (H.out.blk.only0 q1).lt
               have R4 := Lib.hid (And.intro r4 (And.intro q1 (And.intro q2 (And.intro q3 q4))))
               clear r4 g4 l4 q1 q2 q3 q4)
            | (refine El.step_append (E := pE) Try.underlying83 rfl (.tmp 52) (.tmp 58) rfl (.slice A4 (p + 1) cap4) _ (by simp [Act.eval, Act.put]) R4.out.1 _ (n - p) _ ((es.map En.b).drop p) (by simp [Act.eval, Act.put]; rfl) (by rw [List.length_drop, hlr.out]) (hS2.out w4 R4.out.2.1) (n + 1) (by simp only [List.length_append, List.length_take, hlr.out, List.length_nil, List.length_cons]; omega) (by omega) ?_
               intro A5 cap5 w5 r5 g5 l5
               obtain ⟨q1, q2, q3⟩ := add_end R4.out.2.1 R4.out.2.2.1 R4.out.2.2.2.1 R4.out.2.2.2.2 g5 l5
               obtain ⟨x0, x1, x2⟩ := (H.out.blk.only0 q1).c
               have xf0 := (H.out.blk.only0 q1).fr 0
               simp only [List.nil_append, List.append_assoc, List.singleton_append] at r5
               rw [← HP.out] at r5
               have R5 := Lib.hid (H.out.added q1 q2 R2.out.2.1.size r5 q3 hok)
               clear r5 g5 l5 q1 q2 q3))
          all_goals
            go_wp2_with fail
            go_ret
            exact ⟨rfl, R5.out⟩
        · have hpl' : ¬ ((p : Int) < (n : Int)) := by omega
          have hpd : decide ((p : Int) < (n : Int)) = false := decide_eq_false hpl'
          have hpd2 : decide (p < n) = false := decide_eq_false (by omega)
          clear hpn
          simp only [adOf, Option.map_some, if_pos hca] at hAD
          subst hAD
          go_wp2_with (first
            | (at_builtin
               refine El.wpList_append (E := pE) Try.underlying83 rfl (.const (.slice none 0 0)) (.tmp 43) rfl (.slice none 0 0) [] rfl (El.Row.nil _) _ p _ ((es.map En.b).take p) rfl (by rw [List.length_take, hlr.out]; omega) hS1.out p (by simp) (by omega) ?_
               intro A2 cap2 w2 r2 g2 l2
               have o2 : Only [] wr w2 := (Only.refl [] wr).grown g2 (by simp [Value.ownBlock])
               have f2 : ∀ k, (Value.slice A2 p cap2).ownBlock = some k → wr.heap.size ≤ k := fun k hk => by
                 rcases l2 with l2 | l2
                 · rw [l2] at hk; cases hk
                 · rw [l2] at hk; injection hk with hk; omega
               obtain ⟨e0, e1, e2⟩ := (H.out.blk.only0 o2).c
               have hb2 := (H.out.blk.only0 o2).lt
               have R2 := Lib.hid (And.intro r2 (And.intro o2 f2))
               clear r2 g2 l2 o2 f2))
          go_region_law (first
            | (refine step_newflow rfl (.tmp 47) (.tmp 48) (.tmp 49) _ rfl id r most HR.out (by simp [Act.eval, Act.put]) (by simp [Act.eval, Act.put]) (by simp [Act.eval, Act.put]) ?_
               intro w3 f3 o3
               have o3' : Only [] wr w3 := R2.out.2.1.trans' ((Only.refl [] w2).drew.trans' o3)
               obtain ⟨e0', e1', e2'⟩ := (H.out.blk.only0 o3').c
               have hb3 := (H.out.blk.only0 o3').lt
               have R3 := Lib.hid (And.intro f3 (And.intro o3' (And.intro (R2.out.1.only0 ((Only.refl [] w2).drew.trans' o3)) ((Only.refl [] w2).drew.trans' o3))))
               clear f3 o3 o3')
            | (refine El.step_append (E := pE) Try.underlying83 rfl (.tmp 46) (.tmp 51) rfl (.slice A2 p cap2) _ (by simp [Act.eval, Act.put]) (by exact R3.out.2.2.1.only0 ((Only.refl [] w3).alloc _)) (some ⟨w3.heap.size, 0, none⟩) 1 1 [w2.heap.size] (by simp [Act.eval, Act.put]) rfl (by exact El.Src.box (E := pE) (heap_alloc_new w3 _)) (p + 1) (by simp only [List.length_append, List.length_take, hlr.out, List.length_nil, List.length_cons]; omega) (by omega) ?_
               intro A4 cap4 w4 r4 g4 l4
               obtain ⟨q1, q2, q3, q4⟩ := add_mid R2.out.1 R2.out.2.1 R2.out.2.2 R3.out.2.2.2 R3.out.1 ((Only.refl [] w3).alloc _) g4 l4
               obtain ⟨e0'', e1'', e2''⟩ := (H.out.blk.only0 q1).c
               have hb4 := (H.out.blk.only0 q1).lt
               have R4 := Lib.hid (And.intro r4 (And.intro q1 (And.intro q2 (And.intro q3 q4))))
               clear r4 g4 l4 q1 q2 q3 q4)
            | (refine El.step_append (E := pE) Try.underlying83 rfl (.tmp 52) (.tmp 58) rfl (.slice A4 (p + 1) cap4) _ (by simp [Act.eval, Act.put]) R4.out.1 _ (n - p) _ ((es.map En.b).drop p) (by simp [Act.eval, Act.put]; rfl) (by rw [List.length_drop, hlr.out]) (hS2.out w4 R4.out.2.1) (n + 1) (by simp only [List.length_append, List.length_take, hlr.out, List.length_nil, List.length_cons]; omega) (by omega) ?_
               intro A5 cap5 w5 r5 g5 l5
               obtain ⟨q1, q2, q3⟩ := add_end R4.out.2.1 R4.out.2.2.1 R4.out.2.2.2.1 R4.out.2.2.2.2 g5 l5
               obtain ⟨x0, x1, x2⟩ := (H.out.blk.only0 q1).c
               have xf0 := (H.out.blk.only0 q1).fr 0
               simp only [List.nil_append, List.append_assoc, List.singleton_append] at r5
               rw [← HP.out] at r5
               have R5 := Lib.hid (H.out.added q1 q2 R2.out.2.1.size r5 q3 hok)
               clear r5 g5 l5 q1 q2 q3))
          all_goals
            go_wp2_with fail
            go_ret
            exact ⟨rfl, R5.out⟩
        · have hpl' : ¬ ((p : Int) < (n : Int)) := by omega
          have hpd : decide ((p : Int) < (n : Int)) = false := decide_eq_false hpl'
          have hpd2 : decide (p < n) = false := decide_eq_false (by omega)
          clear hpn
          simp only [adOf, Option.map_some, if_neg hca] at hAD
          subst hAD
          go_wp2_with (first
            | (at_builtin
               refine El.wpList_append (E := pE) Try.underlying83 rfl (.const (.slice none 0 0)) (.tmp 43) rfl (.slice none 0 0) [] rfl (El.Row.nil _) _ p _ ((es.map En.b).take p) rfl (by rw [List.length_take, hlr.out]; omega) hS1.out p (by simp) (by omega) ?_
               intro A2 cap2 w2 r2 g2 l2
               have o2 : Only [] wr w2 := (Only.refl [] wr).grown g2 (by simp [Value.ownBlock])
               have f2 : ∀ k, (Value.slice A2 p cap2).ownBlock = some k → wr.heap.size ≤ k := fun k hk => by
                 rcases l2 with l2 | l2
                 · rw [l2] at hk; cases hk
                 · rw [l2] at hk; injection hk with hk; omega
               obtain ⟨e0, e1, e2⟩ := (H.out.blk.only0 o2).c
               have hb2 := (H.out.blk.only0 o2).lt
               have R2 := Lib.hid (And.intro r2 (And.intro o2 f2))
               clear r2 g2 l2 o2 f2))
          go_region_law (first
            | (refine step_newflow rfl (.tmp 47) (.tmp 48) (.tmp 49) _ rfl id r most HR.out (by simp [Act.eval, Act.put]) (by simp [Act.eval, Act.put]) (by simp [Act.eval, Act.put]) ?_
               intro w3 f3 o3
               have o3' : Only [] wr w3 := R2.out.2.1.trans' ((Only.refl [] w2).drew.trans' o3)
               obtain ⟨e0', e1', e2'⟩ := (H.out.blk.only0 o3').c
               have hb3 := (H.out.blk.only0 o3').lt
               have R3 := Lib.hid (And.intro f3 (And.intro o3' (And.intro (R2.out.1.only0 ((Only.refl [] w2).drew.trans' o3)) ((Only.refl [] w2).drew.trans' o3))))
               clear f3 o3 o3')
            | (refine El.step_append (E := pE) Try.underlying83 rfl (.tmp 46) (.tmp 51) rfl (.slice A2 p cap2) _ (by simp [Act.eval, Act.put]) (by exact R3.out.2.2.1.only0 ((Only.refl [] w3).alloc _)) (some ⟨w3.heap.size, 0, none⟩) 1 1 [w2.heap.size] (by simp [Act.eval, Act.put]) rfl (by exact El.Src.box (E := pE) (heap_alloc_new w3 _)) (p + 1) (by simp only [List.length_append, List.length_take, hlr.out, List.length_nil, List.length_cons]; omega) (by omega) ?_
               intro A4 cap4 w4 r4 g4 l4
               obtain ⟨q1, q2, q3, q4⟩ := add_mid R2.out.1 R2.out.2.1 R2.out.2.2 R3.out.2.2.2 R3.out.1 ((Only.refl [] w3).alloc _) g4 l4
               obtain ⟨e0'', e1'', e2''⟩ := (H.out.blk.only0 q1).c
               have hb4 := (H.out.blk.only0 q1).lt
               have R4 := Lib.hid (And.intro r4 (And.intro q1 (And.intro q2 (And.intro q3 q4))))
               clear r4 g4 l4 q1 q2 q3 q4)
            | (refine El.step_append (E := pE) Try.underlying83 rfl (.tmp 52) (.tmp 58) rfl (.slice A4 (p + 1) cap4) _ (by simp [Act.eval, Act.put]) R4.out.1 _ (n - p) _ ((es.map En.b).drop p) (by simp [Act.eval, Act.put]; rfl) (by rw [List.length_drop, hlr.out]) (hS2.out w4 R4.out.2.1) (n + 1) (by simp only [List.length_append, List.length_take, hlr.out, List.length_nil, List.length_cons]; omega) (by omega) ?_
               intro A5 cap5 w5 r5 g5 l5
               obtain ⟨q1, q2, q3⟩ := add_end R4.out.2.1 R4.out.2.2.1 R4.out.2.2.2.1 R4.out.2.2.2.2 g5 l5
               obtain ⟨x0, x1, x2⟩ := (H.out.blk.only0 q1).c
               have xf0 := (H.out.blk.only0 q1).fr 0
               simp only [List.nil_append, List.append_assoc, List.singleton_append] at r5
               rw [← HP.out] at r5
               have R5 := Lib.hid (H.out.added q1 q2 R2.out.2.1.size r5 q3 hok)
               clear r5 g5 l5 q1 q2 q3))
          all_goals
            go_wp2_with fail
            go_ret
            exact ⟨rfl, R5.out⟩
  · have hS : S.add id r (room most) = S := by unfold Sq.add; rw [if_pos hh]
    rw [hS]
    rw [atK_has hh] at hf
    clear h
    go_enter Try.func54, Try.ntmps54
    go_wp2_with fail
    refine hf.mono ?_
    rintro e w1 ⟨rfl, rfl⟩
    go_wp2_with fail
    go_ret
    exact ⟨rfl, QTo.still h0 (Only.refl _ _)⟩
end
end Go.Proofs.Ytklolepmmabijaa
