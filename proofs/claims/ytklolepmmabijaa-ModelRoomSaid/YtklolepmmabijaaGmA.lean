/-
  The document's scheduler: At, Remove, Arrive.
  The document's scheduler: Remove, Add.
-/
import Derived.Test.YtklolepmmabijaaSfqN
import Derived.Deep.LoopGhost
namespace Go.Proofs.Ytklolepmmabijaa
set_option maxRecDepth 100000
open Go.RowKit
set_option linter.unusedVariables false
set_option linter.unusedSimpArgs false
set_option maxRecDepth 100000

/-- Where a flow of the document's lies, wherever the row is still as it was. -/
theorem prow_at {w : World} {A : Option Addr} {m cap : Nat} {es : List En} (h : pE.Row w (.slice A m cap) (es.map En.b)) : ∀ W, Only [] w W → ∀ k e, es[k]? = some e → ∃ g, A = some ⟨g, 0, none⟩ ∧ g < w.heap.size ∧ W.cell? ⟨g, k, none⟩ = some (.pointer (some ⟨e.b, 0, none⟩)) := by
  intro W hW k e he
  obtain ⟨g, e1, _, hc⟩ := (h.only0 hW).cell (k := k) (x := e.b) (by rw [List.getElem?_map, he]; rfl)
  subst e1
  have h0 := (hc 0 _ rfl).1
  simp only [Nat.mul_one, Nat.add_zero] at h0
  exact ⟨g, rfl, h.lt rfl, h0⟩
theorem ref_c {w : World} {b : Nat} {id : Int} {F : Fl} {O : List Nat} (h : RefOf w b id F O) : w.cell? ⟨b, 0, none⟩ = some (.int .i64 id) ∧ (∃ A cap, w.cell? ⟨b, 3, none⟩ = some (.slice A F.l.length cap)) ∧ ∃ s, w.cell? ⟨b, 4, none⟩ = some (.int .u64 s) ∧ (F.any = true → s = F.s) := by
  obtain ⟨hk, s, v, h1, h2, h3, h4, rfl⟩ := h
  obtain ⟨c0, c1, c2, c3, c4, c5⟩ := h1.c
  obtain ⟨A, cap, rfl⟩ := h4.form
  refine ⟨c0, ⟨A, cap, c3⟩, s, c4, fun ha => h2 fun e => ?_⟩
  unfold Fl.any at ha
  rw [e] at ha
  cases ha
/-- What At tells. -/
def atK (K : List (Int × Fl)) (id : Int) : Int := if hasK K id then (posK K id : Int) else -1
set_option maxHeartbeats 2000000 in
theorem zAt (w : World) (b : Nat) (S : Sq) (u : Value) (es : List En) (h : RqIs w b S u es) (id : Int) :
    Calls Try.prog 52 #[.pointer (some ⟨b, 0, none⟩), .int .i64 id] w fun e w' => e = .returned (.int .i64 (atK S.l id)) ∧ w' = w := by
  obtain ⟨c0, c1, c2⟩ := h.blk.c
  obtain ⟨A, cap, ev⟩ := h.row.form
  rw [List.length_map] at ev
  subst ev
  have hl1 : es.length ≤ 1000 := by have := h.ok.len; have := key_len h.key; omega
  have hget : Hid (∀ k : Nat, k < es.length → ∃ e : En, es[k]? = some e) := fun k hk => ⟨_, List.getElem?_eq_getElem hk⟩
  have H := Lib.hid h
  clear h
  generalize hn : es.length = n at *
  have HN := Lib.hid hn
  clear hn
  go_enter Try.func52, Try.ntmps52
  go_wp2_with fail
  go_loopg [5] (n + 1) (fun gk si wr => ∃ p : Nat, si = .int .i64 (p : Int) ∧ wr = w ∧ p ≤ n ∧ n + 1 ≤ gk + p ∧ Hid (∀ (j : Nat) (e : En), j < p → es[j]? = some e → e.id ≠ id))
  case atStart => exact ⟨0, rfl, rfl, by omega, by omega, fun j e hj => absurd hj (by omega)⟩
  case round =>
    obtain ⟨p, rfl, rfl, hp, hg, hL⟩ := hrel
    by_cases hpl : p < n
    · have hpl' : (p : Int) < (n : Int) := by omega
      obtain ⟨e, he⟩ := hget.out p hpl
      obtain ⟨g, rfl, hgl, d0⟩ := prow_at H.out.row wr (Only.refl _ _) p e he
      obtain ⟨k0, _, _⟩ := ref_c (H.out.fam.each e (List.mem_of_getElem? he))
      by_cases hid : e.id = id
      · have hid' : (e.id == id) = true := by simpa using hid
        have ha : Hid (atK S.l id = (p : Int)) := by
          show _ = _
          have hk := key_at H.out.key he
          rw [hid] at hk
          unfold atK
          rw [hasK_is hk, posK_is H.out.ok.srt hk]
          rfl
        clear he
        go_wp2_with fail
        go_ret
        exact ⟨by rw [ha.out]; rfl, rfl⟩
      · have hid' : (e.id == id) = false := by simpa using hid
        have HE := Lib.hid he
        clear he
        go_wp2_with fail
        go_roundg (n + 1 - (p + 1))
        case measure => omega
        case rel => exact ⟨p + 1, by simp, rfl, by omega, by omega, fun j d hj hd => by
          rcases Nat.lt_or_ge j p with h1 | h1
          · exact hL.out j d h1 hd
          · obtain rfl : j = p := by omega
            rw [HE.out] at hd
            injection hd with hd
            rw [← hd]; exact hid⟩
    · have hpl' : ¬ ((p : Int) < (n : Int)) := by omega
      have ha : Hid (atK S.l id = -1) := by
        show _ = _
        unfold atK
        rcases hh : hasK S.l id with _ | _
        · rfl
        · obtain ⟨i, F, hi⟩ := hasK_some hh
          obtain ⟨e, he, e1, _⟩ := at_key H.out.key hi
          have hil := (List.getElem?_eq_some_iff.1 he).1
          have := HN.out
          exact absurd e1 (hL.out i e (by omega) he)
      go_wp2_with fail
      go_ret
      exact ⟨by rw [ha.out]; rfl, rfl⟩
theorem hasR_at {S : Sq} {es : List En} (hs : Srt S.l) (hk : es.map En.key = S.l) {id : Int} (h : hasK S.l id = true) : ∃ e, es[posK S.l id]? = some e ∧ e.id = id ∧ S.l[posK S.l id]? = some (id, e.F) ∧ getK S.l id = e.F ∧ posK S.l id < es.length := by
  obtain ⟨i, F, hi⟩ := hasK_some h
  have e1 := posK_is hs hi
  obtain ⟨e, he, e2, e3⟩ := at_key hk hi
  subst e1
  simp only at e2 e3
  refine ⟨e, he, e2, by rw [hi, ← e3], by rw [getK_is hs hi, e3], (List.getElem?_eq_some_iff.1 he).1⟩
theorem atK_has {K : List (Int × Fl)} {id : Int} (h : hasK K id = true) : atK K id = (posK K id : Int) := by unfold atK; rw [if_pos h]
theorem atK_not {K : List (Int × Fl)} {id : Int} (h : hasK K id = false) : atK K id = -1 := by unfold atK; rw [if_neg (by simp [h])]
section
variable (w : World) (b : Nat) (S : Sq) (O : List Nat) (h : RqOf w b S O)
include h
set_option maxHeartbeats 2000000 in
theorem zArrive (x : Pk) (hx : x.ok) :
    Calls Try.prog 39 #[.pointer (some ⟨b, 0, none⟩), .agg #[.int .i64 x.f, .int .i64 x.l, .int .i64 x.m]] w fun e w' => e = .returned (.int .i64 (S.arrE x)) ∧ QTo w b O (S.arr x) w' := by
  have hok := (RqOf.ok h).arr hx
  have o0 : Only [] w (w.alloc (.cells #[.int .i64 x.f, .int .i64 x.l, .int .i64 x.m] 58)) := (Only.refl [] w).alloc _
  have bx := PBox.new w x
  have h0 := h
  obtain ⟨u, es, h, rfl⟩ := h
  have hf := zAt _ b S u es (h.only0 o0) x.f
  unfold Sq.arrE Sq.arr at *
  rcases hh : hasK S.l x.f with _ | _
  · rw [if_neg (by simp), updK_none hh]
    rw [atK_not hh] at hf
    clear h
    go_enter Try.func39, Try.ntmps39
    go_wp2_with fail
    refine hf.mono ?_
    rintro e w1 ⟨rfl, rfl⟩
    go_wp2_with fail
    go_ret
    exact ⟨rfl, QTo.still h0 o0⟩
  · obtain ⟨d, hd, hid, hS, hg, hlt⟩ := hasR_at h.ok.srt h.key hh
    rw [updK_is h.ok.srt hS] at hok ⊢
    rw [if_pos rfl, hg]
    rw [atK_has hh] at hf
    obtain ⟨A, cap, ev⟩ := h.row.form
    rw [List.length_map] at ev
    subst ev
    have H := Lib.hid (And.intro h o0)
    have hl1 : es.length ≤ 1000 := by have := h.ok.len; have := key_len h.key; omega
    have hpi : Hid (∀ W, Only [] w W → ∃ g, A = some ⟨g, 0, none⟩ ∧ g < w.heap.size ∧ W.cell? ⟨g, posK S.l x.f, none⟩ = some (.pointer (some ⟨d.b, 0, none⟩))) := fun W hW => prow_at H.out.1.row W hW _ _ hd
    have hfl : Hid (∀ W, Only [] w W → Calls Try.prog 55 #[.pointer (some ⟨d.b, 0, none⟩), .int .u64 S.v, .agg #[.int .i64 x.f, .int .i64 x.l, .int .i64 x.m]] W fun e w' => e = .returned (.bool d.F.takes) ∧ QTo w b (ownF (xOf b (.slice A es.length cap)) es) ⟨S.v, S.m, S.l.set (posK S.l x.f) (x.f, d.F.arr S.v x)⟩ w') := fun W hW =>
      (rlArrive W d.b d.id d.F d.O ((H.out.1.only0 hW).fam.each d (List.mem_of_getElem? hd)) S.v H.out.1.ok.v x hx).mono fun e w' q => ⟨q.1, by
        obtain ⟨es', q1, q2⟩ := H.out.1.turned hW hd q.2 (by rw [hid]; exact hok)
        rw [hid] at q1
        exact ⟨_, ⟨_, es', q1, rfl⟩, q2⟩⟩
    have hlt' : (posK S.l x.f : Int) < (es.length : Int) := by omega
    clear h o0
    rcases ht : d.F.takes with _ | _
    all_goals
      simp only [ht] at hfl
      go_enter Try.func39, Try.ntmps39
      go_wp2_with fail
      refine hf.mono ?_
      rintro e w1 ⟨rfl, ew⟩
      have o01 : Only [] w w1 := by rw [ew]; exact H.out.2
      have bx1 : PBox w1 w.heap.size x := by rw [ew]; exact bx
      obtain ⟨c0, c1, c2⟩ := (H.out.1.only0 o01).blk.c
      obtain ⟨x0, x1, x2⟩ := bx1.c
      obtain ⟨g, rfl, hg', d0⟩ := hpi.out w1 o01
      have HO := Lib.hid o01
      clear ew hf bx bx1
      generalize hp : posK S.l x.f = p at *
      go_wp2_with fail
      go_still_tail 12, (by kernel_rfl)
      change wpList _ _ _ _ _ w1.drew
      have hfl1 := hfl.out w1.drew HO.out.drew
      clear hfl
      go_wp2_with fail
      refine hfl1.mono ?_
      rintro e w2 ⟨rfl, o2⟩
      have R2 := Lib.hid o2
      clear o2 hfl1
      go_wp2_with fail
      go_ret
      exact ⟨rfl, R2.out⟩
end
end Go.Proofs.Ytklolepmmabijaa

namespace Go.Proofs.Ytklolepmmabijaa
set_option maxRecDepth 100000
open Go.RowKit
set_option linter.unusedVariables false
set_option linter.unusedSimpArgs false
set_option maxRecDepth 100000

theorem erase_eq {α : Type} (l : List α) (i : Nat) : l.take i ++ l.drop (i + 1) = l.eraseIdx i := (List.eraseIdx_eq_take_drop_succ l i).symm
section
variable (w : World) (b : Nat) (S : Sq) (O : List Nat) (h : RqOf w b S O)
include h
set_option maxHeartbeats 2000000 in
theorem zRemove (id : Int) :
    Calls Try.prog 38 #[.pointer (some ⟨b, 0, none⟩), .int .i64 id] w fun e w' => e = .returned (.int .i64 (S.remE id)) ∧ QTo w b O (S.rem id) w' := by
  have hok := (RqOf.ok h).rem id
  have h0 := h
  obtain ⟨u, es, h, rfl⟩ := h
  have hf := zAt w b S u es h id
  unfold Sq.remE Sq.rem at *
  rcases hh : hasK S.l id with _ | _
  · rw [if_neg (by simp), if_neg (by simp)]
    rw [atK_not hh] at hf
    clear h
    go_enter Try.func38, Try.ntmps38
    go_wp2_with fail
    refine hf.mono ?_
    rintro e w1 ⟨rfl, rfl⟩
    go_wp2_with fail
    go_ret
    exact ⟨rfl, QTo.still h0 (Only.refl _ _)⟩
  · obtain ⟨d, hd, hid, hS, hg, hlt⟩ := hasR_at h.ok.srt h.key hh
    rw [hh, hg] at hok
    rw [if_pos rfl, hg]
    rw [atK_has hh] at hf
    obtain ⟨A, cap, ev⟩ := h.row.form
    rw [List.length_map] at ev
    subst ev
    have H := Lib.hid h
    have hl1 : es.length ≤ 1000 := by have := h.ok.len; have := key_len h.key; omega
    obtain ⟨g, rfl, hgl, d0⟩ := prow_at h.row w (Only.refl _ _) _ d hd
    obtain ⟨k0, ⟨A3, cap3, k3⟩, _⟩ := ref_c (h.fam.each d (List.mem_of_getElem? hd))
    obtain ⟨c0, c1, c2⟩ := h.blk.c
    have cf0 := h.blk.fr 0
    have hcap : es.length ≤ cap := by
      obtain ⟨g', cap', cur, e, hn, _⟩ := h.row.at_ (by rw [List.length_map]; omega)
      rw [List.length_map] at e hn
      injection e with e1 e2 e3
      omega
    have hcm : cap ≤ 9223372036854775807 := by
      obtain ⟨g', cap', cur, e, hn, hm, _⟩ := h.row.at_ (by rw [List.length_map]; omega)
      injection e with e1 e2 e3
      unfold maxLen at hm
      omega
    clear h
    have hlt' : (posK S.l id : Int) < (es.length : Int) := by omega
    have hdel : delK S.l id = S.l.eraseIdx (posK S.l id) := rfl
    rcases ha : d.F.l with _ | ⟨x, t⟩
    · have ha' : d.F.any = false := by unfold Fl.any; rw [ha]; rfl
      rw [ha'] at hok ⊢
      rw [ha] at k3
      rw [if_pos (by rfl)] at hok
      rw [if_neg (by simp), if_pos (by rfl)]
      rw [hdel] at hok ⊢
      clear hdel
      generalize hp : posK S.l id = p at *
      have i1 : p + 1 ≤ es.length := by omega
      have i2 : (p : Int) + 1 ≤ (es.length : Int) := by omega
      have i3 : ¬ (cap = p) := by omega
      have htn : ((p : Int) + 1).toNat = p + 1 := by omega
      have hw1 : IntKind.i64.wrap ((p : Int) + 1) = (p : Int) + 1 := by rw [IntKind.wrap_i64]; omega
      have hb1 : (0 : Int) ≤ (p : Int) + 1 := by omega
      have hS1 : Hid (pE.Src w (some ⟨g, 0, none⟩) ((es.map En.b).take p)) := El.Src.take (El.Src.of_row H.out.row) p
      obtain ⟨ad, hA, hS2⟩ : ∃ ad : Addr, (if cap = p + 1 then (⟨g, 0, none⟩ : Addr) else ⟨g, p + 1, none⟩) = ad ∧ Hid (∀ W, Only [] w W → pE.Src W (some ad) ((es.map En.b).drop (p + 1))) := by
        refine ⟨_, rfl, fun W hW hne => ?_⟩
        have hl9 : p + 1 < es.length := by
          rcases Nat.lt_or_ge (p + 1) es.length with h9 | h9
          · exact h9
          · exact absurd (List.drop_eq_nil_of_le (by simpa using h9)) hne
        rw [if_neg (by omega)]
        have h9 := (El.Src.drop (E := pE) H.out.row (p + 1)).only0 hW hne
        rw [Nat.mul_one] at h9
        exact h9
      rcases Decidable.em (cap = p + 1) with hca | hca
      all_goals
        first | rw [if_pos hca] at hA | rw [if_neg hca] at hA
        subst hA
        go_enter Try.func38, Try.ntmps38
        go_wp2_with fail
        refine hf.mono ?_
        rintro e w1 ⟨rfl, rfl⟩
        have mk1 : True := trivial
        go_wp2_with (first
          | (at_builtin
             clear mk1
             refine El.wpList_append (E := pE) Try.underlying83 rfl (.const (.slice none 0 0)) (.tmp 31) rfl (.slice none 0 0) [] rfl (El.Row.nil _) _ p _ ((es.map En.b).take p) rfl (by simp; omega) hS1.out p (by simp) (by omega) ?_
             intro A2 cap2 w2 r2 g2 l2
             have o2 : Only [] w1 w2 := (Only.refl [] w1).grown g2 (by simp [Value.ownBlock])
             have f2 : ∀ k, (Value.slice A2 p cap2).ownBlock = some k → w1.heap.size ≤ k := fun k hk => by
               rcases l2 with l2 | l2
               · rw [l2] at hk; cases hk
               · rw [l2] at hk; injection hk with hk; omega
             obtain ⟨e0, e1, e2⟩ := (H.out.blk.only0 o2).c
             have R2 := Lib.hid (And.intro r2 (And.intro o2 f2))
             clear r2 g2 l2 o2 f2)
          | (at_builtin
             refine El.wpList_append (E := pE) Try.underlying83 rfl (.tmp 34) (.tmp 41) rfl _ _ rfl R2.out.1 _ (es.length - (p + 1)) _ ((es.map En.b).drop (p + 1)) rfl (by simp) (hS2.out w2 R2.out.2.1) (es.length - 1) (by simp; omega) (by omega) ?_
             intro A3 cap3 w3 r3 g3 l3
             have o3 : Only [] w1 w3 := R2.out.2.1.grown g3 (fun k hk => .inr (R2.out.2.2 k hk))
             have f3 : ∀ k, (Value.slice A3 (es.length - 1) cap3).ownBlock = some k → w1.heap.size ≤ k := fun k hk => by
               have hs2 := R2.out.2.1.size
               rcases l3 with l3 | l3
               · rw [l3] at hk; exact R2.out.2.2 k hk
               · rw [l3] at hk; injection hk with hk; omega
             obtain ⟨e0', e1', e2'⟩ := (H.out.blk.only0 o3).c
             have ef0 := (H.out.blk.only0 o3).fr 0
             simp only [List.nil_append, erase_eq] at r3
             have R3 := Lib.hid (H.out.removed o3 p r3 f3 hok)
             clear r3 g3 l3 o3 f3))
        go_ret
        exact ⟨rfl, R3.out⟩
    · have ha' : d.F.any = true := by unfold Fl.any; rw [ha]; rfl
      rw [ha'] at hok ⊢
      rw [ha] at k3
      rw [if_pos rfl, if_neg (by simp)]
      have hpos : (0 : Int) < ((x :: t).length : Int) := by simp
      generalize (x :: t).length = n at *
      clear hdel
      generalize hp : posK S.l id = p at *
      go_enter Try.func38, Try.ntmps38
      go_wp2_with fail
      refine hf.mono ?_
      rintro e w1 ⟨rfl, rfl⟩
      go_wp2_with fail
      go_ret
      exact ⟨rfl, QTo.still h0 (Only.refl _ _)⟩
end
end Go.Proofs.Ytklolepmmabijaa
