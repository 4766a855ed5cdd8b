/-
  The document's scheduler: At, Remove, Arrive.
-/
import Derived.Test.YtjmnklmomdfpfaaSfqN
import Derived.Deep.LoopGhost
namespace Go.Proofs.Ytjmnklmomdfpfaa
set_option maxRecDepth 100000
open Go.RowKit
set_option linter.unusedVariables false
set_option linter.unusedSimpArgs false
set_option maxRecDepth 100000

/-- Where a flow of the document's lies, wherever the row is still as it was. -/
theorem prow_at {w : World} {A : Option Addr} {m cap : Nat} {es : List En} (h : pE.Row w (.slice A m cap) (es.map En.b)) : ∀ W, Only [] w W → ∀ k e, es[k]? = some e → ∃ g, A = some ⟨g, 0, none⟩ ∧ g < w.heap.size ∧ W.cell? ⟨g, k, none⟩ = some (.pointer (some ⟨e.b, 0, none⟩)) := by
  intro W hW k e he
  obtain ⟨g, e1, _, hc⟩ := (h.only0 hW).cell (k := k) (x := e.b) (by rw [List.getElem?_map, he]; rfl)
  subst e1
  have h0 := (hc 0 _ rfl).1
  simp only [Nat.mul_one, Nat.add_zero] at h0
  exact ⟨g, rfl, h.lt rfl, h0⟩
theorem ref_c {w : World} {b : Nat} {id : Int} {F : Fl} {O : List Nat} (h : RefOf w b id F O) : w.cell? ⟨b, 0, none⟩ = some (.int .i64 id) ∧ (∃ A cap, w.cell? ⟨b, 3, none⟩ = some (.slice A F.l.length cap)) ∧ ∃ s, w.cell? ⟨b, 4, none⟩ = some (.int .u64 s) ∧ (F.any = true → s = F.s) := by
  obtain ⟨hk, s, v, h1, h2, h3, h4, rfl⟩ := h
  obtain ⟨c0, c1, c2, c3, c4, c5⟩ := h1.c
  obtain ⟨A, cap, rfl⟩ := h4.form
  refine ⟨c0, ⟨A, cap, c3⟩, s, c4, fun ha => h2 fun e => ?_⟩
  unfold Fl.any at ha
  rw [e] at ha
  cases ha
/-- What At tells. -/
def atK (K : List (Int × Fl)) (id : Int) : Int := if hasK K id then (posK K id : Int) else -1
set_option maxHeartbeats 2000000 in
theorem zAt (w : World) (b : Nat) (S : Sq) (u : Value) (es : List En) (h : RqIs w b S u es) (id : Int) :
    Calls Try.prog 56 #[.pointer (some ⟨b, 0, none⟩), .int .i64 id] w fun e w' => e = .returned (.int .i64 (atK S.l id)) ∧ w' = w := by
  obtain ⟨c0, c1, c2⟩ := h.blk.c
  obtain ⟨A, cap, ev⟩ := h.row.form
  rw [List.length_map] at ev
  subst ev
  have hl1 : es.length ≤ 1000 := by have := h.ok.len; have := key_len h.key; omega
  have hget : Hid (∀ k : Nat, k < es.length → ∃ e : En, es[k]? = some e) := fun k hk => ⟨_, List.getElem?_eq_getElem hk⟩
  have H := Lib.hid h
  clear h
  generalize hn : es.length = n at *
  have HN := Lib.hid hn
  clear hn
  go_enter Try.func56, Try.ntmps56
  go_wp2_with fail
  go_loopg [5] (n + 1) (fun gk si wr => ∃ p : Nat, si = .int .i64 (p : Int) ∧ wr = w ∧ p ≤ n ∧ n + 1 ≤ gk + p ∧ Hid (∀ (j : Nat) (e : En), j < p → es[j]? = some e → e.id ≠ id))
  case atStart => exact ⟨0, rfl, rfl, by omega, by omega, fun j e hj => absurd hj (by omega)⟩
  case round =>
    obtain ⟨p, rfl, rfl, hp, hg, hL⟩ := hrel
    by_cases hpl : p < n
    · have hpl' : (p : Int) < (n : Int) := by omega
      obtain ⟨e, he⟩ := hget.out p hpl
      obtain ⟨g, rfl, hgl, d0⟩ := prow_at H.out.row wr (Only.refl _ _) p e he
      obtain ⟨k0, _, _⟩ := ref_c (H.out.fam.each e (List.mem_of_getElem? he))
      by_cases hid : e.id = id
      · have hid' : (e.id == id) = true := by simpa using hid
        have ha : Hid (atK S.l id = (p : Int)) := by
          show _ = _
          have hk := key_at H.out.key he
          rw [hid] at hk
          unfold atK
          rw [hasK_is hk, posK_is H.out.ok.srt hk]
          rfl
        clear he
        go_wp2_with fail
        go_ret
        exact ⟨by rw [ha.out]; rfl, rfl⟩
      · have hid' : (e.id == id) = false := by simpa using hid
        have HE := Lib.hid he
        clear he
        go_wp2_with fail
        go_roundg (n + 1 - (p + 1))
        case measure => omega
        case rel => exact ⟨p + 1, by simp, rfl, by omega, by omega, fun j d hj hd => by
          rcases Nat.lt_or_ge j p with h1 | h1
          · exact hL.out j d h1 hd
          · obtain rfl : j = p := by omega
            rw [HE.out] at hd
            injection hd with hd
            rw [← hd]; exact hid⟩
    · have hpl' : ¬ ((p : Int) < (n : Int)) := by omega
      have ha : Hid (atK S.l id = -1) := by
        show _ = _
        unfold atK
        rcases hh : hasK S.l id with _ | _
        · rfl
        · obtain ⟨i, F, hi⟩ := hasK_some hh
          obtain ⟨e, he, e1, _⟩ := at_key H.out.key hi
          have hil := (List.getElem?_eq_some_iff.1 he).1
          have := HN.out
          exact absurd e1 (hL.out i e (by omega) he)
      go_wp2_with fail
      go_ret
      exact ⟨by rw [ha.out]; rfl, rfl⟩
theorem hasR_at {S : Sq} {es : List En} (hs : Srt S.l) (hk : es.map En.key = S.l) {id : Int} (h : hasK S.l id = true) : ∃ e, es[posK S.l id]? = some e ∧ e.id = id ∧ S.l[posK S.l id]? = some (id, e.F) ∧ getK S.l id = e.F ∧ posK S.l id < es.length := by
  obtain ⟨i, F, hi⟩ := hasK_some h
  have e1 := posK_is hs hi
  obtain ⟨e, he, e2, e3⟩ := at_key hk hi
  subst e1
  simp only at e2 e3
  refine ⟨e, he, e2, by rw [hi, ← e3], by rw [getK_is hs hi, e3], (List.getElem?_eq_some_iff.1 he).1⟩
theorem atK_has {K : List (Int × Fl)} {id : Int} (h : hasK K id = true) : atK K id = (posK K id : Int) := by unfold atK; rw [if_pos h]
theorem atK_not {K : List (Int × Fl)} {id : Int} (h : hasK K id = false) : atK K id = -1 := by unfold atK; rw [if_neg (by simp [h])]
section
variable (w : World) (b : Nat) (S : Sq) (O : List Nat) (h : RqOf w b S O)
include h
set_option maxHeartbeats 2000000 in
theorem zArrive (x : Pk) (hx : x.ok) :
    Calls Try.prog 34 #[.pointer (some ⟨b, 0, none⟩), .agg #[.int .i64 x.f, .int .i64 x.l, .int .i64 x.m]] w fun e w' => e = .returned (.int .i64 (S.arrE x)) ∧ QTo w b O (S.arr x) w' := by
  have hok := (RqOf.ok h).arr hx
  have o0 : Only [] w (w.alloc (.cells #[.int .i64 x.f, .int .i64 x.l, .int .i64 x.m] 34)) := (Only.refl [] w).alloc _
  have bx := PBox.new w x
  have h0 := h
  obtain ⟨u, es, h, rfl⟩ := h
  have hf := zAt _ b S u es (h.only0 o0) x.f
  unfold Sq.arrE Sq.arr at *
  rcases hh : hasK S.l x.f with _ | _
  · rw [if_neg (by simp), updK_none hh]
    rw [atK_not hh] at hf
    clear h
    go_enter Try.func34, Try.ntmps34
    go_wp2_with fail
    refine hf.mono ?_
    rintro e w1 ⟨rfl, rfl⟩
    go_wp2_with fail
    go_ret
    exact ⟨rfl, QTo.still h0 o0⟩
  · obtain ⟨d, hd, hid, hS, hg, hlt⟩ := hasR_at h.ok.srt h.key hh
    rw [updK_is h.ok.srt hS] at hok ⊢
    rw [if_pos rfl, hg]
    rw [atK_has hh] at hf
    obtain ⟨A, cap, ev⟩ := h.row.form
    rw [List.length_map] at ev
    subst ev
    have H := Lib.hid (And.intro h o0)
    have hl1 : es.length ≤ 1000 := by have := h.ok.len; have := key_len h.key; omega
    have hpi : Hid (∀ W, Only [] w W → ∃ g, A = some ⟨g, 0, none⟩ ∧ g < w.heap.size ∧ W.cell? ⟨g, posK S.l x.f, none⟩ = some (.pointer (some ⟨d.b, 0, none⟩))) := fun W hW => prow_at H.out.1.row W hW _ _ hd
    have hfl : Hid (∀ W, Only [] w W → Calls Try.prog 58 #[.pointer (some ⟨d.b, 0, none⟩), .int .u64 S.v, .agg #[.int .i64 x.f, .int .i64 x.l, .int .i64 x.m]] W fun e w' => e = .returned (.bool d.F.takes) ∧ QTo w b (ownF (xOf b (.slice A es.length cap)) es) ⟨S.v, S.m, S.l.set (posK S.l x.f) (x.f, d.F.arr S.v x)⟩ w') := fun W hW =>
      (rlArrive W d.b d.id d.F d.O ((H.out.1.only0 hW).fam.each d (List.mem_of_getElem? hd)) S.v H.out.1.ok.v x hx).mono fun e w' q => ⟨q.1, by
        obtain ⟨es', q1, q2⟩ := H.out.1.turned hW hd q.2 (by rw [hid]; exact hok)
        rw [hid] at q1
        exact ⟨_, ⟨_, es', q1, rfl⟩, q2⟩⟩
    have hlt' : (posK S.l x.f : Int) < (es.length : Int) := by omega
    clear h o0
    rcases ht : d.F.takes with _ | _
    all_goals
      simp only [ht] at hfl
      go_enter Try.func34, Try.ntmps34
      go_wp2_with fail
      refine hf.mono ?_
      rintro e w1 ⟨rfl, ew⟩
      have o01 : Only [] w w1 := by rw [ew]; exact H.out.2
      have bx1 : PBox w1 w.heap.size x := by rw [ew]; exact bx
      obtain ⟨c0, c1, c2⟩ := (H.out.1.only0 o01).blk.c
      obtain ⟨x0, x1, x2⟩ := bx1.c
      obtain ⟨g, rfl, hg', d0⟩ := hpi.out w1 o01
      have HO := Lib.hid o01
      clear ew hf bx bx1
      generalize hp : posK S.l x.f = p at *
      go_wp2_with fail
      go_still_tail 12, (by kernel_rfl)
      change wpList _ _ _ _ _ w1.drew
      have hfl1 := hfl.out w1.drew HO.out.drew
      clear hfl
      go_wp2_with fail
      refine hfl1.mono ?_
      rintro e w2 ⟨rfl, o2⟩
      have R2 := Lib.hid o2
      clear o2 hfl1
      go_wp2_with fail
      go_ret
      exact ⟨rfl, R2.out⟩
end
end Go.Proofs.Ytjmnklmomdfpfaa
