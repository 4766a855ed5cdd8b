/-
  Ours: New, V, Most, Add.
  Ours: Remove, Arrive.
-/
import Derived.Test.YtklolepmmabijaaGmJ
import Derived.Test.YtklolepmmabijaaSfqN
namespace Go.Proofs.Ytklolepmmabijaa
set_option maxRecDepth 100000
open Go.RowKit
set_option linter.unusedVariables false
set_option linter.unusedSimpArgs false
set_option maxRecDepth 100000

theorem sNew (w : World) : Calls Try.prog 18 #[] w fun e w' => e = .returned (.pointer (some ⟨w.heap.size, 0, none⟩)) ∧ SqOf w' w.heap.size Sq.new [w.heap.size] ∧ Only [] w w' := by
  go_enter Try.func18, Try.ntmps18
  go_wp2
  go_ret
  exact ⟨rfl, ⟨.slice none 0 0, [], ⟨Sq.ok.new, heap_alloc_new w _, El.Row.nil _, ⟨by simp, List.Pairwise.nil, by simp⟩, rfl⟩, rfl⟩, (Only.refl [] w).alloc _⟩
section
variable (w : World) (b : Nat) (S : Sq) (O : List Nat) (h : SqOf w b S O)
include h
theorem sV : Calls Try.prog 21 #[.pointer (some ⟨b, 0, none⟩)] w fun e w' => e = .returned (.int .u64 S.v) ∧ w' = w := by
  obtain ⟨u, es, h, rfl⟩ := h
  obtain ⟨c0, c1, c2⟩ := h.blk.c
  clear h
  go_enter Try.func21, Try.ntmps21
  go_wp2
  go_ret
  exact ⟨rfl, rfl⟩
set_option maxHeartbeats 2000000 in
theorem sAdd (id r most : Int) (hid : i64ok id) (hr : U64 r) (hl : S.l.length < 1000) :
    Calls Try.prog 44 #[.pointer (some ⟨b, 0, none⟩), .int .i64 id, .int .u64 r, .int .i64 most] w fun e w' => e = .returned (.bool (!hasK S.l id)) ∧ STo w b O (S.add id r (room most)) w' := by
  have hok := (SqOf.ok h).add hid hr most hl
  have h0 := h
  obtain ⟨u, es, h, rfl⟩ := h
  have hf := sFind w b S u es h id
  rcases hh : hasK S.l id with _ | _
  · have hS : S.add id r (room most) = ⟨S.v, S.m, insK S.l (id, Fl.new r (room most))⟩ := by unfold Sq.add; rw [if_neg (by simp [hh])]
    rw [hS] at hok ⊢
    rw [hh] at hf
    obtain ⟨A, cap, ev⟩ := h.row.form
    rw [List.length_map] at ev
    subst ev
    have H := Lib.hid h
    clear h h0
    go_enter Try.func44, Try.ntmps44
    go_wp2_with fail
    refine hf.mono ?_
    rintro e w1 ⟨rfl, o1⟩
    have H1 := Lib.hid (H.out.only0 o1)
    obtain ⟨c0, c1, c2⟩ := H1.out.blk.c
    have fr2 := H1.out.blk.fr 2
    have HO := Lib.hid o1
    clear o1 H hf
    go_wp2_with fail
    have hid2 : Hid (i64ok id ∧ U64 r ∧ posK S.l id ≤ es.length) := ⟨hid, hr, by have := posK_le S.l id; have := key_len H1.out.key; omega⟩
    go_region_with (first
      | (go_at_call 60
         refine (flNew _ r most hid2.out.2.1).mono ?_
         rintro e w2 ⟨rfl, f2, o2⟩
         have o12 : Only [] w1 w2 := (Only.refl [] w1).drew.trans' o2
         have H2 := Lib.hid (H1.out.only0 o12)
         have R2 := Lib.hid (And.intro f2 o12)
         obtain ⟨_, _, d2⟩ := H2.out.blk.c
         have fd2 := H2.out.blk.fr 2
         have hb2 := H2.out.blk.lt
         clear f2 o2 o12)
      | (go_at_call 59
         refine (minsert _ (.slice A es.length cap) (es.map En.mb) ?_ w2.heap.size (id, some w1.heap.size) ?_ ?_ (posK S.l id) ?_ ?_).mono ?_
         · exact H2.out.row.only0 ((Only.refl [] w2).alloc _)
         · exact heap_alloc_new w2 _
         · intro e; exact Nat.lt_irrefl _ (H2.out.row.lt e)
         · rw [List.length_map]; exact hid2.out.2.2
         · rw [List.length_map]; have := H1.out.ok.len; have := key_len H1.out.key; omega
         rintro e w4 ⟨v4, rfl, r4, p4, l4⟩
         obtain ⟨t1, t2⟩ := H1.out.added R2.out.2 R2.out.1 (Nat.le_refl _) ((Only.refl [] w2).alloc _) p4 r4 l4 hok
         obtain ⟨_, _, g2⟩ := t1.c
         have gf2 := t1.fr 2
         obtain ⟨A4, cap4, e4⟩ := r4.form
         generalize List.length (List.take (posK S.l id) (es.map En.mb) ++ (id, some w1.heap.size) :: List.drop (posK S.l id) (es.map En.mb)) = L4 at e4
         subst e4
         have R4 := Lib.hid t2
         clear t1 t2 r4 p4 l4))
    all_goals
      go_wp2_with fail
      go_ret
      exact ⟨rfl, STo.from HO.out R4.out⟩
  · have hS : S.add id r (room most) = S := by unfold Sq.add; rw [if_pos hh]
    rw [hS]
    rw [hh] at hf
    clear h
    go_enter Try.func44, Try.ntmps44
    go_wp2_with fail
    refine hf.mono ?_
    rintro e w1 ⟨rfl, o1⟩
    go_wp2_with fail
    go_ret
    exact ⟨rfl, STo.still h0 o1⟩
end
end Go.Proofs.Ytklolepmmabijaa

namespace Go.Proofs.Ytklolepmmabijaa
set_option maxRecDepth 100000
open Go.RowKit
set_option linter.unusedVariables false
set_option linter.unusedSimpArgs false
set_option maxRecDepth 100000

/-- Where a number is there: its entry. -/
theorem has_at {S : Sq} {es : List En} (hs : Srt S.l) (hk : es.map En.key = S.l) {id : Int} (h : hasK S.l id = true) : ∃ e, es[posK S.l id]? = some e ∧ e.id = id ∧ S.l[posK S.l id]? = some (id, e.F) ∧ getK S.l id = e.F ∧ posK S.l id < es.length := by
  obtain ⟨i, F, hi⟩ := hasK_some h
  have e1 := posK_is hs hi
  obtain ⟨e, he, e2, e3⟩ := at_key hk hi
  subst e1
  simp only at e2 e3
  refine ⟨e, he, e2, by rw [hi, ← e3], by rw [getK_is hs hi, e3], (List.getElem?_eq_some_iff.1 he).1⟩
section
variable (w : World) (b : Nat) (S : Sq) (O : List Nat) (h : SqOf w b S O)
include h
set_option maxHeartbeats 2000000 in
theorem sRemove (id : Int) :
    Calls Try.prog 45 #[.pointer (some ⟨b, 0, none⟩), .int .i64 id] w fun e w' => e = .returned (.int .i64 (S.remE id)) ∧ STo w b O (S.rem id) w' := by
  have hok := (SqOf.ok h).rem id
  have h0 := h
  obtain ⟨u, es, h, rfl⟩ := h
  have hf := sFind w b S u es h id
  unfold Sq.remE Sq.rem at *
  rcases hh : hasK S.l id with _ | _
  · rw [if_neg (by simp), if_neg (by simp)]
    rw [hh] at hf
    clear h
    go_enter Try.func45, Try.ntmps45
    go_wp2_with fail
    refine hf.mono ?_
    rintro e w1 ⟨rfl, o1⟩
    go_wp2_with fail
    go_ret
    exact ⟨rfl, STo.still h0 o1⟩
  · obtain ⟨d, hd, hid, hS, hg, hlt⟩ := has_at h.ok.srt h.key hh
    rw [hh, hg] at hok
    rw [if_pos rfl, hg]
    rw [hh] at hf
    obtain ⟨A, cap, ev⟩ := h.row.form
    rw [List.length_map] at ev
    subst ev
    have H := Lib.hid h
    have hl1 : es.length ≤ 1000 := by have := h.ok.len; have := key_len h.key; omega
    clear h
    have hpi : Hid (∀ W, Only [] w W → ∃ g, A = some ⟨g, 0, none⟩ ∧ W.cell? ⟨g, posK S.l id * 2, none⟩ = some (.int .i64 d.id) ∧ W.cell? ⟨g, posK S.l id * 2 + 1, none⟩ = some (.pointer (some ⟨d.b, 0, none⟩))) := fun W hW => mrow_at H.out.row W hW _ _ hd
    have hfl : Hid (∀ W, Only [] w W → Calls Try.prog 61 #[.pointer (some ⟨d.b, 0, none⟩)] W fun e w' => e = .returned (.int .i64 (d.F.l.length : Int)) ∧ w' = W) := fun W hW => flLen W d.b d.F d.O ((H.out.only0 hW).fam.each d (List.mem_of_getElem? hd))
    have hlt' : (posK S.l id : Int) < (es.length : Int) := by omega
    have hdel : delK S.l id = S.l.eraseIdx (posK S.l id) := rfl
    rcases ha : d.F.l with _ | ⟨x, t⟩
    · have ha' : d.F.any = false := by unfold Fl.any; rw [ha]; rfl
      rw [ha'] at hok ⊢
      rw [ha] at hfl
      rw [if_pos (by rfl)] at hok
      rw [if_neg (by simp), if_pos (by rfl)]
      rw [hdel] at hok ⊢
      go_enter Try.func45, Try.ntmps45
      go_wp2_with fail
      refine hf.mono ?_
      rintro e w1 ⟨rfl, o1⟩
      have H1 := Lib.hid (H.out.only0 o1)
      obtain ⟨c0, c1, c2⟩ := H1.out.blk.c
      have fr2 := H1.out.blk.fr 2
      obtain ⟨g, rfl, d0, d1⟩ := hpi.out w1 o1
      have hfl1 := hfl.out w1 o1
      have HO := Lib.hid o1
      clear o1 hf hfl hdel
      generalize hp : posK S.l id = p at *
      go_wp2_with fail
      refine hfl1.mono ?_
      rintro e w1 ⟨rfl, rfl⟩
      clear hfl1
      go_wp2_with fail
      have hde := mdelete w1 (.slice (some ⟨g, 0, none⟩) es.length cap) (es.map En.mb) H1.out.row p (by rw [List.length_map]; exact hlt) (by rw [List.length_map]; omega)
      refine hde.mono ?_
      rintro e w4 ⟨v4, rfl, r4, p4, l4⟩
      obtain ⟨t1, t2⟩ := H1.out.removed (Only.refl [] w1) p p4 r4 l4 hok
      obtain ⟨_, _, g2⟩ := t1.c
      have gf2 := t1.fr 2
      obtain ⟨A4, cap4, e4⟩ := r4.form
      generalize (List.eraseIdx (es.map En.mb) p).length = L4 at e4
      subst e4
      have R4 := Lib.hid t2
      clear t1 t2 r4 p4 l4 hde
      go_wp2_with fail
      go_ret
      exact ⟨rfl, by rw [hp]; exact STo.from HO.out R4.out⟩
    · have ha' : d.F.any = true := by unfold Fl.any; rw [ha]; rfl
      rw [ha'] at hok ⊢
      rw [ha] at hfl
      rw [if_pos rfl, if_neg (by simp)]
      have hpos : (0 : Int) < ((x :: t).length : Int) := by simp
      generalize (x :: t).length = n at *
      go_enter Try.func45, Try.ntmps45
      go_wp2_with fail
      refine hf.mono ?_
      rintro e w1 ⟨rfl, o1⟩
      have H1 := Lib.hid (H.out.only0 o1)
      obtain ⟨c0, c1, c2⟩ := H1.out.blk.c
      obtain ⟨g, rfl, d0, d1⟩ := hpi.out w1 o1
      have hfl1 := hfl.out w1 o1
      have HO := Lib.hid o1
      clear o1 hf hfl hdel
      generalize hp : posK S.l id = p at *
      go_wp2_with fail
      refine hfl1.mono ?_
      rintro e w1 ⟨rfl, rfl⟩
      go_wp2_with fail
      go_ret
      exact ⟨rfl, STo.still h0 HO.out⟩
set_option maxHeartbeats 2000000 in
theorem sArrive (x : Pk) (hx : x.ok) :
    Calls Try.prog 46 #[.pointer (some ⟨b, 0, none⟩), .agg #[.int .i64 x.f, .int .i64 x.l, .int .i64 x.m]] w fun e w' => e = .returned (.int .i64 (S.arrE x)) ∧ STo w b O (S.arr x) w' := by
  have hok := (SqOf.ok h).arr hx
  have o0 : Only [] w (w.alloc (.cells #[.int .i64 x.f, .int .i64 x.l, .int .i64 x.m] 58)) := (Only.refl [] w).alloc _
  have bx := PBox.new w x
  have h1 := h.only0 o0
  have h0 := h
  obtain ⟨u, es, h, rfl⟩ := h
  have hf := sFind _ b S u es (h.only0 o0) x.f
  unfold Sq.arrE Sq.arr at *
  rcases hh : hasK S.l x.f with _ | _
  · rw [if_neg (by simp), updK_none hh]
    rw [hh] at hf
    clear h
    go_enter Try.func46, Try.ntmps46
    go_wp2_with fail
    refine hf.mono ?_
    rintro e w1 ⟨rfl, o1⟩
    go_wp2_with fail
    go_ret
    exact ⟨rfl, STo.still h0 (o0.trans' o1)⟩
  · obtain ⟨d, hd, hid, hS, hg, hlt⟩ := has_at h.ok.srt h.key hh
    rw [updK_is h.ok.srt hS] at hok ⊢
    rw [if_pos rfl, hg]
    rw [hh] at hf
    obtain ⟨A, cap, ev⟩ := h.row.form
    rw [List.length_map] at ev
    subst ev
    have H := Lib.hid (And.intro h o0)
    have hl1 : es.length ≤ 1000 := by have := h.ok.len; have := key_len h.key; omega
    have hpi : Hid (∀ W, Only [] w W → ∃ g, A = some ⟨g, 0, none⟩ ∧ W.cell? ⟨g, posK S.l x.f * 2, none⟩ = some (.int .i64 d.id) ∧ W.cell? ⟨g, posK S.l x.f * 2 + 1, none⟩ = some (.pointer (some ⟨d.b, 0, none⟩))) := fun W hW => mrow_at H.out.1.row W hW _ _ hd
    have hfl : Hid (∀ W, Only [] w W → Calls Try.prog 63 #[.pointer (some ⟨d.b, 0, none⟩), .int .u64 S.v, .agg #[.int .i64 x.f, .int .i64 x.l, .int .i64 x.m]] W fun e w' => e = .returned (.bool d.F.takes) ∧ STo w b (ownF (xOf b (.slice A es.length cap)) es) ⟨S.v, S.m, S.l.set (posK S.l x.f) (x.f, d.F.arr S.v x)⟩ w') := fun W hW =>
      (flArrive W d.b d.F d.O ((H.out.1.only0 hW).fam.each d (List.mem_of_getElem? hd)) S.v H.out.1.ok.v x hx).mono fun e w' q => ⟨q.1, by
        obtain ⟨es', q1, q2⟩ := H.out.1.turned hW hd q.2 (by rw [hid]; exact hok)
        rw [hid] at q1
        exact ⟨_, ⟨_, es', q1, rfl⟩, q2⟩⟩
    have hlt' : (posK S.l x.f : Int) < (es.length : Int) := by omega
    clear h h1 o0
    rcases ht : d.F.takes with _ | _
    all_goals
      simp only [ht] at hfl
      go_enter Try.func46, Try.ntmps46
      go_wp2_with fail
      refine hf.mono ?_
      rintro e w1 ⟨rfl, o1⟩
      have o01 := H.out.2.trans' o1
      obtain ⟨c0, c1, c2⟩ := (H.out.1.only0 o01).blk.c
      obtain ⟨x0, x1, x2⟩ := (bx.only o1 (by simp)).c
      obtain ⟨g, rfl, d0, d1⟩ := hpi.out w1 o01
      have HO := Lib.hid o01
      clear o1 hf bx
      generalize hp : posK S.l x.f = p at *
      go_wp2_with fail
      go_still_tail 13, (by kernel_rfl)
      change wpList _ _ _ _ _ w1.drew
      have hfl1 := hfl.out w1.drew HO.out.drew
      clear hfl
      go_wp2_with fail
      refine hfl1.mono ?_
      rintro e w2 ⟨rfl, o2⟩
      have R2 := Lib.hid o2
      clear o2 hfl1
      go_wp2_with fail
      go_ret
      exact ⟨rfl, R2.out⟩
end
end Go.Proofs.Ytklolepmmabijaa
