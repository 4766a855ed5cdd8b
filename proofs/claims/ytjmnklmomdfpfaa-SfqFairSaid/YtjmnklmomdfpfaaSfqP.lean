/-
  Ours: New, V, Most, Add.
-/
import Derived.Test.YtjmnklmomdfpfaaSfqG
import Derived.Test.YtjmnklmomdfpfaaSfqN
namespace Go.Proofs.Ytjmnklmomdfpfaa
set_option maxRecDepth 100000
open Go.RowKit
set_option linter.unusedVariables false
set_option linter.unusedSimpArgs false
set_option maxRecDepth 100000

theorem sNew (w : World) : Calls Try.prog 10 #[] w fun e w' => e = .returned (.pointer (some ⟨w.heap.size, 0, none⟩)) ∧ SqOf w' w.heap.size Sq.new [w.heap.size] ∧ Only [] w w' := by
  go_enter Try.func10, Try.ntmps10
  go_wp2
  go_ret
  exact ⟨rfl, ⟨.slice none 0 0, [], ⟨Sq.ok.new, heap_alloc_new w _, El.Row.nil _, ⟨by simp, List.Pairwise.nil, by simp⟩, rfl⟩, rfl⟩, (Only.refl [] w).alloc _⟩
section
variable (w : World) (b : Nat) (S : Sq) (O : List Nat) (h : SqOf w b S O)
include h
theorem sV : Calls Try.prog 15 #[.pointer (some ⟨b, 0, none⟩)] w fun e w' => e = .returned (.int .u64 S.v) ∧ w' = w := by
  obtain ⟨u, es, h, rfl⟩ := h
  obtain ⟨c0, c1, c2⟩ := h.blk.c
  clear h
  go_enter Try.func15, Try.ntmps15
  go_wp2
  go_ret
  exact ⟨rfl, rfl⟩
theorem sMost : Calls Try.prog 16 #[.pointer (some ⟨b, 0, none⟩)] w fun e w' => e = .returned (.int .u64 S.m) ∧ w' = w := by
  obtain ⟨u, es, h, rfl⟩ := h
  obtain ⟨c0, c1, c2⟩ := h.blk.c
  clear h
  go_enter Try.func16, Try.ntmps16
  go_wp2
  go_ret
  exact ⟨rfl, rfl⟩
set_option maxHeartbeats 2000000 in
theorem sAdd (id r most : Int) (hid : i64ok id) (hr : U64 r) (hl : S.l.length < 1000) :
    Calls Try.prog 24 #[.pointer (some ⟨b, 0, none⟩), .int .i64 id, .int .u64 r, .int .i64 most] w fun e w' => e = .returned (.bool (!hasK S.l id)) ∧ STo w b O (S.add id r (room most)) w' := by
  have hok := (SqOf.ok h).add hid hr most hl
  have h0 := h
  obtain ⟨u, es, h, rfl⟩ := h
  have hf := sFind w b S u es h id
  rcases hh : hasK S.l id with _ | _
  · have hS : S.add id r (room most) = ⟨S.v, S.m, insK S.l (id, Fl.new r (room most))⟩ := by unfold Sq.add; rw [if_neg (by simp [hh])]
    rw [hS] at hok ⊢
    rw [hh] at hf
    obtain ⟨A, cap, ev⟩ := h.row.form
    rw [List.length_map] at ev
    subst ev
    have H := Lib.hid h
    clear h h0
    go_enter Try.func24, Try.ntmps24
    go_wp2_with fail
    refine hf.mono ?_
    rintro e w1 ⟨rfl, o1⟩
    have H1 := Lib.hid (H.out.only0 o1)
    obtain ⟨c0, c1, c2⟩ := H1.out.blk.c
    have fr2 := H1.out.blk.fr 2
    have HO := Lib.hid o1
    clear o1 H hf
    go_wp2_with fail
    have hid2 : Hid (i64ok id ∧ U64 r ∧ posK S.l id ≤ es.length) := ⟨hid, hr, by have := posK_le S.l id; have := key_len H1.out.key; omega⟩
    go_region_with (first
      | (go_at_call 50
         refine (flNew _ r most hid2.out.2.1).mono ?_
         rintro e w2 ⟨rfl, f2, o2⟩
         have o12 : Only [] w1 w2 := (Only.refl [] w1).drew.trans' o2
         have H2 := Lib.hid (H1.out.only0 o12)
         have R2 := Lib.hid (And.intro f2 o12)
         obtain ⟨_, _, d2⟩ := H2.out.blk.c
         have fd2 := H2.out.blk.fr 2
         have hb2 := H2.out.blk.lt
         clear f2 o2 o12)
      | (go_at_call 49
         refine (minsert _ (.slice A es.length cap) (es.map En.mb) ?_ w2.heap.size (id, some w1.heap.size) ?_ ?_ (posK S.l id) ?_ ?_).mono ?_
         · exact H2.out.row.only0 ((Only.refl [] w2).alloc _)
         · exact heap_alloc_new w2 _
         · intro e; exact Nat.lt_irrefl _ (H2.out.row.lt e)
         · rw [List.length_map]; exact hid2.out.2.2
         · rw [List.length_map]; have := H1.out.ok.len; have := key_len H1.out.key; omega
         rintro e w4 ⟨v4, rfl, r4, p4, l4⟩
         obtain ⟨t1, t2⟩ := H1.out.added R2.out.2 R2.out.1 (Nat.le_refl _) ((Only.refl [] w2).alloc _) p4 r4 l4 hok
         obtain ⟨_, _, g2⟩ := t1.c
         have gf2 := t1.fr 2
         obtain ⟨A4, cap4, e4⟩ := r4.form
         generalize List.length (List.take (posK S.l id) (es.map En.mb) ++ (id, some w1.heap.size) :: List.drop (posK S.l id) (es.map En.mb)) = L4 at e4
         subst e4
         have R4 := Lib.hid t2
         clear t1 t2 r4 p4 l4))
    all_goals
      go_wp2_with fail
      go_ret
      exact ⟨rfl, STo.from HO.out R4.out⟩
  · have hS : S.add id r (room most) = S := by unfold Sq.add; rw [if_pos hh]
    rw [hS]
    rw [hh] at hf
    clear h
    go_enter Try.func24, Try.ntmps24
    go_wp2_with fail
    refine hf.mono ?_
    rintro e w1 ⟨rfl, o1⟩
    go_wp2_with fail
    go_ret
    exact ⟨rfl, STo.still h0 o1⟩
end
end Go.Proofs.Ytjmnklmomdfpfaa
