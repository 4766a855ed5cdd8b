/-
  The document's scheduler: Remove, Add.
-/
import Derived.Test.YtjmnklmomdfpfaaSfqRA
namespace Go.Proofs.Ytjmnklmomdfpfaa
set_option maxRecDepth 100000
open Go.RowKit
set_option linter.unusedVariables false
set_option linter.unusedSimpArgs false
set_option maxRecDepth 100000

theorem erase_eq {α : Type} (l : List α) (i : Nat) : l.take i ++ l.drop (i + 1) = l.eraseIdx i := (List.eraseIdx_eq_take_drop_succ l i).symm
section
variable (w : World) (b : Nat) (S : Sq) (O : List Nat) (h : RqOf w b S O)
include h
set_option maxHeartbeats 2000000 in
theorem zRemove (id : Int) :
    Calls Try.prog 33 #[.pointer (some ⟨b, 0, none⟩), .int .i64 id] w fun e w' => e = .returned (.int .i64 (S.remE id)) ∧ QTo w b O (S.rem id) w' := by
  have hok := (RqOf.ok h).rem id
  have h0 := h
  obtain ⟨u, es, h, rfl⟩ := h
  have hf := zAt w b S u es h id
  unfold Sq.remE Sq.rem at *
  rcases hh : hasK S.l id with _ | _
  · rw [if_neg (by simp), if_neg (by simp)]
    rw [atK_not hh] at hf
    clear h
    go_enter Try.func33, Try.ntmps33
    go_wp2_with fail
    refine hf.mono ?_
    rintro e w1 ⟨rfl, rfl⟩
    go_wp2_with fail
    go_ret
    exact ⟨rfl, QTo.still h0 (Only.refl _ _)⟩
  · obtain ⟨d, hd, hid, hS, hg, hlt⟩ := hasR_at h.ok.srt h.key hh
    rw [hh, hg] at hok
    rw [if_pos rfl, hg]
    rw [atK_has hh] at hf
    obtain ⟨A, cap, ev⟩ := h.row.form
    rw [List.length_map] at ev
    subst ev
    have H := Lib.hid h
    have hl1 : es.length ≤ 1000 := by have := h.ok.len; have := key_len h.key; omega
    obtain ⟨g, rfl, hgl, d0⟩ := prow_at h.row w (Only.refl _ _) _ d hd
    obtain ⟨k0, ⟨A3, cap3, k3⟩, _⟩ := ref_c (h.fam.each d (List.mem_of_getElem? hd))
    obtain ⟨c0, c1, c2⟩ := h.blk.c
    have cf0 := h.blk.fr 0
    have hcap : es.length ≤ cap := by
      obtain ⟨g', cap', cur, e, hn, _⟩ := h.row.at_ (by rw [List.length_map]; omega)
      rw [List.length_map] at e hn
      injection e with e1 e2 e3
      omega
    have hcm : cap ≤ 9223372036854775807 := by
      obtain ⟨g', cap', cur, e, hn, hm, _⟩ := h.row.at_ (by rw [List.length_map]; omega)
      injection e with e1 e2 e3
      unfold maxLen at hm
      omega
    clear h
    have hlt' : (posK S.l id : Int) < (es.length : Int) := by omega
    have hdel : delK S.l id = S.l.eraseIdx (posK S.l id) := rfl
    rcases ha : d.F.l with _ | ⟨x, t⟩
    · have ha' : d.F.any = false := by unfold Fl.any; rw [ha]; rfl
      rw [ha'] at hok ⊢
      rw [ha] at k3
      rw [if_pos (by rfl)] at hok
      rw [if_neg (by simp), if_pos (by rfl)]
      rw [hdel] at hok ⊢
      clear hdel
      generalize hp : posK S.l id = p at *
      have i1 : p + 1 ≤ es.length := by omega
      have i2 : (p : Int) + 1 ≤ (es.length : Int) := by omega
      have i3 : ¬ (cap = p) := by omega
      have htn : ((p : Int) + 1).toNat = p + 1 := by omega
      have hw1 : IntKind.i64.wrap ((p : Int) + 1) = (p : Int) + 1 := by rw [IntKind.wrap_i64]; omega
      have hb1 : (0 : Int) ≤ (p : Int) + 1 := by omega
      have hS1 : Hid (pE.Src w (some ⟨g, 0, none⟩) ((es.map En.b).take p)) := El.Src.take (El.Src.of_row H.out.row) p
      obtain ⟨ad, hA, hS2⟩ : ∃ ad : Addr, (if cap = p + 1 then (⟨g, 0, none⟩ : Addr) else ⟨g, p + 1, none⟩) = ad ∧ Hid (∀ W, Only [] w W → pE.Src W (some ad) ((es.map En.b).drop (p + 1))) := by
        refine ⟨_, rfl, fun W hW hne => ?_⟩
        have hl9 : p + 1 < es.length := by
          rcases Nat.lt_or_ge (p + 1) es.length with h9 | h9
          · exact h9
          · exact absurd (List.drop_eq_nil_of_le (by simpa using h9)) hne
        rw [if_neg (by omega)]
        have h9 := (El.Src.drop (E := pE) H.out.row (p + 1)).only0 hW hne
        rw [Nat.mul_one] at h9
        exact h9
      rcases Decidable.em (cap = p + 1) with hca | hca
      all_goals
        first | rw [if_pos hca] at hA | rw [if_neg hca] at hA
        subst hA
        go_enter Try.func33, Try.ntmps33
        go_wp2_with fail
        refine hf.mono ?_
        rintro e w1 ⟨rfl, rfl⟩
        have mk1 : True := trivial
        go_wp2_with (first
          | (at_builtin
             clear mk1
             refine El.wpList_append (E := pE) Try.underlying26 rfl (.const (.slice none 0 0)) (.tmp 31) rfl (.slice none 0 0) [] rfl (El.Row.nil _) _ p _ ((es.map En.b).take p) rfl (by simp; omega) hS1.out p (by simp) (by omega) ?_
             intro A2 cap2 w2 r2 g2 l2
             have o2 : Only [] w1 w2 := (Only.refl [] w1).grown g2 (by simp [Value.ownBlock])
             have f2 : ∀ k, (Value.slice A2 p cap2).ownBlock = some k → w1.heap.size ≤ k := fun k hk => by
               rcases l2 with l2 | l2
               · rw [l2] at hk; cases hk
               · rw [l2] at hk; injection hk with hk; omega
             obtain ⟨e0, e1, e2⟩ := (H.out.blk.only0 o2).c
             have R2 := Lib.hid (And.intro r2 (And.intro o2 f2))
             clear r2 g2 l2 o2 f2)
          | (at_builtin
             refine El.wpList_append (E := pE) Try.underlying26 rfl (.tmp 34) (.tmp 41) rfl _ _ rfl R2.out.1 _ (es.length - (p + 1)) _ ((es.map En.b).drop (p + 1)) rfl (by simp) (hS2.out w2 R2.out.2.1) (es.length - 1) (by simp; omega) (by omega) ?_
             intro A3 cap3 w3 r3 g3 l3
             have o3 : Only [] w1 w3 := R2.out.2.1.grown g3 (fun k hk => .inr (R2.out.2.2 k hk))
             have f3 : ∀ k, (Value.slice A3 (es.length - 1) cap3).ownBlock = some k → w1.heap.size ≤ k := fun k hk => by
               have hs2 := R2.out.2.1.size
               rcases l3 with l3 | l3
               · rw [l3] at hk; exact R2.out.2.2 k hk
               · rw [l3] at hk; injection hk with hk; omega
             obtain ⟨e0', e1', e2'⟩ := (H.out.blk.only0 o3).c
             have ef0 := (H.out.blk.only0 o3).fr 0
             simp only [List.nil_append, erase_eq] at r3
             have R3 := Lib.hid (H.out.removed o3 p r3 f3 hok)
             clear r3 g3 l3 o3 f3))
        go_ret
        exact ⟨rfl, R3.out⟩
    · have ha' : d.F.any = true := by unfold Fl.any; rw [ha]; rfl
      rw [ha'] at hok ⊢
      rw [ha] at k3
      rw [if_pos rfl, if_neg (by simp)]
      have hpos : (0 : Int) < ((x :: t).length : Int) := by simp
      generalize (x :: t).length = n at *
      clear hdel
      generalize hp : posK S.l id = p at *
      go_enter Try.func33, Try.ntmps33
      go_wp2_with fail
      refine hf.mono ?_
      rintro e w1 ⟨rfl, rfl⟩
      go_wp2_with fail
      go_ret
      exact ⟨rfl, QTo.still h0 (Only.refl _ _)⟩
end
end Go.Proofs.Ytjmnklmomdfpfaa
