/-
  slices.BinarySearchFunc at members; find.
-/
import Derived.Test.YtjmnklmomdfpfaaSfqF
import Derived.Deep.LoopGhost
namespace Go.Proofs.Ytjmnklmomdfpfaa
set_option maxRecDepth 100000
open Go.RowKit
set_option linter.unusedVariables false
set_option linter.unusedSimpArgs false
set_option maxRecDepth 100000

/-- The cells of an entry, wherever the row is still as it was. -/
theorem mrow_at {w : World} {A : Option Addr} {m cap : Nat} {es : List En} (h : mE.Row w (.slice A m cap) (es.map En.mb)) : ∀ W, Only [] w W → ∀ k e, es[k]? = some e → ∃ g, A = some ⟨g, 0, none⟩ ∧ W.cell? ⟨g, k * 2, none⟩ = some (.int .i64 e.id) ∧ W.cell? ⟨g, k * 2 + 1, none⟩ = some (.pointer (some ⟨e.b, 0, none⟩)) := by
  intro W hW k e he
  obtain ⟨g, e1, _, hc⟩ := (h.only0 hW).cell (k := k) (x := e.mb) (by rw [List.getElem?_map, he]; rfl)
  exact ⟨g, e1, (hc 0 _ rfl).1, (hc 1 _ rfl).1⟩

set_option maxHeartbeats 2000000 in
theorem sSearch (w : World) (v : Value) (es : List En) (h : mE.Row w v (es.map En.mb)) (K : List (Int × Fl)) (hK : es.map En.key = K) (hr : Srt K) (id : Int) (hl : es.length ≤ 1000000) :
    Calls Try.prog 73 #[v, .int .i64 id, .func (.func 74) #[] #[]] w fun e w' => e = .returned (.tuple #[.int .i64 (posK K id : Int), .bool (hasK K id)]) ∧ Only [] w w' := by
  obtain ⟨A, cap, ev⟩ := h.form
  rw [List.length_map] at ev
  subst ev
  have row := Lib.hid (mrow_at h)
  have HK : Hid (∀ (i : Nat) (e : En), es[i]? = some e → K[i]? = some (e.id, e.F)) := fun i e he => by rw [← hK, List.getElem?_map, he]; rfl
  have HL : Hid (K.length = es.length) := by show _ = _; rw [← hK]; simp
  have HR := Lib.hid hr
  have hget : Hid (∀ k : Nat, k < es.length → ∃ e : En, es[k]? = some e) := fun k hk => ⟨_, List.getElem?_eq_getElem hk⟩
  clear h hr hK
  generalize hn : es.length = n at *
  have HN := Lib.hid hn
  clear hn
  go_enter Try.func73, Try.ntmps73
  go_wp2_with fail
  go_loopg [9, 10] (n + 1) (fun gk si sj wr => ∃ a b : Nat, si = .int .i64 (a : Int) ∧ sj = .int .i64 (b : Int) ∧ a ≤ b ∧ b ≤ n ∧ b + 1 ≤ gk + a ∧ Hid (Only [] w wr) ∧ Hid (∀ k e, k < a → K[k]? = some e → e.1 < id) ∧ Hid (∀ k e, b ≤ k → K[k]? = some e → ¬ e.1 < id))
  case atStart => exact ⟨0, n, rfl, rfl, by omega, by omega, by omega, Only.refl _ _, fun k e hk => absurd hk (by omega), fun k e h1 h2 => by
    have := (List.getElem?_eq_some_iff.1 h2).1
    have := HL.out
    omega⟩
  case round =>
    obtain ⟨a, b, rfl, rfl, hab, hbn, hg, ho, HA, HU⟩ := hrel
    by_cases hlt : a < b
    · obtain ⟨m, em⟩ : ∃ m : Nat, (a + b) / 2 = m := ⟨_, rfl⟩
      have hm1 : a ≤ m := by omega
      have hm2 : m < b := by omega
      have hm : ((a : Int) + (b : Int)) / 2 = (m : Int) := by omega
      have hmn : (m : Int) < (n : Int) := by omega
      obtain ⟨z, ez⟩ := hget.out m (by omega)
      obtain ⟨g, rfl, d0, d1⟩ := row.out wr ho.out m z ez
      have HZ := Lib.hid (HK.out m z ez)
      clear ez em
      go_wp2_with fail
      refine (sAgainst z.id _ id _).mono ?_
      rintro e w2 ⟨rfl, o2⟩
      have ho2 : Hid (Only [] w w2) := ho.out.trans' o2
      clear o2 d0 d1
      by_cases hz : z.id < id
      · have hc : cmpZ z.id id = -1 := by unfold cmpZ; rw [if_pos hz]
        rw [hc]
        clear hc
        go_wp2_with fail
        go_roundg (b + 1 - (m + 1))
        case measure => omega
        case rel => exact ⟨m + 1, b, by simp, rfl, by omega, by omega, by omega, ho2, fun k e h1 h2 => by
          rcases Nat.lt_or_ge k m with h3 | h3
          · have h5 := HR.out.lt h3 h2 HZ.out
            simp only at h5
            omega
          · obtain rfl : k = m := by omega
            rw [HZ.out] at h2
            injection h2 with h2
            rw [← h2]; exact hz, HU⟩
      · have hc : 0 ≤ cmpZ z.id id := by unfold cmpZ; rw [if_neg hz]; split <;> omega
        generalize cmpZ z.id id = c at *
        go_wp2_with fail
        go_roundg (m + 1 - a)
        case measure => omega
        case rel => exact ⟨a, m, rfl, rfl, by omega, by omega, by omega, ho2, HA, fun k e h1 h2 => by
          rcases Nat.lt_or_ge m k with h3 | h3
          · have h5 := HR.out.lt h3 HZ.out h2
            simp only at h5
            omega
          · obtain rfl : k = m := by omega
            rw [HZ.out] at h2
            injection h2 with h2
            rw [← h2]; exact hz⟩
    · obtain rfl : a = b := by omega
      have hat : posK K id = a := posK_of (by rw [HL.out]; omega) (fun j e hj he => HA.out j e hj he) (fun e he => HU.out a e (Nat.le_refl _) he)
      have HAT := Lib.hid hat
      clear hat
      by_cases hal : a < n
      · have hal' : (a : Int) < (n : Int) := by omega
        obtain ⟨z, ez⟩ := hget.out a hal
        obtain ⟨g, rfl, d0, d1⟩ := row.out wr ho.out a z ez
        have hh : Hid ((cmpZ z.id id == 0) = hasK K id) := by
          have hz := HK.out a z ez
          have hge := HU.out a _ (Nat.le_refl _) hz
          simp only at hge
          by_cases e1 : z.id = id
          · subst e1
            rw [hasK_is hz]
            show _ = _
            unfold cmpZ
            simp
          · have h0 : hasK K id = false := by
              rcases h1 : hasK K id with _ | _
              · rfl
              · obtain ⟨i, F, hi⟩ := hasK_some h1
                have := posK_is HR.out hi
                rw [HAT.out] at this
                subst this
                rw [hz] at hi
                injection hi with hi
                injection hi with hi
                exact absurd hi e1
            rw [h0]
            show _ = _
            unfold cmpZ
            rw [if_neg hge, if_pos (by omega)]
            rfl
        have hc := sAgainst z.id (.pointer (some ⟨z.b, 0, none⟩)) id
        generalize cmpZ z.id id = c at *
        go_wp2_with fail
        refine (hc _).mono ?_
        rintro e w2 ⟨rfl, o2⟩
        have ho2 : Hid (Only [] w w2) := ho.out.trans' o2
        clear o2 hc
        go_wp2_with fail
        go_ret2
        refine ⟨?_, ho2.out⟩
        rw [HAT.out, ← hh.out]
        rfl
      · have hal' : decide ((a : Int) < (n : Int)) = false := decide_eq_false (by omega)
        have hh : Hid (hasK K id = false) := by
          show _ = _
          rcases h1 : hasK K id with _ | _
          · rfl
          · obtain ⟨i, F, hi⟩ := hasK_some h1
            have h2 := posK_is HR.out hi
            have h3 := (List.getElem?_eq_some_iff.1 hi).1
            have := HAT.out
            have := HL.out
            omega
        go_wp2_with fail
        go_ret2
        refine ⟨?_, ho.out⟩
        rw [HAT.out, hh.out]
        rfl
set_option maxHeartbeats 1000000 in
theorem sFind (w : World) (b : Nat) (S : Sq) (u : Value) (es : List En) (h : SqIs w b S u es) (id : Int) :
    Calls Try.prog 45 #[.pointer (some ⟨b, 0, none⟩), .int .i64 id] w fun e w' => e = .returned (.tuple #[.int .i64 (posK S.l id : Int), .bool (hasK S.l id)]) ∧ Only [] w w' := by
  obtain ⟨c0, c1, c2⟩ := h.blk.c
  have hs := sSearch w u es h.row S.l h.key h.ok.srt id (by have := h.ok.len; have := key_len h.key; omega)
  obtain ⟨A, cap, ev⟩ := h.row.form
  rw [List.length_map] at ev
  subst ev
  clear h
  go_enter Try.func45, Try.ntmps45
  go_wp2_with fail
  refine hs.mono ?_
  rintro e w2 ⟨rfl, o2⟩
  go_wp2_with fail
  go_ret2
  exact ⟨rfl, o2⟩
end Go.Proofs.Ytjmnklmomdfpfaa
