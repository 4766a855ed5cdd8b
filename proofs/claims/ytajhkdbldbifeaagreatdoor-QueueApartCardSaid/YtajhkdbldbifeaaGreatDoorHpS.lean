/-
  Contract of the heap's swap: two items change places, and the map tells so.
-/
import Derived.Test.YtajhkdbldbifeaaGreatDoorHpA
namespace Go.Proofs.YtajhkdbldbifeaaGreatDoor
set_option maxRecDepth 100000
open Go.RowKit Go.ChangeMaps Go.MapKept
set_option linter.unusedVariables false
set_option linter.unusedSimpArgs false

set_option maxHeartbeats 4000000 in
set_option maxRecDepth 100000 in
/-- swap: two items change places, and the map tells so. -/
theorem hswap (w : World) (hb mb : Nat) (v : Value) (xs : List It) (h : HeapIs w hb v mb xs) (i j : Nat) (hi : i < xs.length) (hj : j < xs.length) :
    Calls Tryz.prog 118 #[.pointer (some ⟨hb, 0, none⟩), .int .i64 (i : Int), .int .i64 (j : Int)] w fun e w' => e = .returned (.tuple #[]) ∧ HeapIs w' hb v mb (swl xs i j) ∧ Only (mb :: v.ownBlock.toList) w w' := by
  have h' := Lib.hid h
  obtain ⟨g, cap, rfl, hn, -, -, -, hcell⟩ := h.row.at_ (by omega)
  have c0 := h.c0
  obtain ⟨i0, i1, fi0, fi1⟩ := hcell i hi
  obtain ⟨j0, j1, fj0, fj1⟩ := hcell j hj
  have ne := h.hbg rfl
  clear hcell h
  have hi' : (i : Int) < (xs.length : Int) := by omega
  have hj' : (j : Int) < (xs.length : Int) := by omega
  obtain ⟨x, ex⟩ : ∃ x, gOf xs i = x := ⟨_, rfl⟩
  obtain ⟨y, ey⟩ : ∃ y, gOf xs j = y := ⟨_, rfl⟩
  obtain ⟨n, en⟩ : ∃ n, xs.length = n := ⟨_, rfl⟩
  rw [ex] at i0 i1
  rw [ey] at j0 j1
  rw [en] at hi' hj' hn c0
  have H1 := Lib.hid ex
  have H2 := Lib.hid ey
  have H3 := Lib.hid en
  rw [en] at h' ⊢
  clear ex ey en
  go_enter Tryz.func118, Tryz.ntmps118
  go_wp2_with fail
  obtain ⟨u1, hu1⟩ := cell?_setCell_some (w := w) (p := ⟨g, i * 2, none⟩) (x := .int .u64 y.k) (q := ⟨g, j * 2, none⟩) (v := .int .u64 y.k) j0
  obtain ⟨u2, hu2⟩ := cell?_setCell_some (w := w.setCell ⟨g, i * 2, none⟩ (.int .u64 y.k)) (p := ⟨g, i * 2 + 1, none⟩) (x := .int .i64 y.i) (q := ⟨g, j * 2 + 1, none⟩) (v := .int .i64 y.i)
    (by rw [World.cell?_setCell_other _ _ _ _ (by intro e; injection e with _ e; omega)]; exact j1)
  go_region
  have HW : HeapIs w hb (.slice (some ⟨g, 0, none⟩) n cap) mb xs := h'.out
  have hrow := (HW.row.store (k := i) hi y).store (k := j) (by simpa using hj) x
  have hsw : (xs.set i y).set j x = swl xs i j := by unfold swl; rw [H1.out, H2.out]
  rw [hsw] at hrow
  have hon : Only [g] w ((((w.setCell ⟨g, i * 2, none⟩ (.int .u64 y.k)).setCell ⟨g, i * 2 + 1, none⟩ (.int .i64 y.i)).setCell ⟨g, j * 2, none⟩ (.int .u64 x.k)).setCell ⟨g, j * 2 + 1, none⟩ (.int .i64 x.i)) :=
    ((((Only.refl _ _).setCell (by simp) _).setCell (by simp) _).setCell (by simp) _).setCell (by simp) _
  replace hon := hon.drew
  replace hrow : RowIs ((((w.setCell ⟨g, i * 2, none⟩ (.int .u64 y.k)).setCell ⟨g, i * 2 + 1, none⟩ (.int .i64 y.i)).setCell ⟨g, j * 2, none⟩ (.int .u64 x.k)).setCell ⟨g, j * 2 + 1, none⟩ (.int .i64 x.i)).drew (.slice (some ⟨g, 0, none⟩) n cap) (swl xs i j) := hrow
  generalize hW1 : ((((w.setCell ⟨g, i * 2, none⟩ (.int .u64 y.k)).setCell ⟨g, i * 2 + 1, none⟩ (.int .i64 y.i)).setCell ⟨g, j * 2, none⟩ (.int .u64 x.k)).setCell ⟨g, j * 2 + 1, none⟩ (.int .i64 x.i)).drew = W1 at hrow hon ⊢
  clear hW1 hu1 hu2 i0 i1 j0 j1 fi0 fi1 fj0 fj1 c0
  have hd1 : HeapIs w hb (.slice (some ⟨g, 0, none⟩) n cap) mb xs := HW
  have b1 : W1.heap[hb]? = some (.cells #[.slice (some ⟨g, 0, none⟩) n cap, .map (some mb)] 109 (0, 0)) := hon.get HW.blk (by simp; exact ne)
  have m1 : MapAt W1 mb (fOf xs) := HW.map.keep (hon.block mb HW.map.lt (by simp; exact HW.mbg rfl))
  have c0 : W1.cell? ⟨hb, 0, none⟩ = some (.slice (some ⟨g, 0, none⟩) n cap) := by rw [cell_of_row W1 hb 0 _ _ _ b1]; rfl
  have c1 : W1.cell? ⟨hb, 1, none⟩ = some (.map (some mb)) := by rw [cell_of_row W1 hb 1 _ _ _ b1]; rfl
  obtain ⟨g', cap', e9, -, -, -, -, hcell⟩ := hrow.at_ (by simp; omega)
  have e9 : g = g' := by injection e9 with e9 _ _; injection e9 with e9; injection e9
  subst e9
  obtain ⟨-, i1, -, -⟩ := hcell i (by simpa using hi)
  obtain ⟨-, j1, -, -⟩ := hcell j (by simpa using hj)
  clear hcell
  have hids := HW.ids.swl hi hj
  have hfit : ∀ x ∈ swl xs i j, x.ok := fun x hx => HW.fit x ((swl_perm xs hi hj).subset hx)
  have oki : i64ok (gOf (swl xs i j) i).i := (hfit _ (by rw [gOf_get (by simpa using hi)]; exact List.getElem_mem _)).2
  have okj : i64ok (gOf (swl xs i j) j).i := (hfit _ (by rw [gOf_get (by simpa using hj)]; exact List.getElem_mem _)).2
  have gi : gOf (swl xs i j) i = gOf xs j := by rw [gOf_swl xs hi hj]; unfold swf; split <;> simp_all
  have gj : gOf (swl xs i j) j = gOf xs i := by rw [gOf_swl xs hi hj]; unfold swf; simp
  have F1 : fOf xs (gOf (swl xs i j) i).i = some (j : Int) := (fOf_iff HW.ids _ _).2 ⟨j, hj, by rw [gi], rfl⟩
  have F2 : ∃ q, upd (fOf xs) (gOf (swl xs i j) i).i i (gOf (swl xs i j) j).i = some q := by
    unfold upd
    split
    · exact ⟨_, rfl⟩
    · exact ⟨(i : Int), (fOf_iff HW.ids _ _).2 ⟨i, hi, by rw [gj], rfl⟩⟩
  have HF := Lib.hid (fOf_swl HW.ids hi hj)
  have HB := Lib.hid b1
  have HR := Lib.hid hrow
  have HI := Lib.hid hids
  have HT := Lib.hid hfit
  clear b1 hrow hids hfit hd1 HW gi gj
  generalize hzi : (gOf (swl xs i j) i).i = zi at *
  generalize hzj : (gOf (swl xs i j) j).i = zj at *
  have HZ1 := Lib.hid hzi
  have HZ2 := Lib.hid hzj
  clear hzi hzj
  obtain ⟨q, F2⟩ := F2
  obtain ⟨st1, r1, W2, r2, m2, gr2⟩ := (m1.keep (w' := W1.drew) rfl).entry oki F1 (i : Int) 107 Tryz.underlying107
  obtain ⟨st2, r3, W3, r4, m3, gr3⟩ := m2.entry okj F2 (j : Int) 107 Tryz.underlying107
  have HM := Lib.hid m3
  have HG2 := Lib.hid gr2
  have HG3 := Lib.hid gr3
  clear m1 m2 m3 gr2 gr3 F1 F2 oki okj
  have fin : Hid (HeapIs W3 hb (.slice (some ⟨g, 0, none⟩) n cap) mb (swl xs i j) ∧ Only (mb :: (Value.slice (some ⟨g, 0, none⟩) n cap).ownBlock.toList) w W3) := by
    have HW : HeapIs w hb (.slice (some ⟨g, 0, none⟩) n cap) mb xs := h'.out
    have o2 : Only [mb] W1 W3 := (((Only.refl [mb] W1).drew).grown HG2.out (by simp)).grown HG3.out (by simp)
    have m3 := HM.out
    rw [HF.out] at m3
    refine Lib.hid ⟨⟨o2.get HB.out (by simp; exact HW.hbmb), HR.out.keep fun g' hg' => ?_, m3, HI.out, HT.out⟩, ?_⟩
    · have e : g = g' := by simpa [Value.ownBlock] using hg'
      subst e
      refine o2.block _ (HR.out.lt rfl) (by simp; exact (HW.mbg rfl).symm)
    · refine (hon.mono (T := mb :: (Value.slice (some ⟨g, 0, none⟩) n cap).ownBlock.toList) (by simp [Value.ownBlock])).trans o2 (by simp)
  clear HB HR HI HT HF HZ1 HZ2 HM HG2 HG3 hon h' H1 H2 H3 u1 u2
  clear hsw ne
  go_wp2_with fail
  go_region
  go_end0
  exact ⟨rfl, fin.out⟩
end Go.Proofs.YtajhkdbldbifeaaGreatDoor
