/-
  looks.
-/
import Derived.Test.YtgncjgjkfmpegaaFlowH
namespace Go.Proofs.Ytgncjgjkfmpegaa
set_option maxRecDepth 100000
open Go.RowKit
set_option linter.unusedVariables false
set_option linter.unusedSimpArgs false
set_option maxRecDepth 100000

set_option maxHeartbeats 2000000 in
theorem fLooks (w : World) (b c : Nat) (F : Fl) (O P : List Nat) (h : Duo w b c F O P) :
    Calls Try.prog 11 #[.pointer (some ⟨b, 0, none⟩), .pointer (some ⟨c, 0, none⟩)] w fun e w' => e = .returned (.bool true) ∧ Only [] w w' := by
  have hg := pk_guard
  have he := pk_eql F.hd F.hd
  simp only [decide_true] at he
  have k1 := flHead w b F O h.fl
  obtain ⟨hk, s, v, r1, r2, r3, r4, rfl⟩ := h.rf
  have hfl := h.fl
  obtain ⟨A, cap, rfl⟩ := r4.form
  have hn8 := hk.n8
  have hlen := hk.len
  rcases hl : F.l with _ | ⟨x, t⟩
  · have e1 : F.hd = ⟨0, 0, 0⟩ := by unfold Fl.hd; rw [hl]; rfl
    have e2 : F.st = 0 := by unfold Fl.st; rw [if_pos hl]
    have e3 : F.any = false := by unfold Fl.any; rw [hl]; rfl
    rw [hl] at r1
    rw [e1, e3] at k1
    rw [e1] at he
    go_enter Try.func11, Try.ntmps11
    go_wp2_with fail
    refine k1.mono ?_
    rintro e w1 ⟨rfl, o1⟩
    have o2 : Only [] w (w1.alloc (.cells #[.int .i64 0, .int .i64 0, .int .i64 0] 32)) := o1.alloc _
    have bx := PBox.new w1 ⟨0, 0, 0⟩
    have k2 := flStart _ b F O (hfl.only0 o2)
    rw [e2, e3] at k2
    clear k1 o1
    go_wp2_with fail
    generalize w1.alloc (.cells #[.int .i64 0, .int .i64 0, .int .i64 0] 32) = W at *
    refine k2.mono ?_
    rintro e W ⟨rfl, rfl⟩
    obtain ⟨_, _, _, c3, c4, c5⟩ := (r1.only0 o2).c
    have k3 := fun q => flLen _ b F O (hfl.only0 (o2.drewN q))
    have k4 := fun q => flFinish _ b F O (hfl.only0 (o2.drewN q))
    rw [hl] at k3
    obtain ⟨x0, x1, x2⟩ := bx.c
    have O2 := Lib.hid (And.intro o2 bx)
    clear k2 r1 r2 r3 r4 hfl h o2 bx
    go_wp2_with fail
    go_quiet (first | (go_at_call 15; exact Calls.quiet_of_same (k3 _)) | (go_at_call 22; exact Calls.quiet_of_same (k4 _)))
    go_wp2_with fail
    go_ret
    exact ⟨rfl, O2.out.1.drewN _⟩
  · have hne : F.l ≠ [] := by rw [hl]; simp
    have e1 : F.hd = x := by unfold Fl.hd; rw [hl]; rfl
    have e2 : F.st = F.s := by unfold Fl.st; rw [if_neg hne]
    have e3 : F.any = true := by unfold Fl.any; rw [hl]; rfl
    have es := r2 hne
    subst es
    rw [hl] at r1 r4 hlen
    simp only [List.length_cons] at r1 r4 hlen
    rw [e1, e3] at k1
    rw [e1] at he
    obtain ⟨g, cap', e9, _⟩ := r4.at_ (by simp)
    injection e9 with e9
    subst e9
    obtain ⟨p1, p2, p3, p4⟩ := pos_len t.length
    have p5 : (0 : Int) < (t.length : Int) + 1 := by omega
    have p6 : decide ((0 : Int) < (t.length : Int) + 1) = true := decide_eq_true p5
    go_enter Try.func11, Try.ntmps11
    go_wp2_with fail
    refine k1.mono ?_
    rintro e w1 ⟨rfl, o1⟩
    have o2 : Only [] w (w1.alloc (.cells #[.int .i64 x.f, .int .i64 x.l, .int .i64 x.m] 32)) := o1.alloc _
    have bx := PBox.new w1 x
    have k2 := flStart _ b F O (hfl.only0 o2)
    rw [e2, e3] at k2
    clear k1 o1
    go_wp2_with fail
    generalize w1.alloc (.cells #[.int .i64 x.f, .int .i64 x.l, .int .i64 x.m] 32) = W at *
    refine k2.mono ?_
    rintro e W ⟨rfl, rfl⟩
    obtain ⟨_, _, _, c3, c4, c5⟩ := (r1.only0 o2).c
    have k3 := fun q => flLen _ b F O (hfl.only0 (o2.drewN q))
    have k4 := fun q => flFinish _ b F O (hfl.only0 (o2.drewN q))
    rw [hl] at k3
    simp only [List.length_cons] at k3
    obtain ⟨x0, x1, x2⟩ := bx.c
    obtain ⟨y0, y1, y2⟩ := (r4.only o2 (by simp)).head
    have O2 := Lib.hid (And.intro o2 bx)
    clear k2 r1 r2 r3 r4 hfl h o2 bx p1 p2 p3 p4 p5 p6
    generalize hm : t.length + 1 = m at *
    have p1 : (0 : Int) < (m : Int) := by omega
    have p2 : decide ((0 : Int) < (m : Int)) = true := decide_eq_true p1
    have p3 : 0 < m := by omega
    have p4 : decide (0 < m) = true := decide_eq_true p3
    clear hm
    go_wp2_with fail
    go_quiet (first | (go_at_call 15; exact Calls.quiet_of_same (k3 _)) | (go_at_call 22; exact Calls.quiet_of_same (k4 _)))
    go_wp2_with fail
    go_quiet (fail)
    go_wp2_with fail
    go_ret
    exact ⟨rfl, (O2.out.1.drewN _).drewN _⟩
end Go.Proofs.Ytgncjgjkfmpegaa
