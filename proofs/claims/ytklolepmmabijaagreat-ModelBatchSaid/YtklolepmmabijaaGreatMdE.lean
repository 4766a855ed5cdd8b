/-
  step.
-/
import Derived.Test.YtklolepmmabijaaGreatMdC
namespace Go.Proofs.YtklolepmmabijaaGreat
set_option maxRecDepth 100000
open Go.RowKit
set_option linter.unusedVariables false
set_option linter.unusedSimpArgs false
set_option maxRecDepth 100000

theorem Mc.fin {w W : World} {b c : Nat} {M' : Md} {O P : List Nat} {v v2 : Value} {ps : List Pk} (h : Mc w b c M' O P v v2 ps W) : Mfin w b c M' O P W := by
  obtain ⟨O', P', h1, h2, _⟩ := h
  exact ⟨O', P', h1, h2⟩
theorem todo_len (M : Md) (c : Cl) : (M.todo c).2.ps.length ≤ 16 := by
  unfold Md.todo
  split
  · simp [Rt.code]
  · split
    · simp [Rt.code]
    · split
      · split <;> simp [Rt.code]
      · split
        · exact Nat.le_trans M.oneR_len (by decide)
        · split
          · split
            · rename_i h; exact Nat.le_trans (M.bat_len _) (by omega)
            · simp [Rt.code]
          · split <;> simp [Rt.code]
set_option maxHeartbeats 1000000 in
theorem mStep (w : World) (b c : Nat) (M : Md) (O P : List Nat) (h : Mq w b c M O P) (cl : Cl) (hc : cl.ok) (k j : Nat) (hM : M.ok k j) (hk : k < 1000) (hj : j + 16 ≤ 1000000) :
    Calls Tryz.prog 11 #[.pointer (some ⟨b, 0, none⟩), .pointer (some ⟨c, 0, none⟩), .agg #[.int .i64 cl.op, .int .i64 cl.f, .int .i64 cl.a, .int .i64 cl.b]] w fun e w' => e = .returned (.bool true) ∧ Mfin w b c (M.todo cl).1 O P w' := by
  have oA : Only [] w (w.alloc (.cells #[.int .i64 cl.op, .int .i64 cl.f, .int .i64 cl.a, .int .i64 cl.b] 33)) := (Only.refl [] w).alloc _
  have bA := CBox.new w cl
  have hlen := todo_len M cl
  have hlt := h.lt
  have kD := Lib.hid (fun W (hW : MdOf b M W O) => mDo W b M O hW cl hc k j hM hk hj)
  have kN := Lib.hid (fun W (hW : NdOf c M W P) => nDo W c M P hW cl hc k j hM hk hj)
  have hq : Hid (Mq (w.alloc (.cells #[.int .i64 cl.op, .int .i64 cl.f, .int .i64 cl.a, .int .i64 cl.b] 33)).drew b c M O P) := h.only0 oA.drew
  obtain ⟨x0, x1, x2, x3⟩ := bA.c
  have HW := Lib.hid (And.intro oA.drew (And.intro bA hlt))
  unfold Told at kD kN
  generalize (M.todo cl).1 = M' at *
  generalize (M.todo cl).2 = r at *
  clear h hM hc hk hj oA bA hlt
  go_enter Tryz.func11, Tryz.ntmps11
  go_wp2_with fail
  generalize w.alloc (.cells #[.int .i64 cl.op, .int .i64 cl.f, .int .i64 cl.a, .int .i64 cl.b] 33) = W at *
  obtain ⟨N, eN⟩ : ∃ N, w.heap.size = N := ⟨_, rfl⟩
  rw [eN] at x0 x1 x2 x3 HW ⊢
  have HN := Lib.hid eN
  clear eN
  have cells : Hid (∀ V, CBox V N cl → V.cell? ⟨N, 0, none⟩ = some (.int .i64 cl.op) ∧ V.cell? ⟨N, 1, none⟩ = some (.int .i64 cl.f) ∧ V.cell? ⟨N, 2, none⟩ = some (.int .i64 cl.a) ∧ V.cell? ⟨N, 3, none⟩ = some (.int .i64 cl.b)) := fun V hV => hV.c
  go_region_held3 (fun w' => w'.cell? ⟨N, 0, none⟩ = some (.int .i64 cl.op) ∧ w'.cell? ⟨N, 1, none⟩ = some (.int .i64 cl.f) ∧ w'.cell? ⟨N, 2, none⟩ = some (.int .i64 cl.a) ∧ w'.cell? ⟨N, 3, none⟩ = some (.int .i64 cl.b))
    (first | (exact cells.out _ bx.out) | (exact cells.out _ HW.out.2.1) | go_keep)
    (first
      | (go_at_call 20
         refine (kD.out _ hq.out.fl).mono ?_
         rintro e u ⟨A1, c1, rfl, t1⟩
         have m1 := hq.out.ours (N := N) (cl := cl) HW.out.1 HW.out.2.1 (fun hk => by have := HW.out.2.2 N (by simp [hk]); have := HN.out; omega) t1
         have bx : Hid (CBox u N cl) := by obtain ⟨_, q, _⟩ := m1; exact q
         have M1 := Lib.hid m1
         clear t1 m1)
      | (go_at_call 22
         refine (kN.out _ M1.out.rf).mono ?_
         rintro e u2 ⟨A2, c2, rfl, t2⟩
         have M2 := Lib.hid (M1.out.theirs (fun k hk => by rw [HN.out]; exact HW.out.2.2 k (by simp [hk])) t2)
         have bx : Hid (CBox u2 N cl) := by
           obtain ⟨P', _, g, _⟩ := t2
           exact bx.out.only g.1 (fun hk => by have := HW.out.2.2 N (by simp [hk]); omega)
         clear t2)
      | (go_at_call 21
         refine (hRet _ r A1 A2 c1 c2 (by obtain ⟨_, _, _, _, q, _⟩ := M2.out; exact q) (by obtain ⟨_, _, _, _, _, q, _⟩ := M2.out; exact q) (by omega)).mono ?_
         rintro e u3 ⟨rfl, o3⟩
         have M3 := Lib.hid (M2.out.on o3).fin
         have bx := Lib.hid (bx.out.only0 o3)
         clear o3))
  all_goals
    go_wp2_with fail
    go_ret
    exact ⟨rfl, M3.out⟩
end Go.Proofs.YtklolepmmabijaaGreat
