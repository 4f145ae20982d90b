/- Layer 8's example, and PagesNobody. -/
import Derived.Test.YtpdnbkibnpkfbacPgC
namespace Go.Proofs.Ytpdnbkibnpkfbac
open Go.ChangeShapes Go.WideShapes Go.ChangeAt Go.RowKit

theorem plives (w : World) : Calls Try.prog 21 #[] w fun e w' => e = .returned (.bool true) ∧ Below w.heap.size w w' := by
  go_enter Try.func21, Try.ntmps21
  go_wp2_with fail
  refine (q_new _).mono ?_
  rintro e w1 ⟨c, b, rfl, pm, hb, hc, f1⟩
  have PU := Lib.hid (q_put pm 3 7 (by omega) (by omega))
  clear pm
  go_wp2_with fail
  refine (PU.out).mono ?_
  rintro e w2 ⟨rfl, T, pm2, tr2, t1, t2, t3, f2⟩
  have MV := Lib.hid (q_move 3 5 7 (by omega) (by omega) (by omega) (by omega) pm2 tr2 t1 t2)
  clear pm2 tr2 PU
  go_wp2_with fail
  refine (MV.out).mono ?_
  rintro e w4 ⟨rfl, w3, ⟨T2, pm4, tr4, s1, s2, s3, f4⟩, f3⟩
  have F5 : Calls Try.prog 28 #[.pointer (some ⟨c, 0, none⟩), .int .i64 5] w4 fun e w' => e = .returned (.tuple #[.int .i64 7, .int .i64 0]) ∧ w4 = w' :=
    (q_frame pm4 tr4 5 (by omega) (by simp) (by simp)).mono fun _ _ ⟨h1, h2⟩ => ⟨by rw [h1]; rfl, h2⟩
  have F3 : Calls Try.prog 28 #[.pointer (some ⟨c, 0, none⟩), .int .i64 3] w4 fun e w' => e = .returned (.tuple #[.int .i64 0, .int .i64 12]) ∧ w4 = w' := q_frame_none pm4 tr4 3 (by omega) (by simp)
  have F5H := Lib.hid F5
  have F3H := Lib.hid F3
  have LN := Lib.hid (q_len pm4)
  have sz1 := f1.size
  have BE : Hid (Below w.heap.size w w4) := by
    have g2 : Fr (fun k => w.heap.size ≤ k) w w2 := (f1.mono (T := fun k => w.heap.size ≤ k) (fun _ h => h.elim)).trans f2 (fun q _ h => by rcases h with h | h <;> omega)
    have g3 : Fr (fun k => w.heap.size ≤ k) w w3 := g2.trans f3 (fun q _ h => by rcases h with h | h | h <;> omega)
    have g4 : Fr (fun k => w.heap.size ≤ k) w w4 := g3.trans f4 (fun q _ h => by rcases h with h | h <;> omega)
    exact g4.below (Nat.le_refl _) (fun k hk h => by omega)
  clear pm4 tr4 MV F5 F3 f1 f2 f3 f4
  go_wp2_with (first | (go_at_call 28; (first | with_reducible refine (F5H.out).mono ?_ | with_reducible refine (F3H.out).mono ?_); rintro e1 w1 ⟨rfl, rfl⟩) | (go_at_call 34; refine (LN.out).mono ?_; rintro e1 w1 ⟨rfl, rfl⟩))
  go_ret
  exact ⟨rfl, BE.out⟩

theorem pnobody_any (p q : Int) (w : World) : Calls Try.prog 8 #[.int .i64 p, .int .i64 q] w fun e w' => e = .returned (.bool true) ∧ Below w.heap.size w w' := nobody_core p q w plives

end Go.Proofs.Ytpdnbkibnpkfbac
