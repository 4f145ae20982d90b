/- The pool of frames (layer 7): the pool that nobody made. -/
import Derived.Test.YtpdnbkibnpkfbadSL
namespace Go.Proofs.Ytpdnbkibnpkfbad
open Go.ChangeShapes Go.WideShapes Go.ChangeAt Go.RowKit

theorem fn_check (i : Int) (w : World) : Calls Try.prog 41 #[.pointer none, .int .i64 i] w fun e w' => e = .returned (.int .i64 9) ∧ w = w' := by
  go_enter Try.func41, Try.ntmps41
  go_wp2
  go_ret
  exact ⟨rfl, rfl⟩

theorem fn_ckw (i : Int) (j : Int) (w : World) : Calls Try.prog 43 #[.pointer none, .int .i64 i, .int .i64 j] w fun e w' => e = .returned (.int .i64 9) ∧ w = w' := by
  go_enter Try.func43, Try.ntmps43
  go_wp2_with (go_at_call 41; refine (fn_check _ _).mono ?_; rintro e1 w1 ⟨rfl, rfl⟩)
  go_ret
  exact ⟨rfl, rfl⟩

theorem fn_take (w : World) : Calls Try.prog 11 #[.pointer none] w fun e w' => e = .returned (.tuple #[.int .i64 0, .int .i64 9]) ∧ w = w' := by
  go_enter Try.func11, Try.ntmps11
  go_wp2
  go_ret2
  exact ⟨rfl, rfl⟩

theorem fn_give (i : Int) (w : World) : Calls Try.prog 13 #[.pointer none, .int .i64 i] w fun e w' => e = .returned (.int .i64 9) ∧ w = w' := by
  go_enter Try.func13, Try.ntmps13
  go_wp2_with (go_at_call 41; refine (fn_check _ _).mono ?_; rintro e1 w1 ⟨rfl, rfl⟩)
  go_ret
  exact ⟨rfl, rfl⟩

theorem fn_load (i : Int) (j : Int) (w : World) : Calls Try.prog 17 #[.pointer none, .int .i64 i, .int .i64 j] w fun e w' => e = .returned (.tuple #[.int .u64 0, .int .i64 9]) ∧ w = w' := by
  go_enter Try.func17, Try.ntmps17
  go_wp2_with (go_at_call 43; refine (fn_ckw _ _ _).mono ?_; rintro e1 w1 ⟨rfl, rfl⟩)
  go_ret2
  exact ⟨rfl, rfl⟩

theorem fn_store (i : Int) (j : Int) (u : Int) (w : World) : Calls Try.prog 15 #[.pointer none, .int .i64 i, .int .i64 j, .int .u64 u] w fun e w' => e = .returned (.int .i64 9) ∧ w = w' := by
  go_enter Try.func15, Try.ntmps15
  go_wp2_with (go_at_call 43; refine (fn_ckw _ _ _).mono ?_; rintro e1 w1 ⟨rfl, rfl⟩)
  go_ret
  exact ⟨rfl, rfl⟩

theorem fn_page (w : World) : Calls Try.prog 23 #[.pointer none] w fun e w' => e = .returned (.int .i64 0) ∧ w = w' := by
  go_enter Try.func23, Try.ntmps23
  go_wp2
  go_ret
  exact ⟨rfl, rfl⟩

theorem fn_room (w : World) : Calls Try.prog 22 #[.pointer none] w fun e w' => e = .returned (.int .i64 0) ∧ w = w' := by
  go_enter Try.func22, Try.ntmps22
  go_wp2
  go_ret
  exact ⟨rfl, rfl⟩

theorem fn_used (w : World) : Calls Try.prog 19 #[.pointer none] w fun e w' => e = .returned (.int .i64 0) ∧ w = w' := by
  go_enter Try.func19, Try.ntmps19
  go_wp2
  go_ret
  exact ⟨rfl, rfl⟩

theorem fn_high (w : World) : Calls Try.prog 20 #[.pointer none] w fun e w' => e = .returned (.int .i64 0) ∧ w = w' := by
  go_enter Try.func20, Try.ntmps20
  go_wp2
  go_ret
  exact ⟨rfl, rfl⟩

theorem fn_taken (w : World) : Calls Try.prog 21 #[.pointer none] w fun e w' => e = .returned (.int .i64 0) ∧ w = w' := by
  go_enter Try.func21, Try.ntmps21
  go_wp2
  go_ret
  exact ⟨rfl, rfl⟩

theorem fnobody_core (i j u : Int) (w : World) (L : ∀ w, Calls Try.prog 8 #[] w fun e w' => e = .returned (.bool true) ∧ Below w.heap.size w w') :
    Calls Try.prog 5 #[.int .i64 i, .int .i64 j, .int .u64 u] w fun e w' => e = .returned (.bool true) ∧ Below w.heap.size w w' := by
  have LL := Lib.hid L
  clear L
  go_enter Try.func5, Try.ntmps5
  go_wp2_with (first | (go_at_call 11; refine (fn_take _).mono ?_; rintro e1 w1 ⟨rfl, rfl⟩) | (go_at_call 17; refine (fn_load _ _ _).mono ?_; rintro e1 w1 ⟨rfl, rfl⟩) | (go_at_call 13; refine (fn_give _ _).mono ?_; rintro e1 w1 ⟨rfl, rfl⟩) | (go_at_call 15; refine (fn_store _ _ _ _).mono ?_; rintro e1 w1 ⟨rfl, rfl⟩) | (go_at_call 23; refine (fn_page _).mono ?_; rintro e1 w1 ⟨rfl, rfl⟩) | (go_at_call 22; refine (fn_room _).mono ?_; rintro e1 w1 ⟨rfl, rfl⟩) | (go_at_call 19; refine (fn_used _).mono ?_; rintro e1 w1 ⟨rfl, rfl⟩) | (go_at_call 20; refine (fn_high _).mono ?_; rintro e1 w1 ⟨rfl, rfl⟩) | (go_at_call 21; refine (fn_taken _).mono ?_; rintro e1 w1 ⟨rfl, rfl⟩) | (go_at_call 8; refine (LL.out _).mono ?_; rintro e1 w1 ⟨rfl, hb⟩))
  go_ret
  exact ⟨rfl, hb⟩

end Go.Proofs.Ytpdnbkibnpkfbad
