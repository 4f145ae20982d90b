/- RootsNobody: a table that nobody made. -/
import Derived.Test.YtpdnbkibnpkfbadRtB
namespace Go.Proofs.Ytpdnbkibnpkfbad
open Go.ChangeShapes Go.WideShapes Go.ChangeAt Go.RowKit

theorem rlives (w : World) : Calls Try.prog 25 #[] w fun e w' => e = .returned (.bool true) ∧ Below w.heap.size w w' := by
  go_enter Try.func25, Try.ntmps25
  go_wp2_with fail
  refine (new_ok 2 (by omega) (by omega) _).mono ?_
  rintro e w1 ⟨c, b, rfl, r1, hb, hc, f1⟩
  go_wp2_with fail
  refine (set_in r1 1 (by omega) 9 (by omega)).mono ?_
  rintro e w2 ⟨rfl, r2, f2⟩
  go_wp2_with fail
  refine (copy_in r2 0 1 (by omega) (by omega) (by simp [put])).mono ?_
  rintro e w3 ⟨rfl, r3, f3⟩
  have ge := get_in r3 0 (by omega)
  rw [show put (put (fun _ => 0) 1 9) 0 (put (fun _ => 0) 1 9 1) 0 = 9 by simp [put]] at ge
  have GE := Lib.hid ge
  clear ge
  have FF : Hid (∀ m, Below w.heap.size w (w3.drewN m)) := fun m => by
    have g : Fr (fun k => k = b) w w3 := ((f1.mono (T := fun k => k = b) (fun _ h => h.elim)).trans f2 (fun _ _ h => h)).trans f3 (fun _ _ h => h)
    exact (g.drewN m).below (Nat.le_refl _) (fun k hk e => by omega)
  clear r1 r2 r3 f1 f2 f3
  go_wp2_with (go_at_call 33; refine (GE.out).mono ?_; rintro e1 w1 ⟨rfl, m1, rfl⟩)
  go_ret
  exact ⟨rfl, FF.out _⟩

theorem run_eql_func (w : World) (k : Nat) (x y : Array Value) : (binOp BinOp.eql 39 (Value.func (Fn.func k) x y) Value.nilFunc).run Try.prog w = .ok (.bool false) w := by
  have hu : ∀ w, (underlying 39).run Try.prog w = .ok (.func #[3] #[3] false) w := run_underlying (by kernel_rfl)
  have h : ∀ d : Nat, (Op.equalIn (d + 1) 39 (.func (.func k) x y) .nilFunc).run Try.prog w = .ok false w := fun d => by
    simp [Op.equalIn, hu]
  simp only [binOp]
  simp [Op.equal, Op.maxDepth, h 9999]

theorem nil_turn (k : Nat) (x y : Array Value) (w : World) : Calls Try.prog 30 #[.pointer none, .func (.func k) x y] w fun e w' => e = .returned (.tuple #[]) ∧ w = w' := by
  go_enter Try.func30, Try.ntmps30
  go_wp2_with (go_at_call 37; refine (nil_len _).mono ?_; rintro e1 w1 ⟨rfl, rfl⟩)
  simp only [run_eql_func]
  go_wp2_with (go_at_call 37; refine (nil_len _).mono ?_; rintro e1 w1 ⟨rfl, rfl⟩)
  refine wp_loop_rounds 1 ?_
  rw [rounds_succ]; go_wp2
  (try simp only [Exit.inBlock, Exit.then]); refine bodyPost_end (results_none rfl _ _ _) rfl ?_
  exact ⟨rfl, rfl⟩

theorem nobody_any (i a : Int) (w : World) : Calls Try.prog 7 #[.int .i64 i, .int .i64 a] w fun e w' => e = .returned (.bool true) ∧ Below w.heap.size w w' := by
  go_enter Try.func7, Try.ntmps7
  go_wp2_with (first | (go_at_call 33; refine (nil_get _ _).mono ?_; rintro e1 w1 ⟨rfl, rfl⟩) | (go_at_call 26; refine (nil_set _ _ _).mono ?_; rintro e1 w1 ⟨rfl, rfl⟩) | (go_at_call 28; refine (nil_copy _ _ _).mono ?_; rintro e1 w1 ⟨rfl, rfl⟩) | (go_at_call 37; refine (nil_len _).mono ?_; rintro e1 w1 ⟨rfl, rfl⟩) | (go_at_call 35; refine (nil_all _).mono ?_; rintro e1 w1 ⟨rfl, rfl⟩) | (go_at_call 30; refine (nil_turn _ _ _ _).mono ?_; rintro e1 w1 ⟨rfl, rfl⟩))
  refine (rlives _).mono ?_
  rintro e w1 ⟨rfl, hb⟩
  go_wp2
  go_ret
  exact ⟨rfl, Below.step ((Below.refl _ w).alloc (Nat.le_refl _) _) hb (by simp)⟩
end Go.Proofs.Ytpdnbkibnpkfbad
