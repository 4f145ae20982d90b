/- The laws of layer 1 walked. -/
import Derived.Test.YtpdnbkibnpkfbaaDoorMPow
namespace Go.Proofs.YtpdnbkibnpkfbaaDoor
open Go.RowKit

theorem pick_ex (x : Nat) (k : Int) : ∃ r, isPick x k r := by
  by_cases hk : k < 0
  · exact ⟨64, .inl ⟨.inl hk, rfl⟩⟩
  · by_cases hk2 : (cp x.testBit 64 : Int) ≤ k
    · exact ⟨64, .inl ⟨.inr hk2, rfl⟩⟩
    · obtain ⟨i, h1, h2, h3⟩ := cp_onto x.testBit 64 k.toNat (by omega)
      exact ⟨i, .inr ⟨h1, h2, by omega⟩⟩

noncomputable def pickV (x : Nat) (k : Int) : Nat := (pick_ex x k).choose
theorem pickV_is (x : Nat) (k : Int) : isPick x k (pickV x k) := (pick_ex x k).choose_spec

theorem pick_at (x : Nat) (hx : x < 18446744073709551616) (k : Int) (w : World) : Calls Tryd.prog 18 #[.int .u64 x, .int .i64 k] w fun e w' => e = .returned (.int .i64 (pickV x k)) ∧ w = w' :=
  (pick_any x hx k w).mono fun _ _ ⟨_, h, he, hw⟩ => ⟨by rw [he, isPick_unique h (pickV_is x k)], hw⟩
theorem rpick_at (x : Nat) (hx : x < 18446744073709551616) (k : Int) (w : World) : Calls Tryd.prog 19 #[.int .u64 x, .int .i64 k] w fun e w' => e = .returned (.int .i64 (pickV x k)) ∧ w = w' :=
  (rpick_any x hx k w).mono fun _ _ ⟨_, h, he, hw⟩ => ⟨by rw [he, isPick_unique h (pickV_is x k)], hw⟩

theorem rcount_at (x : Nat) (hx : x < 18446744073709551616) (f t : Int) (w : World) : Calls Tryd.prog 12 #[.int .u64 x, .int .i64 f, .int .i64 t] w fun e w' => e = .returned (.int .i64 (cnt (x &&& runN f t) 64)) ∧ w = w' := by
  rw [cnt_run x f t 64 (Nat.le_refl _)]
  exact rcount_any x hx f t w

theorem lives_any (w : World) (hT : Tab w) : Calls Tryd.prog 17 #[] w fun e w' => e = .returned (.bool true) ∧ w = w' := by
  have a1 := fun w => pack_any 11 6 (by decide) (by decide) w
  rw [show packN 11 6 64 = 1 by decide +kernel] at a1
  have a2 := fun w => spread_any 3 10 (by decide) (by decide) w
  rw [show spreadN 3 10 64 = 10 by decide +kernel] at a2
  have a3 := fun w => pick_at 10 (by decide) 1 w
  rw [isPick_unique (pickV_is 10 1) (show isPick 10 1 3 from .inr ⟨by decide, by decide, by decide +kernel⟩)] at a3
  have a4 := next_any 0 (by decide) 0 w hT
  rw [show Lib.ctz 64 (0 &&& runN 0 64) = 64 by rw [Nat.zero_and]; rfl] at a4
  have A1 := Lib.hid a1
  have A2 := Lib.hid a2
  have A3 := Lib.hid a3
  have A4 := Lib.hid a4
  clear a1 a2 a3 a4
  go_enter Tryd.func17, Tryd.ntmps17
  go_wp2_with (first | (go_at_call 22; refine (A1.out _).mono ?_; rintro e1 w1 ⟨rfl, rfl⟩) | (go_at_call 24; refine (A2.out _).mono ?_; rintro e1 w1 ⟨rfl, rfl⟩) | (go_at_call 18; refine (A3.out _).mono ?_; rintro e1 w1 ⟨rfl, rfl⟩) | (go_at_call 13; refine (A4.out).mono ?_; rintro e1 w1 ⟨rfl, rfl⟩))
  go_ret
  exact ⟨rfl, rfl⟩

theorem runs_any (x : Nat) (hx : x < 18446744073709551616) (f t : Int) (w : World) (hT : Tab w) : Calls Tryd.prog 3 #[.int .u64 x, .int .i64 f, .int .i64 t] w fun e w' => e = .returned (.bool true) ∧ w = w' := by
  go_enter Tryd.func3, Tryd.ntmps3
  go_wp2_with (first | (go_at_call 9; refine (run_any _ _ _).mono ?_; rintro e1 w1 ⟨rfl, rfl⟩) | (go_at_call 10; refine (rrun_any _ _ _).mono ?_; rintro e1 w1 ⟨rfl, rfl⟩) | (go_at_call 11; refine (count_any x hx _ _ _).mono ?_; rintro e1 w1 ⟨rfl, rfl⟩) | (go_at_call 12; refine (rcount_at x hx _ _ _).mono ?_; rintro e1 w1 ⟨rfl, rfl⟩) | (go_at_call 13; refine (next_any x hx _ _ hT).mono ?_; rintro e1 w1 ⟨rfl, rfl⟩) | (go_at_call 14; refine (rnext_any x hx _ _).mono ?_; rintro e1 w1 ⟨rfl, rfl⟩) | (go_at_call 15; refine (last_any x hx _ _).mono ?_; rintro e1 w1 ⟨rfl, rfl⟩) | (go_at_call 16; refine (rlast_any x hx _ _).mono ?_; rintro e1 w1 ⟨rfl, rfl⟩) | (go_at_call 17; refine (lives_any _ hT).mono ?_; rintro e1 w1 ⟨rfl, rfl⟩))
  go_ret
  exact ⟨rfl, rfl⟩

theorem picks_any (x : Nat) (hx : x < 18446744073709551616) (k : Int) (w : World) (hT : Tab w) : Calls Tryd.prog 4 #[.int .u64 x, .int .i64 k] w fun e w' => e = .returned (.bool true) ∧ w = w' := by
  have tt := fun w => turn_any (rev x) (rev_lt x) w
  rw [rev_rev x hx] at tt
  have TT := Lib.hid tt
  clear tt
  go_enter Tryd.func4, Tryd.ntmps4
  go_wp2_with (first | (go_at_call 18; refine (pick_at x hx _ _).mono ?_; rintro e1 w1 ⟨rfl, rfl⟩) | (go_at_call 19; refine (rpick_at x hx _ _).mono ?_; rintro e1 w1 ⟨rfl, rfl⟩) | (go_at_call 20; (first | with_reducible refine (TT.out _).mono ?_ | with_reducible refine (turn_any x hx _).mono ?_); rintro e1 w1 ⟨rfl, rfl⟩) | (go_at_call 21; refine (rturn_any x hx _).mono ?_; rintro e1 w1 ⟨rfl, rfl⟩) | (go_at_call 17; refine (lives_any _ hT).mono ?_; rintro e1 w1 ⟨rfl, rfl⟩))
  go_ret
  exact ⟨rfl, rfl⟩

theorem packs_any (x : Nat) (hx : x < 18446744073709551616) (m : Nat) (hm : m < 18446744073709551616) (w : World) (hT : Tab w) : Calls Tryd.prog 5 #[.int .u64 x, .int .u64 m] w fun e w' => e = .returned (.bool true) ∧ w = w' := by
  go_enter Tryd.func5, Tryd.ntmps5
  go_wp2_with (first | (go_at_call 22; refine (pack_any x m hx hm _).mono ?_; rintro e1 w1 ⟨rfl, rfl⟩) | (go_at_call 23; refine (rpack_any x m hx hm _).mono ?_; rintro e1 w1 ⟨rfl, rfl⟩) | (go_at_call 24; refine (spread_any x m hx hm _).mono ?_; rintro e1 w1 ⟨rfl, rfl⟩) | (go_at_call 25; refine (rspread_any x m hx hm _).mono ?_; rintro e1 w1 ⟨rfl, rfl⟩) | (go_at_call 17; refine (lives_any _ hT).mono ?_; rintro e1 w1 ⟨rfl, rfl⟩))
  go_ret
  exact ⟨rfl, rfl⟩

theorem runN_all (t : Nat) (ht : t ≤ 64) : runN 0 t = 2 ^ t - 1 := by
  refine eq_bits _ _ (runN_lt 0 t) (p64 t ht) fun j hj => ?_
  rw [runN_bit, Nat.testBit_two_pow_sub_one, decide_eq_true hj, Bool.true_and, Bool.eq_iff_iff, decide_eq_true_iff, decide_eq_true_iff]; omega

theorem cnt_all (m : Nat) (hm : m < 18446744073709551616) : cnt (m &&& runN 0 64) 64 = cp m.testBit 64 := by
  have := cnt_part m 0 64 (by omega) (by omega)
  rw [cp] at this
  exact this

theorem rounds_any (n u : Int) (h0 : -9223372036854775808 ≤ n) (h1 : n ≤ 9223372036854775807) (g0 : -9223372036854775808 ≤ u) (g1 : u ≤ 9223372036854775807) (w : World) (hT : Tab w) : Calls Tryd.prog 8 #[.int .i64 n, .int .i64 u] w fun e w' => e = .returned (.bool true) ∧ w = w' := by
  have rt := fun w => rround_any n u true g0 g1 w
  have rf := fun w => rround_any n u false g0 g1 w
  simp only [if_true, if_false, Bool.false_eq_true] at rt rf
  have RT := Lib.hid rt
  have RF := Lib.hid rf
  clear rt rf
  go_enter Tryd.func8, Tryd.ntmps8
  go_wp2_with (first | (go_at_call 26; refine (power_any n h0 h1 _).mono ?_; rintro e1 w1 ⟨rfl, rfl⟩) | (go_at_call 27; refine (rpower_any n h1 _).mono ?_; rintro e1 w1 ⟨rfl, rfl⟩) | (go_at_call 28; refine (up_any n u g0 g1 _).mono ?_; rintro e1 w1 ⟨rfl, rfl⟩) | (go_at_call 30; refine (down_any n u g0 g1 _).mono ?_; rintro e1 w1 ⟨rfl, rfl⟩) | (go_at_call 29; (first | with_reducible refine (RT.out _).mono ?_ | with_reducible refine (RF.out _).mono ?_); rintro e1 w1 ⟨rfl, rfl⟩) | (go_at_call 17; refine (lives_any _ hT).mono ?_; rintro e1 w1 ⟨rfl, rfl⟩))
  go_ret
  exact ⟨rfl, rfl⟩

end Go.Proofs.YtpdnbkibnpkfbaaDoor
