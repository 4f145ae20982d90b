/- bits.Reverse64, and masks.Run, Count, Next, Last, Turn. -/
import Derived.Test.YtpdnbkibnpkfbaaDoorMShelf
namespace Go.Proofs.YtpdnbkibnpkfbaaDoor
open Go.RowKit

/-- one stage, as the walk meets it -/
theorem stage (s m x : Nat) (S M : Int) (hS : S = ((2 ^ s : Nat) : Int)) (hM : M = (m : Int)) (hm : m < 2 ^ (64 - s)) (hs : s ≤ 64) (hx : x < 18446744073709551616) : ∃ p q y : Nat, bits .and .u64 ((x : Int) / S) M = (p : Int) ∧ bits .and .u64 (x : Int) M = (q : Int) ∧ q ≤ m ∧ bits .or .u64 (p : Int) ((q : Int) * S) = (y : Int) ∧ y = swp s m x ∧ y < 18446744073709551616 := by
  subst hS hM
  have hm64 : m < 18446744073709551616 := Nat.lt_of_lt_of_le hm (Nat.pow_le_pow_right (n := 2) (by decide) (show 64 - s ≤ 64 by omega))
  have hq : (x &&& m) * 2 ^ s < 18446744073709551616 := by
    have h1 : x &&& m ≤ m := Nat.and_le_right
    have h2 : (x &&& m) * 2 ^ s ≤ m * 2 ^ s := Nat.mul_le_mul_right _ h1
    have h3 : m * 2 ^ s < 2 ^ (64 - s) * 2 ^ s := Nat.mul_lt_mul_of_pos_right hm (Nat.two_pow_pos s)
    rw [← Nat.pow_add, Nat.sub_add_cancel hs] at h3
    omega
  have hp : x / 2 ^ s < 18446744073709551616 := Nat.lt_of_le_of_lt (Nat.div_le_self _ _) hx
  refine ⟨x / 2 ^ s &&& m, x &&& m, swp s m x, ?_, ?_, Nat.and_le_right, ?_, rfl, swp_lt _ _ _ hm64⟩
  · rw [← Int.natCast_ediv]; exact band _ _ hp hm64
  · exact band _ _ hx hm64
  · have e : ((x &&& m : Nat) : Int) * ((2 ^ s : Nat) : Int) = (((x &&& m) * 2 ^ s : Nat) : Int) := by simp
    rw [e, u64_or_nat _ _ (Nat.lt_of_le_of_lt Nat.and_le_right hm64) hq]
    unfold swp
    rw [Nat.mod_eq_of_lt (a := (x &&& m) * 2 ^ s) hq]

set_option maxHeartbeats 1000000 in
theorem revb_any (x : Nat) (hx : x < 18446744073709551616) (w : World) : Calls Tryd.prog 40 #[.int .u64 x] w fun e w' => e = .returned (.int .u64 ((swp 16 281470681808895 (swp 8 71777214294589695 x) / 2 ^ 32 ||| (swp 16 281470681808895 (swp 8 71777214294589695 x)) * 2 ^ 32 % 2 ^ 64 : Nat) : Int)) ∧ w = w' := by
  obtain ⟨p1, q1, y1, a1, b1, c1, d1, e1, f1⟩ := stage 8 71777214294589695 x 256 71777214294589695 (by decide) rfl (by decide) (by decide) hx
  obtain ⟨p2, q2, y2, a2, b2, c2, d2, e2, f2⟩ := stage 16 281470681808895 y1 65536 281470681808895 (by decide) rfl (by decide) (by decide) f1
  rw [← e1, ← e2]
  clear e1 e2
  have hor : bits .or .u64 ((y2 : Int) / 4294967296) ((y2 : Int) * 4294967296 % 18446744073709551616) = ((y2 / 2 ^ 32 ||| y2 * 2 ^ 32 % 2 ^ 64 : Nat) : Int) := by
    rw [show (y2 : Int) / 4294967296 = ((y2 / 2 ^ 32 : Nat) : Int) by omega, show (y2 : Int) * 4294967296 % 18446744073709551616 = ((y2 * 2 ^ 32 % 2 ^ 64 : Nat) : Int) by omega]
    exact u64_or_nat _ _ (by omega) (by omega)
  have HOR := Lib.hid hor
  clear hor
  go_enter Tryd.func40, Tryd.ntmps40
  go_wp2
  go_ret
  refine ⟨?_, rfl⟩
  rw [← HOR.out, ← IntKind.wrap_u64]
  rfl

set_option maxHeartbeats 1000000 in
theorem rev_any (x : Nat) (hx : x < 18446744073709551616) (w : World) : Calls Tryd.prog 38 #[.int .u64 x] w fun e w' => e = .returned (.int .u64 (rev x : Nat)) ∧ w = w' := by
  obtain ⟨p1, q1, y1, a1, b1, c1, d1, e1, f1⟩ := stage 1 6148914691236517205 x 2 6148914691236517205 (by decide) rfl (by decide) (by decide) hx
  obtain ⟨p2, q2, y2, a2, b2, c2, d2, e2, f2⟩ := stage 2 3689348814741910323 y1 4 3689348814741910323 (by decide) rfl (by decide) (by decide) f1
  obtain ⟨p3, q3, y3, a3, b3, c3, d3, e3, f3⟩ := stage 4 1085102592571150095 y2 16 1085102592571150095 (by decide) rfl (by decide) (by decide) f2
  have R := revb_any y3 f3
  have hr : rev x = (swp 16 281470681808895 (swp 8 71777214294589695 y3) / 2 ^ 32 ||| (swp 16 281470681808895 (swp 8 71777214294589695 y3)) * 2 ^ 32 % 2 ^ 64) := by unfold rev; rw [← e1, ← e2, ← e3]
  rw [← hr] at R
  have RR := Lib.hid R
  clear e1 e2 e3 hr R
  go_enter Tryd.func38, Tryd.ntmps38
  go_wp2_with (go_at_call 40; refine (RR.out _).mono ?_; rintro e w1 ⟨rfl, rfl⟩)
  go_ret
  exact ⟨rfl, rfl⟩

theorem turn_any (x : Nat) (hx : x < 18446744073709551616) (w : World) : Calls Tryd.prog 20 #[.int .u64 x] w fun e w' => e = .returned (.int .u64 (rev x : Nat)) ∧ w = w' := by
  go_enter Tryd.func20, Tryd.ntmps20
  go_wp2_with (go_at_call 38; refine (rev_any x hx _).mono ?_; rintro e w1 ⟨rfl, rfl⟩)
  go_ret
  exact ⟨rfl, rfl⟩

/-- an int brought to 0 .. 64 -/
def cl (i : Int) : Nat := (min (max i 0) 64).toNat

theorem cl_le (i : Int) : cl i ≤ 64 := by unfold cl; omega

theorem clamp_any (i : Int) (w : World) : Calls Tryd.prog 31 #[.int .i64 i] w fun e w' => e = .returned (.int .i64 (cl i)) ∧ w = w' := by
  go_enter Tryd.func31, Tryd.ntmps31
  go_wp2
  go_ret
  exact ⟨ret_int (by unfold cl; omega), rfl⟩

theorem low_val (n : Nat) (hn : n ≤ 64) : IntKind.u64.wrap (IntKind.u64.wrap (2 ^ n) - 1) = ((2 ^ n - 1 : Nat) : Int) := by
  have h1 : 1 ≤ 2 ^ n := Nat.one_le_two_pow
  have e : (2 : Int) ^ n = ((2 ^ n : Nat) : Int) := by simp
  rw [e, IntKind.wrap_u64, IntKind.wrap_u64]
  by_cases h : n = 64
  · subst h; decide
  · have h2 : 2 ^ n ≤ 2 ^ 63 := Nat.pow_le_pow_right (by decide) (by omega)
    generalize 2 ^ n = z at h1 h2
    omega

theorem low_any (n : Nat) (hn : n ≤ 64) (w : World) : Calls Tryd.prog 32 #[.int .i64 n] w fun e w' => e = .returned (.int .u64 ((2 ^ n - 1 : Nat) : Int)) ∧ w = w' := by
  go_enter Tryd.func32, Tryd.ntmps32
  go_wp2
  go_ret
  refine ⟨?_, rfl⟩
  rw [← low_val n hn]
  rfl

/-- the word of a range -/
def runN (f t : Int) : Nat := (2 ^ cl t - 1) &&& (18446744073709551615 - (2 ^ cl f - 1))

theorem p64 (n : Nat) (hn : n ≤ 64) : 2 ^ n - 1 < 18446744073709551616 := by
  have : 2 ^ n ≤ 2 ^ 64 := Nat.pow_le_pow_right (by decide) hn
  omega

theorem runN_lt (f t : Int) : runN f t < 18446744073709551616 := Nat.lt_of_le_of_lt Nat.and_le_left (p64 _ (cl_le t))

theorem runN_bit (f t : Int) (i : Nat) : (runN f t).testBit i = (decide (i < 64) && decide (f ≤ (i : Int) ∧ (i : Int) < t)) := by
  unfold runN
  have h1 : 1 ≤ 2 ^ cl f := Nat.one_le_two_pow
  have e : 18446744073709551615 - (2 ^ cl f - 1) = 2 ^ 64 - ((2 ^ cl f - 1) + 1) := by omega
  rw [Nat.testBit_and, Nat.testBit_two_pow_sub_one, e, Nat.testBit_two_pow_sub_succ (p64 _ (cl_le f)), Nat.testBit_two_pow_sub_one, Bool.eq_iff_iff]
  have := cl_le t
  simp only [Bool.and_eq_true, decide_eq_true_eq, Bool.not_eq_true', decide_eq_false_iff_not]
  unfold cl
  omega

theorem run_any (f t : Int) (w : World) : Calls Tryd.prog 9 #[.int .i64 f, .int .i64 t] w fun e w' => e = .returned (.int .u64 (runN f t)) ∧ w = w' := by
  have e : bits .andNot .u64 ((2 ^ cl t - 1 : Nat) : Int) ((2 ^ cl f - 1 : Nat) : Int) = (runN f t : Int) := u64_andNot_nat _ _ (p64 _ (cl_le t)) (p64 _ (cl_le f))
  have E := Lib.hid e
  clear e
  go_enter Tryd.func9, Tryd.ntmps9
  go_wp2_with (first | (go_at_call 31; refine (clamp_any _ _).mono ?_; rintro e1 w1 ⟨rfl, rfl⟩) | (go_at_call 32; refine (low_any _ (cl_le _) _).mono ?_; rintro e1 w1 ⟨rfl, rfl⟩))
  go_ret
  refine ⟨?_, rfl⟩
  rw [← E.out]
  rfl

end Go.Proofs.YtpdnbkibnpkfbaaDoor
