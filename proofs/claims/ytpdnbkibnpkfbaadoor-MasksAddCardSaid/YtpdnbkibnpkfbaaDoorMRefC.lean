/- The reference of layer 1: Pack, Spread, Turn. -/
import Derived.Test.YtpdnbkibnpkfbaaDoorMRefB
namespace Go.Proofs.YtpdnbkibnpkfbaaDoor
open Go.RowKit

set_option maxHeartbeats 2000000 in
theorem rpack_any (x m : Nat) (hx : x < 18446744073709551616) (hm : m < 18446744073709551616) (w : World) : Calls Tryd.prog 23 #[.int .u64 x, .int .u64 m] w fun e w' => e = .returned (.int .u64 (packN x m 64)) ∧ w = w' := by
  go_enter Tryd.func23, Tryd.ntmps23
  go_wp2
  go_loopw [5, 6, 7] (fun p k i wr => ∃ n : Nat, n ≤ 64 ∧ i = .int .i64 n ∧ k = .int .i64 (cp m.testBit n : Nat) ∧ p = .int .u64 (packN x m n : Nat) ∧ w = wr) (fun _ _ i _ => 64 - (intOf i).toNat)
  case atStart => exact ⟨0, by omega, rfl, rfl, rfl, rfl⟩
  case round =>
    obtain ⟨n, hn, rfl, rfl, rfl, rfl⟩ := hrel
    by_cases hlt : n < 64
    · have hc := cp_le m.testBit n
      have hp := packN_lt x m n hn
      have im := fun w => in_any m hm n hlt w
      have ix := fun w => in_any x hx n hlt w
      have wa := fun w => with_any (packN x m n) hp (cp m.testBit n) (by omega) w
      have s1 : packN x m (n + 1) = if m.testBit n then packN x m n ||| (x.testBit n).toNat * 2 ^ cp m.testBit n else packN x m n := rfl
      have s2 : cp m.testBit (n + 1) = cp m.testBit n + (m.testBit n).toNat := rfl
      have IX := Lib.hid ix
      have WA := Lib.hid wa
      clear ix wa
      cases hmn : m.testBit n with
      | true =>
        rw [hmn] at im s1 s2
        have IM := Lib.hid im
        clear im
        rw [if_pos rfl] at s1
        rw [Bool.toNat_true] at s2
        cases hxn : x.testBit n with
        | true =>
          rw [hxn, Bool.toNat_true, Nat.one_mul] at s1
          have ix := IX.out
          rw [hxn] at ix
          have IX2 := Lib.hid ix
          clear ix IX
          have s3 := congrArg (fun z : Nat => Value.int .u64 (z : Int)) s1
          have S3 := Lib.hid s3
          clear s1 s3
          go_wp2_with (first | (go_at_call 35; (first | (with_reducible refine (IM.out _).mono ?_) | (with_reducible refine (IX2.out _).mono ?_)); rintro e1 w1 ⟨rfl, rfl⟩) | (go_at_call 33; refine (WA.out _).mono ?_; rintro e1 w1 ⟨rfl, rfl⟩))
          case roundEnd => exact ⟨⟨n + 1, by omega, by go_num, by rw [s2]; go_num, S3.out.symm, trivial⟩, by simp [intOf]; omega⟩
        | false =>
          rw [hxn, Bool.toNat_false, Nat.zero_mul, Nat.or_zero] at s1
          have ix := IX.out
          rw [hxn] at ix
          have IX2 := Lib.hid ix
          clear ix IX
          have s3 := congrArg (fun z : Nat => Value.int .u64 (z : Int)) s1
          have S3 := Lib.hid s3
          clear s1 s3
          go_wp2_with (first | (go_at_call 35; (first | (with_reducible refine (IM.out _).mono ?_) | (with_reducible refine (IX2.out _).mono ?_)); rintro e1 w1 ⟨rfl, rfl⟩) | (go_at_call 33; refine (WA.out _).mono ?_; rintro e1 w1 ⟨rfl, rfl⟩))
          case roundEnd => exact ⟨⟨n + 1, by omega, by go_num, by rw [s2]; go_num, S3.out.symm, trivial⟩, by simp [intOf]; omega⟩
      | false =>
        rw [hmn] at im s1 s2
        have IM := Lib.hid im
        clear im
        rw [if_neg (by simp)] at s1
        rw [Bool.toNat_false] at s2
        have s3 := congrArg (fun z : Nat => Value.int .u64 (z : Int)) s1
        have S3 := Lib.hid s3
        clear s1 s3
        go_wp2_with (go_at_call 35; refine (IM.out _).mono ?_; rintro e1 w1 ⟨rfl, rfl⟩)
        case roundEnd => exact ⟨⟨n + 1, by omega, by go_num, by rw [s2]; go_num, S3.out.symm, trivial⟩, by simp [intOf]; omega⟩
    · obtain rfl : n = 64 := by omega
      go_wp2
      go_ret
      exact ⟨rfl, rfl⟩

set_option maxHeartbeats 2000000 in
theorem rspread_any (x m : Nat) (hx : x < 18446744073709551616) (hm : m < 18446744073709551616) (w : World) : Calls Tryd.prog 25 #[.int .u64 x, .int .u64 m] w fun e w' => e = .returned (.int .u64 (spreadN x m 64)) ∧ w = w' := by
  go_enter Tryd.func25, Tryd.ntmps25
  go_wp2
  go_loopw [5, 6, 7] (fun p k i wr => ∃ n : Nat, n ≤ 64 ∧ i = .int .i64 n ∧ k = .int .i64 (cp m.testBit n : Nat) ∧ p = .int .u64 (spreadN x m n : Nat) ∧ w = wr) (fun _ _ i _ => 64 - (intOf i).toNat)
  case atStart => exact ⟨0, by omega, rfl, rfl, rfl, rfl⟩
  case round =>
    obtain ⟨n, hn, rfl, rfl, rfl, rfl⟩ := hrel
    by_cases hlt : n < 64
    · have hc := cp_le m.testBit n
      have hp := spreadN_lt x m n hn
      have im := fun w => in_any m hm n hlt w
      have ix := fun w => in_any x hx (cp m.testBit n) (by omega) w
      have wa := fun w => with_any (spreadN x m n) hp n hlt w
      have s1 : spreadN x m (n + 1) = if m.testBit n then spreadN x m n ||| (x.testBit (cp m.testBit n)).toNat * 2 ^ n else spreadN x m n := rfl
      have s2 : cp m.testBit (n + 1) = cp m.testBit n + (m.testBit n).toNat := rfl
      have IX := Lib.hid ix
      have WA := Lib.hid wa
      clear ix wa
      cases hmn : m.testBit n with
      | true =>
        rw [hmn] at im s1 s2
        have IM := Lib.hid im
        clear im
        rw [if_pos rfl] at s1
        rw [Bool.toNat_true] at s2
        cases hxn : x.testBit (cp m.testBit n) with
        | true =>
          rw [hxn, Bool.toNat_true, Nat.one_mul] at s1
          have ix := IX.out
          rw [hxn] at ix
          have IX2 := Lib.hid ix
          clear ix IX
          have s3 := congrArg (fun z : Nat => Value.int .u64 (z : Int)) s1
          have S3 := Lib.hid s3
          clear s1 s3
          go_wp2_with (first | (go_at_call 35; (first | (with_reducible refine (IM.out _).mono ?_) | (with_reducible refine (IX2.out _).mono ?_)); rintro e1 w1 ⟨rfl, rfl⟩) | (go_at_call 33; refine (WA.out _).mono ?_; rintro e1 w1 ⟨rfl, rfl⟩))
          case roundEnd => exact ⟨⟨n + 1, by omega, by go_num, by rw [s2]; go_num, S3.out.symm, trivial⟩, by simp [intOf]; omega⟩
        | false =>
          rw [hxn, Bool.toNat_false, Nat.zero_mul, Nat.or_zero] at s1
          have ix := IX.out
          rw [hxn] at ix
          have IX2 := Lib.hid ix
          clear ix IX
          have s3 := congrArg (fun z : Nat => Value.int .u64 (z : Int)) s1
          have S3 := Lib.hid s3
          clear s1 s3
          go_wp2_with (first | (go_at_call 35; (first | (with_reducible refine (IM.out _).mono ?_) | (with_reducible refine (IX2.out _).mono ?_)); rintro e1 w1 ⟨rfl, rfl⟩) | (go_at_call 33; refine (WA.out _).mono ?_; rintro e1 w1 ⟨rfl, rfl⟩))
          case roundEnd => exact ⟨⟨n + 1, by omega, by go_num, by rw [s2]; go_num, S3.out.symm, trivial⟩, by simp [intOf]; omega⟩
      | false =>
        rw [hmn] at im s1 s2
        have IM := Lib.hid im
        clear im
        rw [if_neg (by simp)] at s1
        rw [Bool.toNat_false] at s2
        have s3 := congrArg (fun z : Nat => Value.int .u64 (z : Int)) s1
        have S3 := Lib.hid s3
        clear s1 s3
        go_wp2_with (go_at_call 35; refine (IM.out _).mono ?_; rintro e1 w1 ⟨rfl, rfl⟩)
        case roundEnd => exact ⟨⟨n + 1, by omega, by go_num, by rw [s2]; go_num, S3.out.symm, trivial⟩, by simp [intOf]; omega⟩
    · obtain rfl : n = 64 := by omega
      go_wp2
      go_ret
      exact ⟨rfl, rfl⟩

/-- a word turned round, after n numbers -/
def turnN (x : Nat) : Nat → Nat | 0 => 0 | n + 1 => if x.testBit n then turnN x n ||| 2 ^ (63 - n) else turnN x n

theorem turnN_lt (x : Nat) : ∀ n, n ≤ 64 → turnN x n < 18446744073709551616
  | 0, _ => by simp [turnN]
  | n + 1, h => by
    rw [turnN]; split
    · exact Nat.or_lt_two_pow (n := 64) (turnN_lt x n (by omega)) (Nat.pow_lt_pow_right (by decide) (by omega))
    · exact turnN_lt x n (by omega)

theorem turnN_bit (x j : Nat) (hj : j < 64) : ∀ n, n ≤ 64 → (turnN x n).testBit j = (decide (63 - j < n) && x.testBit (63 - j))
  | 0, _ => by simp [turnN]
  | n + 1, hn => by
    rw [turnN]
    by_cases h : n = 63 - j
    · cases hx : x.testBit n with
      | true =>
        rw [if_pos rfl, Nat.testBit_or, turnN_bit x j hj n (by omega), Nat.testBit_two_pow, ← h, hx, decide_eq_true (show 63 - n = j by omega), decide_eq_true (show n < n + 1 by omega)]; simp
      | false => rw [if_neg (by simp), turnN_bit x j hj n (by omega), ← h, hx]; simp
    · have g : decide (63 - j < n + 1) = decide (63 - j < n) := by rw [Bool.eq_iff_iff]; simp; omega
      split
      · rw [Nat.testBit_or, turnN_bit x j hj n (by omega), Nat.testBit_two_pow, decide_eq_false (show ¬ 63 - n = j by omega), Bool.or_false, g]
      · rw [turnN_bit x j hj n (by omega), g]

theorem eq_bits (x y : Nat) (hx : x < 2 ^ 64) (hy : y < 2 ^ 64) (h : ∀ j, j < 64 → x.testBit j = y.testBit j) : x = y := by
  apply Nat.eq_of_testBit_eq
  intro j
  by_cases hj : j < 64
  · exact h j hj
  · have big : 2 ^ 64 ≤ 2 ^ j := Nat.pow_le_pow_right (by decide) (by omega)
    rw [Nat.testBit_lt_two_pow (Nat.lt_of_lt_of_le hx big), Nat.testBit_lt_two_pow (Nat.lt_of_lt_of_le hy big)]

theorem turnN_rev (x : Nat) : turnN x 64 = rev x :=
  eq_bits _ _ (turnN_lt x 64 (Nat.le_refl _)) (rev_lt x) fun j hj => by
    rw [turnN_bit x j hj 64 (Nat.le_refl _), rev_bit x j hj, decide_eq_true (show 63 - j < 64 by omega), Bool.true_and]

theorem rev_rev (x : Nat) (hx : x < 2 ^ 64) : rev (rev x) = x :=
  eq_bits _ _ (rev_lt _) hx fun j hj => by
    rw [rev_bit _ j hj, rev_bit _ _ (by omega), show 63 - (63 - j) = j by omega]

theorem rturn_any (x : Nat) (hx : x < 18446744073709551616) (w : World) : Calls Tryd.prog 21 #[.int .u64 x] w fun e w' => e = .returned (.int .u64 (rev x)) ∧ w = w' := by
  rw [← turnN_rev]
  go_enter Tryd.func21, Tryd.ntmps21
  go_wp2
  go_loopw [3, 4] (fun v i wr => ∃ n : Nat, n ≤ 64 ∧ i = .int .i64 n ∧ v = .int .u64 (turnN x n : Nat) ∧ w = wr) (fun _ i _ => 64 - (intOf i).toNat)
  case atStart => exact ⟨0, by omega, rfl, rfl, rfl⟩
  case round =>
    obtain ⟨n, hn, rfl, rfl, rfl⟩ := hrel
    by_cases hlt : n < 64
    · have hp := turnN_lt x n hn
      have ix := fun w => in_any x hx n hlt w
      have wa := fun w => with_any (turnN x n) hp (63 - n) (by omega) w
      have hcast : ((63 - n : Nat) : Int) = 63 - (n : Int) := by omega
      rw [hcast] at wa
      have s1 : turnN x (n + 1) = if x.testBit n then turnN x n ||| 2 ^ (63 - n) else turnN x n := rfl
      have WA := Lib.hid wa
      clear wa hcast
      cases hxn : x.testBit n with
      | true =>
        rw [hxn] at ix s1
        rw [if_pos rfl] at s1
        have IX := Lib.hid ix
        have s3 := congrArg (fun z : Nat => Value.int .u64 (z : Int)) s1
        have S3 := Lib.hid s3
        clear s1 s3 ix
        go_wp2_with (first | (go_at_call 35; refine (IX.out _).mono ?_; rintro e1 w1 ⟨rfl, rfl⟩) | (go_at_call 33; refine (WA.out _).mono ?_; rintro e1 w1 ⟨rfl, rfl⟩))
        case roundEnd => exact ⟨⟨n + 1, by omega, by go_num, S3.out.symm, trivial⟩, by simp [intOf]; omega⟩
      | false =>
        rw [hxn] at ix s1
        rw [if_neg (by simp)] at s1
        have IX := Lib.hid ix
        have s3 := congrArg (fun z : Nat => Value.int .u64 (z : Int)) s1
        have S3 := Lib.hid s3
        clear s1 s3 ix
        go_wp2_with (go_at_call 35; refine (IX.out _).mono ?_; rintro e1 w1 ⟨rfl, rfl⟩)
        case roundEnd => exact ⟨⟨n + 1, by omega, by go_num, S3.out.symm, trivial⟩, by simp [intOf]; omega⟩
    · obtain rfl : n = 64 := by omega
      go_wp2
      go_ret
      exact ⟨rfl, rfl⟩

end Go.Proofs.YtpdnbkibnpkfbaaDoor
