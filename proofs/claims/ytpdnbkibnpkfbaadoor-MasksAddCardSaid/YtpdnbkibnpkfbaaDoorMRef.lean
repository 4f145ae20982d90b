/- The reference of layer 1 walked. -/
import Derived.Test.YtpdnbkibnpkfbaaDoorMLoop
namespace Go.Proofs.YtpdnbkibnpkfbaaDoor
open Go.RowKit

theorem half_pow (x n : Nat) : x / 2 ^ n / 2 = x / 2 ^ (n + 1) := by rw [Nat.div_div_eq_div_mul, Nat.pow_succ]

theorem in_any (x : Nat) (hx : x < 18446744073709551616) (i : Nat) (hi : i < 64) (w : World) : Calls Tryd.prog 35 #[.int .u64 x, .int .i64 i] w fun e w' => e = .returned (.bool (x.testBit i)) ∧ w = w' := by
  go_enter Tryd.func35, Tryd.ntmps35
  go_wp2
  go_loopw [0, 5] (fun v k wr => ∃ n : Nat, n ≤ i ∧ k = .int .i64 n ∧ v = .int .u64 (x / 2 ^ n : Nat) ∧ w = wr) (fun _ k _ => i - (intOf k).toNat)
  case atStart => exact ⟨0, by omega, rfl, by simp, rfl⟩
  case round =>
    obtain ⟨n, hn, rfl, rfl, rfl⟩ := hrel
    have h1 : x / 2 ^ n < 18446744073709551616 := Nat.lt_of_le_of_lt (Nat.div_le_self _ _) hx
    by_cases hlt : n < i
    · have s := half_pow x n
      generalize x / 2 ^ n = y at h1 s
      go_wp2
      case roundEnd => exact ⟨⟨n + 1, by omega, by go_num, by rw [← s]; go_num, trivial⟩, by simp [intOf]; omega⟩
    · obtain rfl : n = i := by omega
      have hb := bit_nat x n
      generalize x / 2 ^ n = y at h1 hb
      cases hbb : x.testBit n with
      | true =>
        rw [hbb, Bool.toNat_true] at hb
        have hb2 : (y : Int) % 2 = 1 := by omega
        go_wp2
        go_ret
        exact ⟨by rw [hbb]; rfl, rfl⟩
      | false =>
        rw [hbb, Bool.toNat_false] at hb
        have hb2 : (y : Int) % 2 = 0 := by omega
        go_wp2
        go_ret
        exact ⟨by rw [hbb]; rfl, rfl⟩

theorem dbl_pow (n : Nat) : (2 : Nat) ^ n * 2 = 2 ^ (n + 1) := (Nat.pow_succ ..).symm

theorem with_any (x : Nat) (hx : x < 18446744073709551616) (i : Nat) (hi : i < 64) (w : World) : Calls Tryd.prog 33 #[.int .u64 x, .int .i64 i] w fun e w' => e = .returned (.int .u64 (x ||| 2 ^ i : Nat)) ∧ w = w' := by
  go_enter Tryd.func33, Tryd.ntmps33
  go_wp2
  go_loopw [5, 6] (fun v k wr => ∃ n : Nat, n ≤ i ∧ k = .int .i64 n ∧ v = .int .u64 (2 ^ n : Nat) ∧ w = wr) (fun _ k _ => i - (intOf k).toNat)
  case atStart => exact ⟨0, by omega, rfl, by simp, rfl⟩
  case round =>
    obtain ⟨n, hn, rfl, rfl, rfl⟩ := hrel
    by_cases hlt : n < i
    · have h1 : 2 ^ n ≤ 2 ^ 62 := Nat.pow_le_pow_right (by decide) (by omega)
      have s := dbl_pow n
      generalize 2 ^ n = y at h1 s
      go_wp2
      case roundEnd => exact ⟨⟨n + 1, by omega, by go_num, by rw [← s]; go_num, trivial⟩, by simp [intOf]; omega⟩
    · obtain rfl : n = i := by omega
      have h1 : 2 ^ n ≤ 2 ^ 63 := Nat.pow_le_pow_right (by decide) (by omega)
      have ho := u64_or_nat x (2 ^ n) hx (by omega)
      generalize hy : 2 ^ n = y at h1 ho
      go_wp2
      go_ret
      exact ⟨by rw [hy]; rfl, rfl⟩

/-- a word built number by number, after n of them -/
def ob (p : Nat → Bool) : Nat → Nat | 0 => 0 | n + 1 => if p n then ob p n ||| 2 ^ n else ob p n

theorem ob_lt (p : Nat → Bool) : ∀ n, n ≤ 64 → ob p n < 18446744073709551616
  | 0, _ => by simp [ob]
  | n + 1, h => by
    rw [ob]; split
    · exact Nat.or_lt_two_pow (n := 64) (ob_lt p n (by omega)) (Nat.pow_lt_pow_right (by decide) (by omega))
    · exact ob_lt p n (by omega)

theorem ob_bit (p : Nat → Bool) (j : Nat) : ∀ n, (ob p n).testBit j = (decide (j < n) && p j)
  | 0 => by simp [ob]
  | n + 1 => by
    rw [ob]
    by_cases h : n = j
    · subst h
      cases hp : p n
      · simp [ob_bit p n n]
      · simp [Nat.testBit_or, ob_bit p n n]
    · have g : decide (j < n + 1) = decide (j < n) := by rw [Bool.eq_iff_iff]; simp; omega
      split
      · rw [Nat.testBit_or, ob_bit p j n, Nat.testBit_two_pow, decide_eq_false h, Bool.or_false, g]
      · rw [ob_bit p j n, g]

theorem ob_eq (p : Nat → Bool) (x : Nat) (hx : x < 2 ^ 64) (h : ∀ j, j < 64 → x.testBit j = p j) : ob p 64 = x := by
  apply Nat.eq_of_testBit_eq
  intro j
  rw [ob_bit]
  by_cases hj : j < 64
  · rw [decide_eq_true hj, h j hj, Bool.true_and]
  · rw [decide_eq_false hj, Nat.testBit_lt_two_pow (Nat.lt_of_lt_of_le hx (Nat.pow_le_pow_right (by decide) (by omega))), Bool.false_and]

/-- in a run -/
def inr (f t : Int) (j : Nat) : Bool := decide (f ≤ (j : Int) ∧ (j : Int) < t)

theorem rrun_any (f t : Int) (w : World) : Calls Tryd.prog 10 #[.int .i64 f, .int .i64 t] w fun e w' => e = .returned (.int .u64 (runN f t)) ∧ w = w' := by
  have fin : ob (inr f t) 64 = runN f t := ob_eq _ _ (runN_lt f t) (fun j hj => by rw [runN_bit, decide_eq_true hj, Bool.true_and]; rfl)
  rw [← fin]
  go_enter Tryd.func10, Tryd.ntmps10
  go_wp2
  go_loopw [5, 6] (fun v k wr => ∃ n : Nat, n ≤ 64 ∧ k = .int .i64 n ∧ v = .int .u64 (ob (inr f t) n : Nat) ∧ w = wr) (fun _ k _ => 64 - (intOf k).toNat)
  case atStart => exact ⟨0, by omega, rfl, rfl, rfl⟩
  case round =>
    obtain ⟨n, hn, rfl, rfl, rfl⟩ := hrel
    by_cases hlt : n < 64
    · have h1 := ob_lt (inr f t) n hn
      have wa := fun w => with_any (ob (inr f t) n) h1 n hlt w
      by_cases c1 : f ≤ n
      · by_cases c2 : n < t
        · have s : ob (inr f t) (n + 1) = ob (inr f t) n ||| 2 ^ n := by rw [ob, if_pos (by unfold inr; exact decide_eq_true ⟨c1, c2⟩)]
          rw [← s] at wa
          have WA := Lib.hid wa
          clear wa s
          go_wp2_with (go_at_call 33; refine (WA.out _).mono ?_; rintro e1 w1 ⟨rfl, rfl⟩)
          case roundEnd => exact ⟨⟨n + 1, by omega, by go_num, rfl, trivial⟩, by simp [intOf]; omega⟩
        · have s : ob (inr f t) (n + 1) = ob (inr f t) n := by rw [ob, if_neg (by unfold inr; simp; omega)]
          clear wa
          go_wp2
          case roundEnd => exact ⟨⟨n + 1, by omega, by go_num, by rw [s], trivial⟩, by simp [intOf]; omega⟩
      · have s : ob (inr f t) (n + 1) = ob (inr f t) n := by rw [ob, if_neg (by unfold inr; simp; omega)]
        clear wa
        go_wp2
        case roundEnd => exact ⟨⟨n + 1, by omega, by go_num, by rw [s], trivial⟩, by simp [intOf]; omega⟩
    · obtain rfl : n = 64 := by omega
      go_wp2
      go_ret
      exact ⟨rfl, rfl⟩

theorem rcount_any (x : Nat) (hx : x < 18446744073709551616) (f t : Int) (w : World) : Calls Tryd.prog 12 #[.int .u64 x, .int .i64 f, .int .i64 t] w fun e w' => e = .returned (.int .i64 (cp (fun j => inr f t j && x.testBit j) 64)) ∧ w = w' := by
  go_enter Tryd.func12, Tryd.ntmps12
  go_wp2
  go_loopw [7, 8] (fun v k wr => ∃ n : Nat, n ≤ 64 ∧ k = .int .i64 n ∧ v = .int .i64 (cp (fun j => inr f t j && x.testBit j) n : Nat) ∧ w = wr) (fun _ k _ => 64 - (intOf k).toNat)
  case atStart => exact ⟨0, by omega, rfl, rfl, rfl⟩
  case round =>
    obtain ⟨n, hn, rfl, rfl, rfl⟩ := hrel
    by_cases hlt : n < 64
    · have s : cp (fun j => inr f t j && x.testBit j) (n + 1) = cp (fun j => inr f t j && x.testBit j) n + (inr f t n && x.testBit n).toNat := rfl
      have hc := cp_le (fun j => inr f t j && x.testBit j) n
      generalize hq : cp (fun j => inr f t j && x.testBit j) n = q at s hc
      by_cases c1 : f ≤ n
      · by_cases c2 : n < t
        · rw [show inr f t n = true from decide_eq_true ⟨c1, c2⟩, Bool.true_and] at s
          have ia := fun w => in_any x hx n hlt w
          cases hb : x.testBit n with
          | true =>
            rw [hb] at ia s
            have IA := Lib.hid ia
            clear ia
            rw [Bool.toNat_true] at s
            go_wp2_with (go_at_call 35; refine (IA.out _).mono ?_; rintro e1 w1 ⟨rfl, rfl⟩)
            case roundEnd => exact ⟨⟨n + 1, by omega, by go_num, by rw [s]; go_num, trivial⟩, by simp [intOf]; omega⟩
          | false =>
            rw [hb] at ia s
            have IA := Lib.hid ia
            clear ia
            rw [Bool.toNat_false] at s
            go_wp2_with (go_at_call 35; refine (IA.out _).mono ?_; rintro e1 w1 ⟨rfl, rfl⟩)
            case roundEnd => exact ⟨⟨n + 1, by omega, by go_num, by rw [s]; go_num, trivial⟩, by simp [intOf]; omega⟩
        · rw [show inr f t n = false from decide_eq_false (by omega), Bool.false_and, Bool.toNat_false] at s
          go_wp2
          case roundEnd => exact ⟨⟨n + 1, by omega, by go_num, by rw [s]; go_num, trivial⟩, by simp [intOf]; omega⟩
      · rw [show inr f t n = false from decide_eq_false (by omega), Bool.false_and, Bool.toNat_false] at s
        go_wp2
        case roundEnd => exact ⟨⟨n + 1, by omega, by go_num, by rw [s]; go_num, trivial⟩, by simp [intOf]; omega⟩
    · obtain rfl : n = 64 := by omega
      go_wp2
      go_ret
      exact ⟨rfl, rfl⟩
end Go.Proofs.YtpdnbkibnpkfbaaDoor
