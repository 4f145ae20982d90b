/- The reference of layer 1: Next, Last, Pick, Pack, Spread, Turn. -/
import Derived.Test.YtpdnbkibnpkfbaaDoorMRef
namespace Go.Proofs.YtpdnbkibnpkfbaaDoor
open Go.RowKit

theorem ctz_unique (y n : Nat) (hy : y < 2 ^ 64) (hb : y.testBit n = true) (h : ∀ j, j < n → y.testBit j = false) : Lib.ctz 64 y = n := by
  have h0 : y ≠ 0 := by rintro rfl; simp at hb
  obtain ⟨h1, h2, h3⟩ := ctz_is y hy h0
  rcases Nat.lt_trichotomy (Lib.ctz 64 y) n with hh | hh | hh
  · rw [h _ hh] at h1; cases h1
  · exact hh
  · rw [h3 _ hh] at hb; cases hb

theorem ctz_none (y : Nat) (hy : y < 2 ^ 64) (h : ∀ j, j < 64 → y.testBit j = false) : Lib.ctz 64 y = 64 := by
  by_cases h0 : y = 0
  · subst h0; rfl
  · obtain ⟨h1, h2, h3⟩ := ctz_is y hy h0
    rw [h _ h2] at h1; cases h1

theorem rnext_any (x : Nat) (hx : x < 18446744073709551616) (f : Int) (w : World) : Calls Tryd.prog 14 #[.int .u64 x, .int .i64 f] w fun e w' => e = .returned (.int .i64 (Lib.ctz 64 (x &&& runN f 64))) ∧ w = w' := by
  have hy : x &&& runN f 64 < 2 ^ 64 := Nat.lt_of_le_of_lt Nat.and_le_left hx
  have hbit : ∀ j, j < 64 → (x &&& runN f 64).testBit j = (x.testBit j && decide (f ≤ (j : Int))) := by
    intro j hj
    rw [Nat.testBit_and, runN_bit, decide_eq_true hj, Bool.true_and]
    congr 1
    rw [Bool.eq_iff_iff, decide_eq_true_iff, decide_eq_true_iff]; omega
  generalize x &&& runN f 64 = y at hy hbit
  go_enter Tryd.func14, Tryd.ntmps14
  go_wp2
  go_loopw [5] (fun k wr => ∃ n : Nat, n ≤ 64 ∧ k = .int .i64 n ∧ (∀ j, j < n → y.testBit j = false) ∧ w = wr) (fun k _ => 64 - (intOf k).toNat)
  case atStart => exact ⟨0, by omega, rfl, by intro j hj; omega, rfl⟩
  case round =>
    obtain ⟨n, hn, rfl, hno, rfl⟩ := hrel
    by_cases hlt : n < 64
    · have hbn := hbit n hlt
      have next : y.testBit n = false → ∀ j, j < n + 1 → y.testBit j = false := by
        intro h j hj
        by_cases e : j = n
        · rw [e]; exact h
        · exact hno j (by omega)
      by_cases c1 : f ≤ n
      · rw [decide_eq_true c1, Bool.and_true] at hbn
        have ia := fun w => in_any x hx n hlt w
        cases hb : x.testBit n with
        | true =>
          rw [hb] at ia hbn
          have hz := ctz_unique y n hy hbn hno
          have IA := Lib.hid ia
          have HZ := Lib.hid hz
          clear ia hno hbit hz next
          go_wp2_with (go_at_call 35; refine (IA.out _).mono ?_; rintro e1 w1 ⟨rfl, rfl⟩)
          go_ret
          exact ⟨by rw [HZ.out]; rfl, rfl⟩
        | false =>
          rw [hb] at ia hbn
          have nx := next hbn
          have IA := Lib.hid ia
          have NX := Lib.hid nx
          clear ia hno hbit next nx
          go_wp2_with (go_at_call 35; refine (IA.out _).mono ?_; rintro e1 w1 ⟨rfl, rfl⟩)
          case roundEnd => exact ⟨⟨n + 1, by omega, by go_num, NX.out, trivial⟩, by simp [intOf]; omega⟩
      · rw [decide_eq_false c1, Bool.and_false] at hbn
        have NX := Lib.hid (next hbn)
        clear hno hbit next
        go_wp2
        case roundEnd => exact ⟨⟨n + 1, by omega, by go_num, NX.out, trivial⟩, by simp [intOf]; omega⟩
    · obtain rfl : n = 64 := by omega
      have HZ := Lib.hid (ctz_none y hy hno)
      clear hno hbit
      go_wp2
      go_ret
      exact ⟨by rw [HZ.out]; rfl, rfl⟩

/-- the last of the numbers below n that pass, or -1 -/
def lastN (p : Nat → Bool) : Nat → Int | 0 => -1 | n + 1 => if p n then n else lastN p n

theorem lastN_skip (p : Nat → Bool) (c : Nat) : ∀ d, (∀ j, c ≤ j → p j = false) → lastN p (c + d) = lastN p c
  | 0, _ => rfl
  | d + 1, h => by rw [← Nat.add_assoc, lastN, h (c + d) (by omega)]; exact lastN_skip p c d h

theorem lastN_ge (p : Nat → Bool) : ∀ n, -1 ≤ lastN p n ∧ lastN p n < n
  | 0 => by simp [lastN]
  | n + 1 => by have := lastN_ge p n; rw [lastN]; split <;> omega

theorem lastN_bitLen (y : Nat) (hy : y < 2 ^ 64) : lastN y.testBit 64 = (Lib.bitLen y : Int) - 1 := by
  have hb := Lib.bitLen_le y 64 (by omega) hy
  by_cases h0 : y = 0
  · subst h0
    rw [show (64 : Nat) = 0 + 64 from rfl, lastN_skip _ 0 64 (by intro j _; simp)]
    rfl
  · obtain ⟨h1, h2, h3⟩ := len_is y hy h0
    generalize Lib.bitLen y = c at hb h1 h2 h3
    rw [show (64 : Nat) = c + (64 - c) by omega, lastN_skip _ c _ h3]
    obtain ⟨d, rfl⟩ : ∃ d, c = d + 1 := ⟨c - 1, by omega⟩
    simp only [Nat.add_sub_cancel] at h2
    rw [lastN, if_pos h2]; omega

theorem rlast_any (x : Nat) (hx : x < 18446744073709551616) (b : Int) (w : World) : Calls Tryd.prog 16 #[.int .u64 x, .int .i64 b] w fun e w' => e = .returned (.int .i64 ((Lib.bitLen (x &&& runN 0 b) : Nat) - 1)) ∧ w = w' := by
  have hy : x &&& runN 0 b < 2 ^ 64 := Nat.lt_of_le_of_lt Nat.and_le_left hx
  have hbit : ∀ j, j < 64 → (x &&& runN 0 b).testBit j = (x.testBit j && decide ((j : Int) < b)) := by
    intro j hj
    rw [Nat.testBit_and, runN_bit, decide_eq_true hj, Bool.true_and]
    congr 1
    rw [Bool.eq_iff_iff, decide_eq_true_iff, decide_eq_true_iff]; omega
  rw [← lastN_bitLen _ hy]
  generalize x &&& runN 0 b = y at hy hbit
  go_enter Tryd.func16, Tryd.ntmps16
  go_wp2
  go_loopw [5, 6] (fun v k wr => ∃ n : Nat, n ≤ 64 ∧ k = .int .i64 n ∧ v = .int .i64 (lastN y.testBit n) ∧ w = wr) (fun _ k _ => 64 - (intOf k).toNat)
  case atStart => exact ⟨0, by omega, rfl, rfl, rfl⟩
  case round =>
    obtain ⟨n, hn, rfl, rfl, rfl⟩ := hrel
    by_cases hlt : n < 64
    · have hbn := hbit n hlt
      have s : lastN y.testBit (n + 1) = if y.testBit n = true then (n : Int) else lastN y.testBit n := rfl
      by_cases c1 : n < b
      · rw [decide_eq_true c1, Bool.and_true] at hbn
        have ia := fun w => in_any x hx n hlt w
        cases hb : x.testBit n with
        | true =>
          rw [hb] at ia hbn
          rw [if_pos hbn] at s
          have IA := Lib.hid ia
          clear ia hbit
          go_wp2_with (go_at_call 35; refine (IA.out _).mono ?_; rintro e1 w1 ⟨rfl, rfl⟩)
          case roundEnd => exact ⟨⟨n + 1, by omega, by go_num, by rw [s], trivial⟩, by simp [intOf]; omega⟩
        | false =>
          rw [hb] at ia hbn
          rw [if_neg (by simp [hbn])] at s
          have IA := Lib.hid ia
          clear ia hbit
          go_wp2_with (go_at_call 35; refine (IA.out _).mono ?_; rintro e1 w1 ⟨rfl, rfl⟩)
          case roundEnd => exact ⟨⟨n + 1, by omega, by go_num, by rw [s], trivial⟩, by simp [intOf]; omega⟩
      · rw [decide_eq_false c1, Bool.and_false] at hbn
        rw [if_neg (by simp [hbn])] at s
        clear hbit
        go_wp2
        case roundEnd => exact ⟨⟨n + 1, by omega, by go_num, by rw [s], trivial⟩, by simp [intOf]; omega⟩
    · obtain rfl : n = 64 := by omega
      go_wp2
      go_ret
      exact ⟨rfl, rfl⟩

theorem rcount_below (x : Nat) (hx : x < 18446744073709551616) (n : Nat) (hn : n ≤ 64) (w : World) : Calls Tryd.prog 12 #[.int .u64 x, .int .i64 0, .int .i64 n] w fun e w' => e = .returned (.int .i64 (cp x.testBit n)) ∧ w = w' := by
  have e : cp (fun j => inr 0 n j && x.testBit j) 64 = cp x.testBit n := by
    have g := cp_range x.testBit 0 n (by omega) 64
    rw [show min 64 0 = 0 by omega, show min 64 n = n by omega] at g
    rw [← g]
    refine Eq.trans (cp_congr 64 ?_) (Nat.add_zero _).symm
    intro j _
    congr 1
    unfold inr
    rw [Bool.eq_iff_iff, decide_eq_true_iff, decide_eq_true_iff]; omega
  rw [← e]
  exact rcount_any x hx 0 n w

theorem rpick_any (x : Nat) (hx : x < 18446744073709551616) (k : Int) (w : World) : Calls Tryd.prog 19 #[.int .u64 x, .int .i64 k] w fun e w' => ∃ r, isPick x k r ∧ e = .returned (.int .i64 r) ∧ w = w' := by
  go_enter Tryd.func19, Tryd.ntmps19
  go_wp2
  go_loopw [5] (fun i wr => ∃ n : Nat, n ≤ 64 ∧ i = .int .i64 n ∧ (∀ j, j < n → ¬ (x.testBit j = true ∧ (cp x.testBit j : Int) = k)) ∧ w = wr) (fun i _ => 64 - (intOf i).toNat)
  case atStart => exact ⟨0, by omega, rfl, by intro j hj; omega, rfl⟩
  case round =>
    obtain ⟨n, hn, rfl, hno, rfl⟩ := hrel
    by_cases hlt : n < 64
    · have next : ¬ (x.testBit n = true ∧ (cp x.testBit n : Int) = k) → ∀ j, j < n + 1 → ¬ (x.testBit j = true ∧ (cp x.testBit j : Int) = k) := by
        intro h j hj
        by_cases e : j = n
        · rw [e]; exact h
        · exact hno j (by omega)
      have hc := cp_le x.testBit n
      have ia := fun w => in_any x hx n hlt w
      have ca := fun w => rcount_below x hx n hn w
      cases hb : x.testBit n with
      | true =>
        rw [hb] at ia
        have IA := Lib.hid ia
        have CA := Lib.hid ca
        by_cases hk : (cp x.testBit n : Int) = k
        · have P : isPick x k n := .inr ⟨hlt, hb, hk⟩
          have HP := Lib.hid P
          clear ia ca hno next P
          go_wp2_with (first | (go_at_call 35; refine (IA.out _).mono ?_; rintro e1 w1 ⟨rfl, rfl⟩) | (go_at_call 12; refine (CA.out _).mono ?_; rintro e1 w1 ⟨rfl, rfl⟩))
          go_ret
          exact ⟨n, HP.out, rfl, rfl⟩
        · have NX := Lib.hid (next (fun h => hk h.2))
          clear ia ca hno next
          go_wp2_with (first | (go_at_call 35; refine (IA.out _).mono ?_; rintro e1 w1 ⟨rfl, rfl⟩) | (go_at_call 12; refine (CA.out _).mono ?_; rintro e1 w1 ⟨rfl, rfl⟩))
          case roundEnd => exact ⟨⟨n + 1, by omega, by go_num, NX.out, trivial⟩, by simp [intOf]; omega⟩
      | false =>
        rw [hb] at ia
        have IA := Lib.hid ia
        have NX := Lib.hid (next (fun h => by rw [hb] at h; cases h.1))
        clear ia ca hno next
        go_wp2_with (go_at_call 35; refine (IA.out _).mono ?_; rintro e1 w1 ⟨rfl, rfl⟩)
        case roundEnd => exact ⟨⟨n + 1, by omega, by go_num, NX.out, trivial⟩, by simp [intOf]; omega⟩
    · obtain rfl : n = 64 := by omega
      have P : isPick x k 64 := by
        by_cases hk : k < 0
        · exact .inl ⟨.inl hk, rfl⟩
        · by_cases hk2 : (cp x.testBit 64 : Int) ≤ k
          · exact .inl ⟨.inr hk2, rfl⟩
          · obtain ⟨i, h1, h2, h3⟩ := cp_onto x.testBit 64 k.toNat (by omega)
            exact absurd ⟨h2, by omega⟩ (hno i h1)
      have HP := Lib.hid P
      clear hno P
      go_wp2
      go_ret
      exact ⟨64, HP.out, rfl, rfl⟩

end Go.Proofs.YtpdnbkibnpkfbaaDoor
