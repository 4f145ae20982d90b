/- masks.Pack, Spread, Pick walked. -/
import Derived.Test.YtpdnbkibnpkfbaaDoorMMath
import Derived.Test.YtpdnbkibnpkfbaaDoorMCnt
namespace Go.Proofs.YtpdnbkibnpkfbaaDoor
open Go.RowKit

theorem bit1 (x n : Nat) (hx : x < 18446744073709551616) : bits .and .u64 ((x : Int) / 2 ^ n) 1 = ((x.testBit n).toNat : Int) := by
  have e : (x : Int) / 2 ^ n = ((x / 2 ^ n : Nat) : Int) := by simp
  rw [e, show (1 : Int) = ((1 : Nat) : Int) from rfl, band _ 1 (Nat.lt_of_le_of_lt (Nat.div_le_self _ _) hx) (by decide), Nat.and_one_is_mod, bit_nat]

theorem or1 (p i : Nat) (b : Bool) (hp : p < 18446744073709551616) (hi : i < 64) : bits .or .u64 (p : Int) (IntKind.u64.wrap ((b.toNat : Int) * 2 ^ i)) = ((p ||| b.toNat * 2 ^ i : Nat) : Int) := by
  have h := bit_word_lt b i hi
  have e : IntKind.u64.wrap ((b.toNat : Int) * 2 ^ i) = ((b.toNat * 2 ^ i : Nat) : Int) := by
    rw [show (b.toNat : Int) * 2 ^ i = ((b.toNat * 2 ^ i : Nat) : Int) by simp, IntKind.wrap_u64]
    generalize b.toNat * 2 ^ i = z at h
    omega
  rw [e]
  exact u64_or_nat _ _ hp h

theorem pack_any (x m : Nat) (hx : x < 18446744073709551616) (hm : m < 18446744073709551616) (w : World) : Calls Tryd.prog 22 #[.int .u64 x, .int .u64 m] w fun e w' => e = .returned (.int .u64 (packN x m 64)) ∧ w = w' := by
  go_enter Tryd.func22, Tryd.ntmps22
  go_wp2
  go_loopw [5, 6, 8] (fun p k i wr => ∃ n : Nat, n ≤ 64 ∧ i = .int .i64 n ∧ k = .int .i64 (cp m.testBit n : Nat) ∧ p = .int .u64 (packN x m n : Nat) ∧ w = wr) (fun _ _ i _ => 64 - (intOf i).toNat)
  case atStart => exact ⟨0, by omega, rfl, rfl, rfl, rfl⟩
  case round =>
    obtain ⟨n, hn, rfl, rfl, rfl, rfl⟩ := hrel
    by_cases hlt : n < 64
    · have hc := cp_le m.testBit n
      have hp := packN_lt x m n hn
      have hb := bit1 m n hm
      have hxb := bit1 x n hx
      have ho := or1 (packN x m n) (cp m.testBit n) (x.testBit n) hp (by omega)
      cases hmn : m.testBit n with
      | true =>
        rw [hmn, Bool.toNat_true] at hb
        have s1 : packN x m (n + 1) = packN x m n ||| (x.testBit n).toNat * 2 ^ cp m.testBit n := by rw [packN, if_pos hmn]
        have s2 : cp m.testBit (n + 1) = cp m.testBit n + 1 := by rw [cp, hmn]; rfl
        have s3 := congrArg (fun z : Nat => Value.int .u64 (z : Int)) s1
        have S3 := Lib.hid s3
        clear s1 s3
        generalize (x.testBit n).toNat = xb at hxb ho S3
        go_wp2
        case roundEnd => exact ⟨⟨n + 1, by omega, by go_num, by rw [s2]; go_num, S3.out.symm, trivial⟩, by simp [intOf]; omega⟩
      | false =>
        rw [hmn, Bool.toNat_false] at hb
        have s1 : packN x m (n + 1) = packN x m n := by rw [packN, if_neg (by simp [hmn])]
        have s2 : cp m.testBit (n + 1) = cp m.testBit n := by rw [cp, hmn]; rfl
        go_wp2
        case roundEnd => exact ⟨⟨n + 1, by omega, by go_num, by rw [s2], by rw [s1], trivial⟩, by simp [intOf]; omega⟩
    · obtain rfl : n = 64 := by omega
      go_wp2
      go_ret
      exact ⟨rfl, rfl⟩

theorem spread_any (x m : Nat) (hx : x < 18446744073709551616) (hm : m < 18446744073709551616) (w : World) : Calls Tryd.prog 24 #[.int .u64 x, .int .u64 m] w fun e w' => e = .returned (.int .u64 (spreadN x m 64)) ∧ w = w' := by
  go_enter Tryd.func24, Tryd.ntmps24
  go_wp2
  go_loopw [5, 6, 8] (fun p k i wr => ∃ n : Nat, n ≤ 64 ∧ i = .int .i64 n ∧ k = .int .i64 (cp m.testBit n : Nat) ∧ p = .int .u64 (spreadN x m n : Nat) ∧ w = wr) (fun _ _ i _ => 64 - (intOf i).toNat)
  case atStart => exact ⟨0, by omega, rfl, rfl, rfl, rfl⟩
  case round =>
    obtain ⟨n, hn, rfl, rfl, rfl, rfl⟩ := hrel
    by_cases hlt : n < 64
    · have hc := cp_le m.testBit n
      have hp := spreadN_lt x m n hn
      have hb := bit1 m n hm
      have hxb := bit1 x (cp m.testBit n) hx
      have ho := or1 (spreadN x m n) n (x.testBit (cp m.testBit n)) hp hlt
      cases hmn : m.testBit n with
      | true =>
        rw [hmn, Bool.toNat_true] at hb
        have s1 : spreadN x m (n + 1) = spreadN x m n ||| (x.testBit (cp m.testBit n)).toNat * 2 ^ n := by rw [spreadN, if_pos hmn]
        have s2 : cp m.testBit (n + 1) = cp m.testBit n + 1 := by rw [cp, hmn]; rfl
        have s3 := congrArg (fun z : Nat => Value.int .u64 (z : Int)) s1
        have S3 := Lib.hid s3
        clear s1 s3
        generalize (x.testBit (cp m.testBit n)).toNat = xb at hxb ho S3
        go_wp2
        case roundEnd => exact ⟨⟨n + 1, by omega, by go_num, by rw [s2]; go_num, S3.out.symm, trivial⟩, by simp [intOf]; omega⟩
      | false =>
        rw [hmn, Bool.toNat_false] at hb
        have s1 : spreadN x m (n + 1) = spreadN x m n := by rw [spreadN, if_neg (by simp [hmn])]
        have s2 : cp m.testBit (n + 1) = cp m.testBit n := by rw [cp, hmn]; rfl
        go_wp2
        case roundEnd => exact ⟨⟨n + 1, by omega, by go_num, by rw [s2], by rw [s1], trivial⟩, by simp [intOf]; omega⟩
    · obtain rfl : n = 64 := by omega
      go_wp2
      go_ret
      exact ⟨rfl, rfl⟩

/-- the numbers of a run that are in a word -/
theorem cnt_run (x : Nat) (f t : Int) : ∀ n, n ≤ 64 → cnt (x &&& runN f t) n = cp (fun j => decide (f ≤ (j : Int) ∧ (j : Int) < t) && x.testBit j) n
  | 0, _ => rfl
  | n + 1, h => by
    rw [cnt, cp, cnt_run x f t n (by omega), bit_nat, Nat.testBit_and, runN_bit, decide_eq_true (show n < 64 by omega), Bool.true_and, Bool.and_comm]

theorem cnt_part (x a b : Nat) (h : a ≤ b) (hb : b ≤ 64) : cnt (x &&& runN a b) 64 + cp x.testBit a = cp x.testBit b := by
  have g := cp_range x.testBit a b h 64
  rw [show min 64 a = a by omega, show min 64 b = b by omega] at g
  rw [cnt_run x a b 64 (Nat.le_refl _), ← g]
  congr 1
  apply cp_congr
  intro j _
  congr 1
  rw [Bool.eq_iff_iff, decide_eq_true_iff, decide_eq_true_iff]
  omega

theorem pick_any (x : Nat) (hx : x < 18446744073709551616) (k : Int) (w : World) : Calls Tryd.prog 18 #[.int .u64 x, .int .i64 k] w fun e w' => ∃ r, isPick x k r ∧ e = .returned (.int .i64 r) ∧ w = w' := by
  by_cases hk : k < 0
  · go_enter Tryd.func18, Tryd.ntmps18
    go_wp2_with (go_at_call 34; refine (ones_any _ hx _).mono ?_; rintro e1 w1 ⟨rfl, rfl⟩)
    go_ret
    exact ⟨64, .inl ⟨.inl hk, rfl⟩, rfl, rfl⟩
  have hcc := cnt_cp x 64
  by_cases hk2 : (cnt x 64 : Int) ≤ k
  · go_enter Tryd.func18, Tryd.ntmps18
    go_wp2_with (go_at_call 34; refine (ones_any _ hx _).mono ?_; rintro e1 w1 ⟨rfl, rfl⟩)
    go_ret
    exact ⟨64, .inl ⟨.inr (by omega), rfl⟩, rfl, rfl⟩
  have hlast : k < (cp x.testBit 64 : Nat) := by omega
  clear hcc
  go_enter Tryd.func18, Tryd.ntmps18
  go_wp2_with (go_at_call 34; refine (ones_any _ hx _).mono ?_; rintro e1 w1 ⟨rfl, rfl⟩)
  clear hk2
  go_loopw [1, 5, 6] (fun kv at_ hf wr => ∃ (d a h s : Nat), kv = .int .i64 d ∧ at_ = .int .i64 a ∧ hf = .int .i64 h ∧ ((0 < h ∧ s = 2 * h) ∨ (h = 0 ∧ s = 1)) ∧ a + s ≤ 64 ∧ (cp x.testBit a : Int) + d = k ∧ k < (cp x.testBit (a + s) : Nat) ∧ (h = 0 ∨ h = 1 ∨ h = 2 ∨ h = 4 ∨ h = 8 ∨ h = 16 ∨ h = 32) ∧ w = wr) (fun _ _ hf _ => (intOf hf).toNat)
  case atStart => exact ⟨k.toNat, 0, 32, 64, by rw [Int.toNat_of_nonneg (by omega)], rfl, rfl, .inl ⟨by omega, rfl⟩, by omega, by rw [cp]; omega, hlast, by omega, rfl⟩
  case round =>
    obtain ⟨d, a, h, s, rfl, rfl, rfl, hs, hs2, hd, hlt, hh, rfl⟩ := hrel
    by_cases h0 : h = 0
    · subst h0
      obtain rfl : s = 1 := by omega
      go_wp2
      go_ret
      rw [cp] at hlt
      cases hb : x.testBit a with
      | false => rw [hb] at hlt; simp at hlt; omega
      | true => rw [hb] at hlt; simp at hlt; exact ⟨a, .inr ⟨by omega, hb, by omega⟩, rfl, rfl⟩
    · obtain rfl : s = 2 * h := by omega
      have hp := cnt_part x a (a + h) (by omega) (by omega)
      have hC := fun w => count_any x hx a ((a : Int) + h) w
      have hcast : ((a + h : Nat) : Int) = (a : Int) + h := by omega
      rw [hcast] at hp
      generalize cnt (x &&& runN a ((a : Int) + h)) 64 = c at hp hC
      have HC := Lib.hid hC
      clear hC hcast
      have cb := cp_le x.testBit (a + h)
      have cs := cp_le x.testBit (a + 2 * h)
      have d64 : d ≤ 64 := by omega
      by_cases hge : d ≥ c
      · go_wp2_with (go_at_call 11; refine (HC.out _).mono ?_; rintro e1 w1 ⟨rfl, rfl⟩)
        case roundEnd =>
          refine ⟨⟨d - c, a + h, h / 2, h, by go_num, by go_num, by go_num, by omega, by omega, by omega, ?_, by omega, trivial⟩, by simp [intOf]; omega⟩
          rw [show a + h + h = a + 2 * h by omega]; exact hlt
      · go_wp2_with (go_at_call 11; refine (HC.out _).mono ?_; rintro e1 w1 ⟨rfl, rfl⟩)
        case roundEnd =>
          exact ⟨⟨d, a, h / 2, h, rfl, rfl, by go_num, by omega, by omega, by omega, by omega, by omega, trivial⟩, by simp [intOf]; omega⟩
end Go.Proofs.YtpdnbkibnpkfbaaDoor
