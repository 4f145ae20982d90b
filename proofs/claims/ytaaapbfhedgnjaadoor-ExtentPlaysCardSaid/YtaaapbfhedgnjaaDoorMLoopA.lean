/- masks.Pick. -/
import Derived.Test.YtaaapbfhedgnjaaDoorMMath
import Derived.Test.YtaaapbfhedgnjaaDoorMCnt
namespace Go.Proofs.YtaaapbfhedgnjaaDoor
open Go.RowKit

theorem bit1 (x n : Nat) (hx : x < 18446744073709551616) : bits .and .u64 ((x : Int) / 2 ^ n) 1 = ((x.testBit n).toNat : Int) := by
  have e : (x : Int) / 2 ^ n = ((x / 2 ^ n : Nat) : Int) := by simp
  rw [e, show (1 : Int) = ((1 : Nat) : Int) from rfl, band _ 1 (Nat.lt_of_le_of_lt (Nat.div_le_self _ _) hx) (by decide), Nat.and_one_is_mod, bit_nat]

/-- the numbers of a run that are in a word -/
theorem cnt_run (x : Nat) (f t : Int) : ∀ n, n ≤ 64 → cnt (x &&& runN f t) n = cp (fun j => decide (f ≤ (j : Int) ∧ (j : Int) < t) && x.testBit j) n
  | 0, _ => rfl
  | n + 1, h => by
    rw [cnt, cp, cnt_run x f t n (by omega), bit_nat, Nat.testBit_and, runN_bit, decide_eq_true (show n < 64 by omega), Bool.true_and, Bool.and_comm]

theorem cnt_part (x a b : Nat) (h : a ≤ b) (hb : b ≤ 64) : cnt (x &&& runN a b) 64 + cp x.testBit a = cp x.testBit b := by
  have g := cp_range x.testBit a b h 64
  rw [show min 64 a = a by omega, show min 64 b = b by omega] at g
  rw [cnt_run x a b 64 (Nat.le_refl _), ← g]
  congr 1
  apply cp_congr
  intro j _
  congr 1
  rw [Bool.eq_iff_iff, decide_eq_true_iff, decide_eq_true_iff]
  omega

theorem pick_any (x : Nat) (hx : x < 18446744073709551616) (k : Int) (w : World) : Calls Tryd.prog 56 #[.int .u64 x, .int .i64 k] w fun e w' => ∃ r, isPick x k r ∧ e = .returned (.int .i64 r) ∧ w = w' := by
  by_cases hk : k < 0
  · go_enter Tryd.func56, Tryd.ntmps56
    go_wp2_with (go_at_call 66; refine (ones_any _ hx _).mono ?_; rintro e1 w1 ⟨rfl, rfl⟩)
    go_ret
    exact ⟨64, .inl ⟨.inl hk, rfl⟩, rfl, rfl⟩
  have hcc := cnt_cp x 64
  by_cases hk2 : (cnt x 64 : Int) ≤ k
  · go_enter Tryd.func56, Tryd.ntmps56
    go_wp2_with (go_at_call 66; refine (ones_any _ hx _).mono ?_; rintro e1 w1 ⟨rfl, rfl⟩)
    go_ret
    exact ⟨64, .inl ⟨.inr (by omega), rfl⟩, rfl, rfl⟩
  have hlast : k < (cp x.testBit 64 : Nat) := by omega
  clear hcc
  go_enter Tryd.func56, Tryd.ntmps56
  go_wp2_with (go_at_call 66; refine (ones_any _ hx _).mono ?_; rintro e1 w1 ⟨rfl, rfl⟩)
  clear hk2
  go_loopw [1, 5, 6] (fun kv at_ hf wr => ∃ (d a h s : Nat), kv = .int .i64 d ∧ at_ = .int .i64 a ∧ hf = .int .i64 h ∧ ((0 < h ∧ s = 2 * h) ∨ (h = 0 ∧ s = 1)) ∧ a + s ≤ 64 ∧ (cp x.testBit a : Int) + d = k ∧ k < (cp x.testBit (a + s) : Nat) ∧ (h = 0 ∨ h = 1 ∨ h = 2 ∨ h = 4 ∨ h = 8 ∨ h = 16 ∨ h = 32) ∧ w = wr) (fun _ _ hf _ => (intOf hf).toNat)
  case atStart => exact ⟨k.toNat, 0, 32, 64, by rw [Int.toNat_of_nonneg (by omega)], rfl, rfl, .inl ⟨by omega, rfl⟩, by omega, by rw [cp]; omega, hlast, by omega, rfl⟩
  case round =>
    obtain ⟨d, a, h, s, rfl, rfl, rfl, hs, hs2, hd, hlt, hh, rfl⟩ := hrel
    by_cases h0 : h = 0
    · subst h0
      obtain rfl : s = 1 := by omega
      go_wp2
      go_ret
      rw [cp] at hlt
      cases hb : x.testBit a with
      | false => rw [hb] at hlt; simp at hlt; omega
      | true => rw [hb] at hlt; simp at hlt; exact ⟨a, .inr ⟨by omega, hb, by omega⟩, rfl, rfl⟩
    · obtain rfl : s = 2 * h := by omega
      have hp := cnt_part x a (a + h) (by omega) (by omega)
      have hC := fun w => count_any x hx a ((a : Int) + h) w
      have hcast : ((a + h : Nat) : Int) = (a : Int) + h := by omega
      rw [hcast] at hp
      generalize cnt (x &&& runN a ((a : Int) + h)) 64 = c at hp hC
      have HC := Lib.hid hC
      clear hC hcast
      have cb := cp_le x.testBit (a + h)
      have cs := cp_le x.testBit (a + 2 * h)
      have d64 : d ≤ 64 := by omega
      by_cases hge : d ≥ c
      · go_wp2_with (go_at_call 51; refine (HC.out _).mono ?_; rintro e1 w1 ⟨rfl, rfl⟩)
        case roundEnd =>
          refine ⟨⟨d - c, a + h, h / 2, h, by go_num, by go_num, by go_num, by omega, by omega, by omega, ?_, by omega, trivial⟩, by simp [intOf]; omega⟩
          rw [show a + h + h = a + 2 * h by omega]; exact hlt
      · go_wp2_with (go_at_call 51; refine (HC.out _).mono ?_; rintro e1 w1 ⟨rfl, rfl⟩)
        case roundEnd =>
          exact ⟨⟨d, a, h / 2, h, rfl, rfl, by go_num, by omega, by omega, by omega, by omega, by omega, trivial⟩, by simp [intOf]; omega⟩

theorem pick_ex (x : Nat) (k : Int) : ∃ r, isPick x k r := by
  by_cases hk : k < 0
  · exact ⟨64, .inl ⟨.inl hk, rfl⟩⟩
  · by_cases hk2 : (cp x.testBit 64 : Int) ≤ k
    · exact ⟨64, .inl ⟨.inr hk2, rfl⟩⟩
    · obtain ⟨i, h1, h2, h3⟩ := cp_onto x.testBit 64 k.toNat (by omega)
      exact ⟨i, .inr ⟨h1, h2, by omega⟩⟩

noncomputable def pickV (x : Nat) (k : Int) : Nat := (pick_ex x k).choose

theorem pickV_is (x : Nat) (k : Int) : isPick x k (pickV x k) := (pick_ex x k).choose_spec

theorem pick_at (x : Nat) (hx : x < 18446744073709551616) (k : Int) (w : World) : Calls Tryd.prog 56 #[.int .u64 x, .int .i64 k] w fun e w' => e = .returned (.int .i64 (pickV x k)) ∧ w = w' :=
  (pick_any x hx k w).mono fun _ _ ⟨_, h, he, hw⟩ => ⟨by rw [he, isPick_unique h (pickV_is x k)], hw⟩

end Go.Proofs.YtaaapbfhedgnjaaDoor
