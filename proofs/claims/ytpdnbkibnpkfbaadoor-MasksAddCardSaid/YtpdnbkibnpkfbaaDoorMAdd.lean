/- The law MasksAdd walked. -/
import Derived.Test.YtpdnbkibnpkfbaaDoorMBack
import Derived.Test.YtpdnbkibnpkfbaaDoorArr3
namespace Go.Proofs.YtpdnbkibnpkfbaaDoor
open Go.RowKit

theorem cp_split (p : Nat → Bool) (f g h : Int) (h1 : f ≤ g) (h2 : g ≤ h) : ∀ n, cp (fun j => decide (f ≤ (j : Int) ∧ (j : Int) < g) && p j) n + cp (fun j => decide (g ≤ (j : Int) ∧ (j : Int) < h) && p j) n = cp (fun j => decide (f ≤ (j : Int) ∧ (j : Int) < h) && p j) n
  | 0 => rfl
  | n + 1 => by
    have ih := cp_split p f g h h1 h2 n
    simp only [cp]
    rw [← ih]
    have key : (decide (f ≤ (n : Int) ∧ (n : Int) < g) && p n).toNat + (decide (g ≤ (n : Int) ∧ (n : Int) < h) && p n).toNat = (decide (f ≤ (n : Int) ∧ (n : Int) < h) && p n).toNat := by
      cases p n
      · simp
      · by_cases c1 : (n : Int) < g
        · rw [decide_eq_false (show ¬ (g ≤ (n : Int) ∧ (n : Int) < h) by omega)]
          rw [show decide (f ≤ (n : Int) ∧ (n : Int) < g) = decide (f ≤ (n : Int) ∧ (n : Int) < h) by rw [Bool.eq_iff_iff, decide_eq_true_iff, decide_eq_true_iff]; omega]
          simp
        · rw [decide_eq_false (show ¬ (f ≤ (n : Int) ∧ (n : Int) < g) by omega)]
          rw [show decide (g ≤ (n : Int) ∧ (n : Int) < h) = decide (f ≤ (n : Int) ∧ (n : Int) < h) by rw [Bool.eq_iff_iff, decide_eq_true_iff, decide_eq_true_iff]; omega]
          simp
    omega

theorem cnt_split (x : Nat) (f g h : Int) (h1 : f ≤ g) (h2 : g ≤ h) : cnt (x &&& runN f g) 64 + cnt (x &&& runN g h) 64 = cnt (x &&& runN f h) 64 := by
  rw [cnt_run _ _ _ _ (Nat.le_refl _), cnt_run _ _ _ _ (Nat.le_refl _), cnt_run _ _ _ _ (Nat.le_refl _)]
  exact cp_split _ f g h h1 h2 64

theorem cnt_le (x : Nat) (f t : Int) : cnt (x &&& runN f t) 64 ≤ 64 := by rw [cnt_run _ _ _ _ (Nat.le_refl _)]; exact cp_le _ 64

theorem add_any (x : Nat) (hx : x < 18446744073709551616) (a b c : Int) (ha : 0 ≤ a ∧ a ≤ 255) (hb : 0 ≤ b ∧ b ≤ 255) (hc : 0 ≤ c ∧ c ≤ 255) (w : World) (hT : Tab w) : Calls Tryd.prog 7 #[.int .u64 x, .agg #[.int .u8 a, .int .u8 b, .int .u8 c]] w fun e w' => e = .returned (.bool true) ∧ Below w.heap.size w w' := by
  obtain ⟨A, hA⟩ : ∃ A, a % 80 - 8 = A := ⟨_, rfl⟩
  obtain ⟨B, hB⟩ : ∃ B, b % 80 - 8 = B := ⟨_, rfl⟩
  obtain ⟨C, hC⟩ : ∃ C, c % 80 - 8 = C := ⟨_, rfl⟩
  obtain ⟨Y, hY⟩ : ∃ Y, max (min A B) (min (max A B) C) = Y := ⟨_, rfl⟩
  have bA : -8 ≤ A ∧ A ≤ 71 := by omega
  have bB : -8 ≤ B ∧ B ≤ 71 := by omega
  have bC : -8 ≤ C ∧ C ≤ 71 := by omega
  obtain ⟨g, hg⟩ : ∃ g : Int → Int → Int, ∀ f t, g f t = ((cnt (x &&& runN f t) 64 : Nat) : Int) := ⟨_, fun _ _ => rfl⟩
  have gb : ∀ f t, 0 ≤ g f t ∧ g f t ≤ 64 := fun f t => by rw [hg]; have := cnt_le x f t; omega
  have gs : ∀ f k t, f ≤ k → k ≤ t → g f k + g k t = g f t := fun f k t h1 h2 => by rw [hg, hg, hg, ← cnt_split x f k t h1 h2]; omega
  obtain ⟨X, hX⟩ : ∃ X, (if C < if B < A then B else A then C else if B < A then B else A) = X := ⟨_, rfl⟩
  obtain ⟨Z, hZ⟩ : ∃ Z, (if (if A < B then B else A) < C then C else if A < B then B else A) = Z := ⟨_, rfl⟩
  have hXY : X ≤ Y := by rw [← hX, ← hY]; (repeat' split) <;> omega
  have hYZ : Y ≤ Z := by rw [← hZ, ← hY]; (repeat' split) <;> omega
  have F := gs X Y Z hXY hYZ
  have FB := gb X Z
  have CR : Hid (∀ f t w, Calls Tryd.prog 11 #[.int .u64 x, .int .i64 f, .int .i64 t] w fun e w' => e = .returned (.int .i64 (g f t)) ∧ w = w') := fun f t w => by rw [hg]; exact count_any x hx f t w
  have CN : Hid (∀ (n : Nat) w, n < 64 → Calls Tryd.prog 11 #[.int .u64 x, .int .i64 n, .int .i64 ((n : Int) + 1)] w fun e w' => e = .returned (.int .i64 ((x.testBit n).toNat : Nat)) ∧ w = w') := fun n w h => by
    have k := cnt_part x n (n + 1) (by omega) (by omega)
    rw [cp] at k
    rw [show (x.testBit n).toNat = cnt (x &&& runN n ((n + 1 : Nat) : Int)) 64 by omega, show ((n + 1 : Nat) : Int) = (n : Int) + 1 by omega]
    exact count_any x hx n (n + 1) w
  have C0 : Hid (∀ (n : Nat) w, n ≤ 64 → Calls Tryd.prog 11 #[.int .u64 x, .int .i64 0, .int .i64 n] w fun e w' => e = .returned (.int .i64 (cp x.testBit n : Nat)) ∧ w = w') := fun n w h => by
    have k := cnt_part x 0 n (by omega) h
    rw [cp, Nat.add_zero] at k
    rw [← k]
    exact count_any x hx 0 n w
  have TB : Hid (∀ q, Tab ((w.alloc (.cells #[.int .u8 a, .int .u8 b, .int .u8 c] 32)).drewN q) ∧ Below w.heap.size w ((w.alloc (.cells #[.int .u8 a, .int .u8 b, .int .u8 c] 32)).drewN q)) :=
    fun q => ⟨fun j hj => Lib.cell?_alloc_some _ (hT j hj), below_drewN ((Below.refl _ w).alloc (Nat.le_refl _) _) q⟩
  clear gb gs hXY hYZ hg
  go_enter Tryd.func7, Tryd.ntmps7
  go_wp2_with fail
  go_quiet (fail)
  go_wp2_with (go_at_call 11; refine (CR.out _ _ _).mono ?_; rintro e1 w1 ⟨rfl, rfl⟩)
  obtain ⟨tb, be⟩ := TB.out nq
  clear TB
  generalize ((w.alloc (.cells #[.int .u8 a, .int .u8 b, .int .u8 c] 32)).drewN nq) = w1 at tb be ⊢
  have BE := Lib.hid be
  clear be F FB hX hY hZ hA hB hC bA bB bC CR
  go_loopw [55] (fun i wr => ∃ n : Nat, n ≤ 64 ∧ i = .int .i64 n ∧ w1 = wr) (fun i _ => 64 - (intOf i).toNat)
  case atStart => exact ⟨0, by omega, rfl, rfl⟩
  case round =>
    obtain ⟨n, hn, rfl, rfl⟩ := hrel
    by_cases hlt : n < 64
    · have cn := fun w => CN.out n w hlt
      have c0 := fun w => C0.out n w hn
      have hc := cp_le x.testBit n
      cases hb2 : x.testBit n with
      | false =>
        rw [hb2, Bool.toNat_false] at cn
        have CN2 := Lib.hid cn
        clear cn c0
        go_wp2_with (go_at_call 11; refine (CN2.out _).mono ?_; rintro e1 w1 ⟨rfl, rfl⟩)
        case roundEnd => exact ⟨⟨n + 1, by omega, by go_num, trivial⟩, by simp [intOf]; omega⟩
      | true =>
        rw [hb2, Bool.toNat_true] at cn
        have pk := fun w => pick_at x hx ((cp x.testBit n : Nat) : Int) w
        rw [isPick_unique (pickV_is x ((cp x.testBit n : Nat) : Int)) (.inr ⟨hlt, hb2, rfl⟩)] at pk
        have CN2 := Lib.hid cn
        have C02 := Lib.hid c0
        have PK := Lib.hid pk
        clear cn c0 pk
        go_wp2_with (first | (go_at_call 11; (first | with_reducible refine (CN2.out _).mono ?_ | with_reducible refine (C02.out _).mono ?_); rintro e1 w1 ⟨rfl, rfl⟩) | (go_at_call 18; refine (PK.out _).mono ?_; rintro e1 w1 ⟨rfl, rfl⟩))
        case roundEnd => exact ⟨⟨n + 1, by omega, by go_num, trivial⟩, by simp [intOf]; omega⟩
    · obtain rfl : n = 64 := by omega
      go_wp2_with (go_at_call 17; refine (lives_any _ tb).mono ?_; rintro e1 w1 ⟨rfl, rfl⟩)
      go_ret
      exact ⟨rfl, BE.out⟩

theorem add_law (x : Int) (h : (Lit.int .u64 x).wf = true) (a b c : Int) (ha : (Lit.int .u8 a).wf = true) (hb : (Lit.int .u8 b).wf = true) (hc : (Lit.int .u8 c).wf = true) (w : World) (hT : Tab w) : Calls Tryd.prog 7 #[.int .u64 x, .agg #[.int .u8 a, .int .u8 b, .int .u8 c]] w fun e w' => e = .returned (.bool true) ∧ Below w.heap.size w w' := by
  obtain ⟨n, rfl, hn⟩ := word h
  exact add_any n hn a b c (bounds_u8 ha) (bounds_u8 hb) (bounds_u8 hc) w hT
end Go.Proofs.YtpdnbkibnpkfbaaDoor
