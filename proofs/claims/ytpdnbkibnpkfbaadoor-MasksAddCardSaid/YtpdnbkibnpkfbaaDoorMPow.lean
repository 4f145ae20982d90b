/- Powers of two and rounding. -/
import Derived.Test.YtpdnbkibnpkfbaaDoorMRefC
namespace Go.Proofs.YtpdnbkibnpkfbaaDoor
open Go.RowKit

theorem powB_iff (n : Int) : powB n = true ↔ ∃ j : Nat, n = ((2 ^ j : Nat) : Int) := by
  unfold powB
  by_cases hn : 0 < n
  · obtain ⟨z, rfl⟩ : ∃ z : Nat, n = (z : Int) := ⟨n.toNat, by omega⟩
    rw [decide_eq_true hn, Bool.true_and, Int.toNat_natCast, beq_iff_eq, pow_iff z (by omega)]
    exact ⟨fun ⟨j, h⟩ => ⟨j, by rw [h]⟩, fun ⟨j, h⟩ => ⟨j, by omega⟩⟩
  · rw [decide_eq_false hn, Bool.false_and]
    constructor
    · intro h; cases h
    · rintro ⟨j, h⟩
      have := Nat.two_pow_pos j
      omega

theorem rpower_any (n : Int) (h1 : n ≤ 9223372036854775807) (w : World) : Calls Tryd.prog 27 #[.int .i64 n] w fun e w' => e = .returned (.bool (powB n)) ∧ w = w' := by
  go_enter Tryd.func27, Tryd.ntmps27
  go_wp2
  go_loopw [3, 4] (fun v i wr => ∃ k : Nat, k ≤ 62 ∧ i = .int .i64 k ∧ v = .int .i64 (2 ^ k : Nat) ∧ (∀ j, j < k → n ≠ ((2 ^ j : Nat) : Int)) ∧ w = wr) (fun _ i _ => 62 - (intOf i).toNat)
  case atStart => exact ⟨0, by omega, rfl, rfl, by intro j hj; omega, rfl⟩
  case round =>
    obtain ⟨k, hk, rfl, rfl, hno, rfl⟩ := hrel
    have hp : 2 ^ k ≤ 4611686018427387904 := (Nat.pow_le_pow_right (by decide) hk : 2 ^ k ≤ 2 ^ 62)
    by_cases he : n = ((2 ^ k : Nat) : Int)
    · have P : powB n = true := (powB_iff n).2 ⟨k, he⟩
      rw [he] at P
      have HP := Lib.hid P
      clear P hno
      subst he
      by_cases hlt : k < 62
      · generalize hy : 2 ^ k = y at hp
        go_wp2
        go_ret
        exact ⟨by rw [HP.out]; rfl, rfl⟩
      · generalize hy : 2 ^ k = y at hp
        go_wp2
        go_ret
        exact ⟨by rw [HP.out]; rfl, rfl⟩
    · have nx : ∀ j, j < k + 1 → n ≠ ((2 ^ j : Nat) : Int) := by
        intro j hj
        by_cases e : j = k
        · rw [e]; exact he
        · exact hno j (by omega)
      have he2 : ((((2 ^ k : Nat) : Int)) == n) = false := by rw [beq_eq_false_iff_ne]; exact fun h => he h.symm
      by_cases hlt : k < 62
      · have s := dbl_pow k
        have hp2 : 2 ^ k ≤ 2305843009213693952 := (Nat.pow_le_pow_right (by decide) (by omega) : 2 ^ k ≤ 2 ^ 61)
        have NX := Lib.hid nx
        clear nx hno
        generalize 2 ^ k = y at hp hp2 he he2 s
        go_wp2
        case roundEnd => exact ⟨⟨k + 1, by omega, by go_num, by rw [← s]; go_num, NX.out, trivial⟩, by simp [intOf]; omega⟩
      · obtain rfl : k = 62 := by omega
        have P : powB n = false := by
          rw [← Bool.not_eq_true, powB_iff]
          rintro ⟨j, rfl⟩
          by_cases hj : j < 63
          · exact nx j hj rfl
          · have : 2 ^ 63 ≤ 2 ^ j := Nat.pow_le_pow_right (by decide) (by omega)
            omega
        have HP := Lib.hid P
        clear P nx hno
        generalize 2 ^ 62 = y at hp he he2
        go_wp2
        go_ret
        exact ⟨by rw [HP.out]; rfl, rfl⟩

/-- may be rounded -/
def rd (n u : Int) : Bool := powB u && (decide (u ≤ 1073741824) && (decide (0 ≤ n) && decide (n ≤ 1152921504606846976)))

theorem roundable_any (n u : Int) (h0 : -9223372036854775808 ≤ u) (h1 : u ≤ 9223372036854775807) (w : World) : Calls Tryd.prog 39 #[.int .i64 n, .int .i64 u] w fun e w' => e = .returned (.bool (rd n u)) ∧ w = w' := by
  have pa := fun w => power_any u h0 h1 w
  have R : rd n u = (powB u && (decide (u ≤ 1073741824) && (decide (0 ≤ n) && decide (n ≤ 1152921504606846976)))) := rfl
  cases hp : powB u with
  | false =>
    rw [hp] at pa R
    rw [Bool.false_and] at R
    have PA := Lib.hid pa
    have RR := Lib.hid R
    clear pa R
    go_enter Tryd.func39, Tryd.ntmps39
    go_wp2_with (go_at_call 26; refine (PA.out _).mono ?_; rintro e1 w1 ⟨rfl, rfl⟩)
    go_ret
    exact ⟨by rw [RR.out]; rfl, rfl⟩
  | true =>
    rw [hp] at pa R
    rw [Bool.true_and] at R
    have PA := Lib.hid pa
    clear pa
    by_cases c1 : u ≤ 1073741824
    · rw [decide_eq_true c1, Bool.true_and] at R
      by_cases c2 : 0 ≤ n
      · rw [decide_eq_true c2, Bool.true_and] at R
        have RR := Lib.hid R
        clear R
        go_enter Tryd.func39, Tryd.ntmps39
        go_wp2_with (go_at_call 26; refine (PA.out _).mono ?_; rintro e1 w1 ⟨rfl, rfl⟩)
        go_ret
        exact ⟨by rw [RR.out]; rfl, rfl⟩
      · rw [decide_eq_false c2, Bool.false_and] at R
        have RR := Lib.hid R
        clear R
        go_enter Tryd.func39, Tryd.ntmps39
        go_wp2_with (go_at_call 26; refine (PA.out _).mono ?_; rintro e1 w1 ⟨rfl, rfl⟩)
        go_ret
        exact ⟨by rw [RR.out]; rfl, rfl⟩
    · rw [decide_eq_false c1, Bool.false_and] at R
      have RR := Lib.hid R
      clear R
      go_enter Tryd.func39, Tryd.ntmps39
      go_wp2_with (go_at_call 26; refine (PA.out _).mono ?_; rintro e1 w1 ⟨rfl, rfl⟩)
      go_ret
      exact ⟨by rw [RR.out]; rfl, rfl⟩

/-- what may be rounded is a natural, by a power of two -/
theorem rd_true {n u : Int} (h : rd n u = true) : ∃ a j : Nat, n = (a : Int) ∧ u = ((2 ^ j : Nat) : Int) ∧ j ≤ 30 ∧ a ≤ 1152921504606846976 := by
  unfold rd at h
  simp only [Bool.and_eq_true, decide_eq_true_eq] at h
  obtain ⟨h1, h2, h3, h4⟩ := h
  obtain ⟨j, rfl⟩ := (powB_iff u).1 h1
  refine ⟨n.toNat, j, by omega, rfl, ?_, by omega⟩
  by_cases hj : j ≤ 30
  · exact hj
  · have : 2 ^ 31 ≤ 2 ^ j := Nat.pow_le_pow_right (by decide) (by omega)
    omega

/-- rounded up, down -/
def upV (n u : Int) : Int := if rd n u then (n + u - 1) / u * u else -1
def downV (n u : Int) : Int := if rd n u then n / u * u else -1

theorem down_any (n u : Int) (h0 : -9223372036854775808 ≤ u) (h1 : u ≤ 9223372036854775807) (w : World) : Calls Tryd.prog 30 #[.int .i64 n, .int .i64 u] w fun e w' => e = .returned (.int .i64 (downV n u)) ∧ w = w' := by
  have ra := fun w => roundable_any n u h0 h1 w
  have V : downV n u = if rd n u then n / u * u else -1 := rfl
  cases hr : rd n u with
  | false =>
    rw [hr] at ra V
    rw [if_neg (by simp)] at V
    have RA := Lib.hid ra
    have VV := Lib.hid V
    clear ra V
    go_enter Tryd.func30, Tryd.ntmps30
    go_wp2_with (go_at_call 39; refine (RA.out _).mono ?_; rintro e1 w1 ⟨rfl, rfl⟩)
    go_ret
    exact ⟨by rw [VV.out]; rfl, rfl⟩
  | true =>
    rw [hr] at ra V
    rw [if_pos rfl] at V
    obtain ⟨a, j, rfl, rfl, hj, ha⟩ := rd_true hr
    have f := andNot_low a j (by omega) (by omega)
    have v2 : (a : Int) / ((2 ^ j : Nat) : Int) * ((2 ^ j : Nat) : Int) = ((a / 2 ^ j * 2 ^ j : Nat) : Int) := by simp
    rw [v2] at V
    have hb : 2 ^ j ≤ 1073741824 := (Nat.pow_le_pow_right (by decide) hj : 2 ^ j ≤ 2 ^ 30)
    have hb0 := Nat.two_pow_pos j
    have RA := Lib.hid ra
    have VV := Lib.hid V
    clear ra V v2 hr h0 h1
    generalize a / 2 ^ j * 2 ^ j = q at f VV
    generalize hy : 2 ^ j = y at f hb hb0
    go_enter Tryd.func30, Tryd.ntmps30
    rw [hy] at RA VV
    go_wp2_with (go_at_call 39; refine (RA.out _).mono ?_; rintro e1 w1 ⟨rfl, rfl⟩)
    go_ret
    exact ⟨by rw [VV.out]; rfl, rfl⟩
theorem up_any (n u : Int) (h0 : -9223372036854775808 ≤ u) (h1 : u ≤ 9223372036854775807) (w : World) : Calls Tryd.prog 28 #[.int .i64 n, .int .i64 u] w fun e w' => e = .returned (.int .i64 (upV n u)) ∧ w = w' := by
  have ra := fun w => roundable_any n u h0 h1 w
  have V : upV n u = if rd n u then (n + u - 1) / u * u else -1 := rfl
  cases hr : rd n u with
  | false =>
    rw [hr] at ra V
    rw [if_neg (by simp)] at V
    have RA := Lib.hid ra
    have VV := Lib.hid V
    clear ra V
    go_enter Tryd.func28, Tryd.ntmps28
    go_wp2_with (go_at_call 39; refine (RA.out _).mono ?_; rintro e1 w1 ⟨rfl, rfl⟩)
    go_ret
    exact ⟨by rw [VV.out]; rfl, rfl⟩
  | true =>
    rw [hr] at ra V
    rw [if_pos rfl] at V
    obtain ⟨a, j, rfl, rfl, hj, ha⟩ := rd_true hr
    have hb : 2 ^ j ≤ 1073741824 := (Nat.pow_le_pow_right (by decide) hj : 2 ^ j ≤ 2 ^ 30)
    have hb0 := Nat.two_pow_pos j
    have f := andNot_low (a + 2 ^ j - 1) j (by omega) (by omega)
    rw [show ((a + 2 ^ j - 1 : Nat) : Int) = (a : Int) + ((2 ^ j : Nat) : Int) - 1 by omega] at f
    have v2 : ((a : Int) + ((2 ^ j : Nat) : Int) - 1) / ((2 ^ j : Nat) : Int) * ((2 ^ j : Nat) : Int) = (((a + 2 ^ j - 1) / 2 ^ j * 2 ^ j : Nat) : Int) := by
      rw [show (a : Int) + ((2 ^ j : Nat) : Int) - 1 = ((a + 2 ^ j - 1 : Nat) : Int) by omega]; simp
    rw [v2] at V
    have RA := Lib.hid ra
    have VV := Lib.hid V
    clear ra V v2 hr h0 h1
    generalize (a + 2 ^ j - 1) / 2 ^ j * 2 ^ j = q at f VV
    generalize hy : 2 ^ j = y at f hb hb0
    go_enter Tryd.func28, Tryd.ntmps28
    rw [hy] at RA VV
    go_wp2_with (go_at_call 39; refine (RA.out _).mono ?_; rintro e1 w1 ⟨rfl, rfl⟩)
    go_ret
    exact ⟨by rw [VV.out]; rfl, rfl⟩

theorem up_nat (a y : Nat) (hy : 0 < y) : (a + y - 1) / y * y = if a / y * y < a then a / y * y + y else a / y * y := by
  have h := Nat.div_add_mod a y
  have hr := Nat.mod_lt a hy
  generalize a / y = q at h
  generalize a % y = r at h hr
  subst h
  have e : q * y = y * q := Nat.mul_comm _ _
  rw [e]
  by_cases h0 : r = 0
  · subst h0
    rw [if_neg (by omega), show (y * q + 0 + y - 1) / y = q by
      refine Nat.div_eq_of_lt_le ?_ ?_
      · rw [Nat.mul_comm]; omega
      · rw [Nat.add_mul, Nat.mul_comm q y]; omega]
    exact e
  · rw [if_pos (by omega), show (y * q + r + y - 1) / y = q + 1 by
      refine Nat.div_eq_of_lt_le ?_ ?_
      · rw [Nat.add_mul, Nat.mul_comm q y]; omega
      · rw [Nat.add_mul, Nat.add_mul, Nat.mul_comm q y]; omega]
    rw [Nat.add_mul, e]; omega

theorem rround_false (n u : Int) (up : Bool) (h0 : -9223372036854775808 ≤ u) (h1 : u ≤ 9223372036854775807) (hr : rd n u = false) (w : World) : Calls Tryd.prog 29 #[.int .i64 n, .int .i64 u, .bool up] w fun e w' => e = .returned (.int .i64 (-1)) ∧ w = w' := by
  have pa := fun w => rpower_any u h1 w
  unfold rd at hr
  cases hp : powB u with
  | false =>
    rw [hp] at pa
    have PA := Lib.hid pa
    clear pa hr
    go_enter Tryd.func29, Tryd.ntmps29
    go_wp2_with (go_at_call 27; refine (PA.out _).mono ?_; rintro e1 w1 ⟨rfl, rfl⟩)
    go_ret
    exact ⟨rfl, rfl⟩
  | true =>
    rw [hp, Bool.true_and] at hr
    rw [hp] at pa
    have PA := Lib.hid pa
    clear pa
    by_cases c1 : u ≤ 1073741824
    · rw [decide_eq_true c1, Bool.true_and] at hr
      by_cases c2 : 0 ≤ n
      · rw [decide_eq_true c2, Bool.true_and] at hr
        have c3 : ¬ n ≤ 1152921504606846976 := of_decide_eq_false hr
        clear hr
        go_enter Tryd.func29, Tryd.ntmps29
        go_wp2_with (go_at_call 27; refine (PA.out _).mono ?_; rintro e1 w1 ⟨rfl, rfl⟩)
        go_ret
        exact ⟨rfl, rfl⟩
      · clear hr
        go_enter Tryd.func29, Tryd.ntmps29
        go_wp2_with (go_at_call 27; refine (PA.out _).mono ?_; rintro e1 w1 ⟨rfl, rfl⟩)
        go_ret
        exact ⟨rfl, rfl⟩
    · clear hr
      go_enter Tryd.func29, Tryd.ntmps29
      go_wp2_with (go_at_call 27; refine (PA.out _).mono ?_; rintro e1 w1 ⟨rfl, rfl⟩)
      go_ret
      exact ⟨rfl, rfl⟩

theorem rround_true (a y q z : Nat) (up : Bool) (ha : a ≤ 1152921504606846976) (hy : y ≤ 1073741824) (hy0 : 0 < y) (hp : powB y = true) (hq : a / y = q) (hz : q * y = z) (w : World) :
    Calls Tryd.prog 29 #[.int .i64 a, .int .i64 y, .bool up] w fun e w' => e = .returned (.int .i64 (if up && decide (z < a) then z + y else z : Nat)) ∧ w = w' := by
  have pa := fun w => rpower_any (y : Int) (by omega) w
  rw [hp] at pa
  have hqa : q ≤ a := by rw [← hq]; exact Nat.div_le_self a y
  have hza : z ≤ a := by rw [← hz, ← hq]; exact Nat.div_mul_le_self a y
  have e1 : (a : Int) / (y : Int) = (q : Int) := by rw [← Int.natCast_ediv, hq]
  have e2 : (q : Int) * (y : Int) = (z : Int) := by rw [← Int.natCast_mul, hz]
  have PA := Lib.hid pa
  clear pa hp hq hz
  cases up with
  | false =>
    rw [Bool.false_and, if_neg (by simp)]
    go_enter Tryd.func29, Tryd.ntmps29
    go_wp2_with (go_at_call 27; refine (PA.out _).mono ?_; rintro e1 w1 ⟨rfl, rfl⟩)
    go_ret
    exact ⟨rfl, rfl⟩
  | true =>
    rw [Bool.true_and]
    by_cases hlt : z < a
    · rw [if_pos (decide_eq_true hlt)]
      go_enter Tryd.func29, Tryd.ntmps29
      go_wp2_with (go_at_call 27; refine (PA.out _).mono ?_; rintro e1 w1 ⟨rfl, rfl⟩)
      go_ret
      exact ⟨ret_int (by omega), rfl⟩
    · rw [if_neg (by simp; omega)]
      go_enter Tryd.func29, Tryd.ntmps29
      go_wp2_with (go_at_call 27; refine (PA.out _).mono ?_; rintro e1 w1 ⟨rfl, rfl⟩)
      go_ret
      exact ⟨rfl, rfl⟩

theorem rround_any (n u : Int) (up : Bool) (h0 : -9223372036854775808 ≤ u) (h1 : u ≤ 9223372036854775807) (w : World) : Calls Tryd.prog 29 #[.int .i64 n, .int .i64 u, .bool up] w fun e w' => e = .returned (.int .i64 (if up then upV n u else downV n u)) ∧ w = w' := by
  cases hr : rd n u with
  | false =>
    have e : (if up then upV n u else downV n u) = -1 := by unfold upV downV; rw [hr]; cases up <;> simp
    rw [e]
    exact rround_false n u up h0 h1 hr w
  | true =>
    have hp : powB u = true := by unfold rd at hr; simp only [Bool.and_eq_true] at hr; exact hr.1
    obtain ⟨a, j, rfl, rfl, hj, ha⟩ := rd_true hr
    have hb : 2 ^ j ≤ 1073741824 := (Nat.pow_le_pow_right (by decide) hj : 2 ^ j ≤ 2 ^ 30)
    have hb0 := Nat.two_pow_pos j
    have e : (if up then upV (a : Int) ((2 ^ j : Nat) : Int) else downV (a : Int) ((2 ^ j : Nat) : Int)) = ((if up && decide (a / 2 ^ j * 2 ^ j < a) then a / 2 ^ j * 2 ^ j + 2 ^ j else a / 2 ^ j * 2 ^ j : Nat) : Int) := by
      unfold upV downV
      rw [hr]
      simp only [if_true]
      have g := up_nat a (2 ^ j) hb0
      generalize 2 ^ j = y at *
      cases up with
      | false => simp
      | true =>
        simp only [if_true, Bool.true_and, decide_eq_true_eq]
        rw [← g, show (a : Int) + (y : Int) - 1 = ((a + y - 1 : Nat) : Int) by omega]
        simp
    rw [e]
    exact rround_true a (2 ^ j) _ _ up ha hb hb0 hp rfl rfl w
end Go.Proofs.YtpdnbkibnpkfbaaDoor
