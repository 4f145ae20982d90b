/- Least and Most of floats: the loop; the example of layer 2. -/
import Derived.Test.YtflkbefiopnigaaDoorFlT
namespace Go.Proofs.YtflkbefiopnigaaDoor
open Go.ChangeShapes Go.WideShapes Go.ChangeAt Go.RowKit

/-- the best of floats, NaN if there is one -/
def chF (bt : Nat → Nat → Bool) : List Nat → Nat → Nat
  | [], best => best
  | f :: r, best => if kd f = 4 then 9221120237041090560 else chF bt r (if bt f best then f else best)

def swB (x y : Nat) : Bool := bfB y x

/-- floats in memory -/
def FlRow (w : World) (a : Option Addr) (l : List Nat) : Prop := ∀ j, j < l.length → ∃ q off, a = some ⟨q, off, none⟩ ∧ w.cell? ⟨q, off + j, none⟩ = some (.float .f64 (l.getD j 0))

theorem drop_getD (l : List Nat) (k : Nat) (h : k < l.length) : l.drop k = l.getD k 0 :: l.drop (k + 1) := by
  rw [List.drop_eq_getElem_cons h]
  simp [List.getD_eq_getElem?_getD, h]

theorem choose_least (l : List Nat) (a : Option Addr) (cap start : Nat) (w : World) (hrow : FlRow w a l) (hl : l.length ≤ 9223372036854775807) (hwf : ∀ j, l.getD j 0 < 18446744073709551616) (hs : start < 18446744073709551616) :
    Calls Tryd.prog 35 #[.slice a l.length cap, .float .f64 start, .func (.func 18) #[] #[]] w fun e w' => e = .returned (.float .f64 (chF bfB l start)) ∧ w = w' := by
  have HW := Lib.hid hwf
  have HR := Lib.hid hrow
  have HS := Lib.hid hs
  clear hwf hrow hs
  go_enter Tryd.func35, Tryd.ntmps35
  go_wp2
  go_loop [7, 13] (fun b i => ∃ (k best : Nat), k ≤ l.length ∧ i = .int .i64 k ∧ b = .float .f64 best ∧ best < 18446744073709551616 ∧ Hid (chF bfB (l.drop k) best = chF bfB l start)) (fun _ i => l.length - (intOf i).toNat)
  case atStart => exact ⟨0, start, Nat.zero_le _, rfl, rfl, HS.out, Lib.hid rfl⟩
  case round =>
    obtain ⟨k, best, hk, rfl, rfl, hb, HI⟩ := hrel
    by_cases hlt : k < l.length
    · obtain ⟨q, off, rfl, hc⟩ := HR.out k hlt
      have hf := HW.out k
      have e := drop_getD l k hlt
      have HE : Hid ((if kd (l.getD k 0) = 4 then 9221120237041090560 else chF bfB (l.drop (k + 1)) (if bfB (l.getD k 0) best then l.getD k 0 else best)) = chF bfB l start) := by
        have := HI.out
        rw [e] at this
        exact Lib.hid this
      clear e HI
      have hltI : (k : Int) < (l.length : Int) := by omega
      generalize l.getD k 0 = f at *
      have K := Lib.hid (fl_kind f hf w)
      have BF := Lib.hid (fl_before f best hf hb w)
      have HB := Lib.hid hb
      have HF := Lib.hid hf
      by_cases h4 : kd f = 4
      · have K := K.out
        rw [h4] at K
        have K := Lib.hid K
        have HE1 := HE.out
        rw [if_pos h4] at HE1
        have HE2 := Lib.hid HE1
        clear h4 hb hf HE HE1
        go_wp2_with (first | (go_at_call 13; refine (K.out).mono ?_; rintro e1 w1 ⟨rfl, rfl⟩) | (go_at_call 9; refine (fl_of_nan _).mono ?_; rintro e1 w1 ⟨rfl, rfl⟩))
        go_ret
        exact ⟨by rw [← HE2.out]; rfl, rfl⟩
      · have h4' : (kd f == 4) = false := by simpa using h4
        have HE1 := HE.out
        rw [if_neg h4] at HE1
        have HE2 := Lib.hid HE1
        clear HE HE1
        generalize hv : bfB f best = v at *
        generalize kd f = kf at *
        clear h4 hb hf hv
        cases v
        all_goals
          have HE3 := HE2.out
          simp only [Bool.false_eq_true, if_true, if_false] at HE3
          have HE4 := Lib.hid HE3
          clear HE2 HE3
          go_wp2_with (first | (go_at_call 13; refine (K.out).mono ?_; rintro e1 w1 ⟨rfl, rfl⟩) | (go_at_call 18; refine (BF.out).mono ?_; rintro e1 w1 ⟨rfl, rfl⟩))
          go_round
          case rel => exact ⟨k + 1, _, by omega, by go_num, rfl, by first | exact HB.out | exact HF.out, HE4⟩
          case measure => simp [intOf]; omega
    · obtain rfl : k = l.length := by omega
      have HE1 := HI.out
      rw [List.drop_length] at HE1
      have HE2 := Lib.hid HE1
      clear HI HE1
      go_wp2
      go_ret
      exact ⟨by rw [← HE2.out]; rfl, rfl⟩

theorem fl_swap (a b : Nat) (ha : a < 18446744073709551616) (hb : b < 18446744073709551616) (w : World) : Calls Tryd.prog 36 #[.float .f64 a, .float .f64 b] w fun e w' => e = .returned (.bool (swB a b)) ∧ w = w' := by
  unfold swB
  have B := Lib.hid (fl_before b a hb ha w)
  clear ha hb
  go_enter Tryd.func36, Tryd.ntmps36
  go_wp2_with (go_at_call 18; refine (B.out).mono ?_; rintro e1 w1 ⟨rfl, rfl⟩)
  go_ret
  exact ⟨rfl, rfl⟩

theorem choose_most (l : List Nat) (a : Option Addr) (cap start : Nat) (w : World) (hrow : FlRow w a l) (hl : l.length ≤ 9223372036854775807) (hwf : ∀ j, l.getD j 0 < 18446744073709551616) (hs : start < 18446744073709551616) :
    Calls Tryd.prog 35 #[.slice a l.length cap, .float .f64 start, .func (.func 36) #[] #[]] w fun e w' => e = .returned (.float .f64 (chF swB l start)) ∧ w = w' := by
  have HW := Lib.hid hwf
  have HR := Lib.hid hrow
  have HS := Lib.hid hs
  clear hwf hrow hs
  go_enter Tryd.func35, Tryd.ntmps35
  go_wp2
  go_loop [7, 13] (fun b i => ∃ (k best : Nat), k ≤ l.length ∧ i = .int .i64 k ∧ b = .float .f64 best ∧ best < 18446744073709551616 ∧ Hid (chF swB (l.drop k) best = chF swB l start)) (fun _ i => l.length - (intOf i).toNat)
  case atStart => exact ⟨0, start, Nat.zero_le _, rfl, rfl, HS.out, Lib.hid rfl⟩
  case round =>
    obtain ⟨k, best, hk, rfl, rfl, hb, HI⟩ := hrel
    by_cases hlt : k < l.length
    · obtain ⟨q, off, rfl, hc⟩ := HR.out k hlt
      have hf := HW.out k
      have e := drop_getD l k hlt
      have HE : Hid ((if kd (l.getD k 0) = 4 then 9221120237041090560 else chF swB (l.drop (k + 1)) (if swB (l.getD k 0) best then l.getD k 0 else best)) = chF swB l start) := by
        have := HI.out
        rw [e] at this
        exact Lib.hid this
      clear e HI
      have hltI : (k : Int) < (l.length : Int) := by omega
      generalize l.getD k 0 = f at *
      have K := Lib.hid (fl_kind f hf w)
      have BF := Lib.hid (fl_swap f best hf hb w)
      have HB := Lib.hid hb
      have HF := Lib.hid hf
      by_cases h4 : kd f = 4
      · have K := K.out
        rw [h4] at K
        have K := Lib.hid K
        have HE1 := HE.out
        rw [if_pos h4] at HE1
        have HE2 := Lib.hid HE1
        clear h4 hb hf HE HE1
        go_wp2_with (first | (go_at_call 13; refine (K.out).mono ?_; rintro e1 w1 ⟨rfl, rfl⟩) | (go_at_call 9; refine (fl_of_nan _).mono ?_; rintro e1 w1 ⟨rfl, rfl⟩))
        go_ret
        exact ⟨by rw [← HE2.out]; rfl, rfl⟩
      · have h4' : (kd f == 4) = false := by simpa using h4
        have HE1 := HE.out
        rw [if_neg h4] at HE1
        have HE2 := Lib.hid HE1
        clear HE HE1
        generalize hv : swB f best = v at *
        generalize kd f = kf at *
        clear h4 hb hf hv
        cases v
        all_goals
          have HE3 := HE2.out
          simp only [Bool.false_eq_true, if_true, if_false] at HE3
          have HE4 := Lib.hid HE3
          clear HE2 HE3
          go_wp2_with (first | (go_at_call 13; refine (K.out).mono ?_; rintro e1 w1 ⟨rfl, rfl⟩) | (go_at_call 36; refine (BF.out).mono ?_; rintro e1 w1 ⟨rfl, rfl⟩))
          go_round
          case rel => exact ⟨k + 1, _, by omega, by go_num, rfl, by first | exact HB.out | exact HF.out, HE4⟩
          case measure => simp [intOf]; omega
    · obtain rfl : k = l.length := by omega
      have HE1 := HI.out
      rw [List.drop_length] at HE1
      have HE2 := Lib.hid HE1
      clear HI HE1
      go_wp2
      go_ret
      exact ⟨by rw [← HE2.out]; rfl, rfl⟩

theorem fl_of_inf (w : World) : Calls Tryd.prog 9 #[.int .u64 9218868437227405312] w fun e w' => e = .returned (.float .f64 9218868437227405312) ∧ w = w' := fl_of 9218868437227405312 w
theorem fl_of_ninf (w : World) : Calls Tryd.prog 9 #[.int .u64 18442240474082181120] w fun e w' => e = .returned (.float .f64 18442240474082181120) ∧ w = w' := fl_of 18442240474082181120 w
theorem fl_of_sign (w : World) : Calls Tryd.prog 9 #[.int .u64 9223372036854775808] w fun e w' => e = .returned (.float .f64 9223372036854775808) ∧ w = w' := fl_of 9223372036854775808 w

theorem fl_least (l : List Nat) (a : Option Addr) (cap : Nat) (w : World) (hrow : FlRow w a l) (hl : l.length ≤ 9223372036854775807) (hwf : ∀ j, l.getD j 0 < 18446744073709551616) :
    Calls Tryd.prog 25 #[.slice a l.length cap] w fun e w' => e = .returned (.float .f64 (chF bfB l 9218868437227405312)) ∧ w = w' := by
  have C := Lib.hid (choose_least l a cap 9218868437227405312 w hrow hl hwf (by decide))
  clear hrow hl hwf
  go_enter Tryd.func25, Tryd.ntmps25
  go_wp2_with (first | (go_at_call 9; refine (fl_of_inf _).mono ?_; rintro e1 w1 ⟨rfl, rfl⟩) | (go_at_call 35; refine (C.out).mono ?_; rintro e1 w1 ⟨rfl, rfl⟩))
  go_ret
  exact ⟨rfl, rfl⟩

theorem fl_most (l : List Nat) (a : Option Addr) (cap : Nat) (w : World) (hrow : FlRow w a l) (hl : l.length ≤ 9223372036854775807) (hwf : ∀ j, l.getD j 0 < 18446744073709551616) :
    Calls Tryd.prog 27 #[.slice a l.length cap] w fun e w' => e = .returned (.float .f64 (chF swB l 18442240474082181120)) ∧ w = w' := by
  have C := Lib.hid (choose_most l a cap 18442240474082181120 w hrow hl hwf (by decide))
  clear hrow hl hwf
  go_enter Tryd.func27, Tryd.ntmps27
  go_wp2_with (first | (go_at_call 9; refine (fl_of_ninf _).mono ?_; rintro e1 w1 ⟨rfl, rfl⟩) | (go_at_call 35; refine (C.out).mono ?_; rintro e1 w1 ⟨rfl, rfl⟩))
  go_ret
  exact ⟨rfl, rfl⟩

theorem fl_minus (b : Nat) (hb : b < 18446744073709551616) (v : Bool) (hv : sgB b = v) (w : World) : Calls Tryd.prog 38 #[.float .f64 b] w fun e w' => e = .returned (.string (if v then ⟨#[45]⟩ else ⟨#[]⟩)) ∧ w = w' := by
  have S := fl_sign b hb w
  rw [hv] at S
  have S := Lib.hid S
  clear hb hv
  cases v
  all_goals
    go_enter Tryd.func38, Tryd.ntmps38
    go_wp2_with (go_at_call 15; refine (S.out).mono ?_; rintro e1 w1 ⟨rfl, rfl⟩)
    go_ret
    exact ⟨rfl, rfl⟩

theorem t_zero (w : World) : Calls Tryd.prog 29 #[.float .f64 9223372036854775808] w fun e w' => e = .returned (.string ⟨#[45, 48, 112, 48]⟩) ∧ w = w' := by
  have K := fl_kind 9223372036854775808 (by decide) w
  rw [show kd 9223372036854775808 = 0 by decide] at K
  have K := Lib.hid K
  have M := fl_minus 9223372036854775808 (by decide) true (by decide) w
  have M := Lib.hid M
  go_enter Tryd.func29, Tryd.ntmps29
  go_wp2_with (first | (go_at_call 13; refine (K.out).mono ?_; rintro e1 w1 ⟨rfl, rfl⟩) | (go_at_call 38; refine (M.out).mono ?_; rintro e1 w1 ⟨rfl, rfl⟩))
  go_ret
  exact ⟨rfl, rfl⟩

theorem tab_grow {w : World} (h : PowTab w) {w' : World} (hb : Below w.heap.size w w') : PowTab w' := by
  unfold PowTab Lib.TabIs World.var? at *
  cases hg : (Tryd.prog).globalNamed "internal/strconv.uint64pow10" with
  | none => simp [hg] at h
  | some g =>
    simp only [hg, Option.bind_some] at h ⊢
    have hlt : g < w.heap.size := by
      rcases Nat.lt_or_ge g w.heap.size with h' | h'
      · exact h'
      · rw [Array.getElem?_eq_none h'] at h; simp at h
    rw [hb.block g hlt]
    exact h

theorem t_tenth (w : World) (hT : PowTab w) : Calls Tryd.prog 29 #[.float .f64 4591870180066957722] w fun e w' => e = .returned (.string ⟨#[51, 54, 48, 50, 56, 55, 57, 55, 48, 49, 56, 57, 54, 51, 57, 55, 112, 45, 53, 53]⟩) ∧ Below w.heap.size w w' := by
  have K := fl_kind 4591870180066957722 (by decide) w
  rw [show kd 4591870180066957722 = 2 by decide] at K
  have K := Lib.hid K
  have M := Lib.hid (fl_minus 4591870180066957722 (by decide) false (by decide) w)
  have S := Lib.hid (s_tenth w)
  have F := fmt_pub 3602879701896397 (by decide) (by decide) w hT
  rw [show Lib.decDigits 3602879701896397 = [51, 54, 48, 50, 56, 55, 57, 55, 48, 49, 56, 57, 54, 51, 57, 55] by decide +kernel] at F
  have F := Lib.hid F
  have I := fun w1 (hb : Below w.heap.size w w1) => Tryd.strconv_Itoa (-55) (by decide) (by decide) w1 (tab_grow hT hb)
  rw [show Lib.itoa (-55) = [45, 53, 53] by decide +kernel] at I
  have I := Lib.hid I
  clear hT
  go_enter Tryd.func29, Tryd.ntmps29
  go_wp2_with (first | (go_at_call 13; refine (K.out).mono ?_; rintro e1 w1 ⟨rfl, rfl⟩) | (go_at_call 38; refine (M.out).mono ?_; rintro e1 w1 ⟨rfl, rfl⟩) | (go_at_call 39; refine (S.out).mono ?_; rintro e1 w1 ⟨rfl, rfl⟩) | (go_at_call 40; refine (F.out).mono ?_; rintro e1 w1 ⟨rfl, hb1⟩) | (go_at_call 41; refine (I.out _ hb1).mono ?_; rintro e1 w2 ⟨rfl, kk, os, rfl⟩))
  go_ret
  refine ⟨rfl, hb1.trans ((below_grow os kk).mono hb1.size)⟩

theorem two_row (w : World) (x y : Nat) : FlRow (w.alloc (.cells #[.float .f64 x, .float .f64 y] 23)) (some ⟨w.heap.size, 0, none⟩) [x, y] := by
  intro j hj
  refine ⟨w.heap.size, 0, rfl, ?_⟩
  match j, hj with
  | 0, _ => simp
  | 1, _ => simp

theorem fl_lives (w : World) (hT : PowTab w) : Calls Tryd.prog 17 #[] w fun e w' => e = .returned (.bool true) ∧ Below w.heap.size w w' := by
  have T1 := Lib.hid (t_tenth w hT)
  clear hT
  have L : Hid (∀ w1 : World, Calls Tryd.prog 25 #[.slice (some ⟨w1.heap.size, 0, none⟩) 2 2] (w1.alloc (.cells #[.float .f64 0, .float .f64 9223372036854775808] 23)) fun e w' => e = .returned (.float .f64 9223372036854775808) ∧ (w1.alloc (.cells #[.float .f64 0, .float .f64 9223372036854775808] 23)) = w') := by
    intro w1
    have := fl_least [0, 9223372036854775808] (some ⟨w1.heap.size, 0, none⟩) 2 _ (two_row w1 0 9223372036854775808) (by decide) (by intro j; match j with | 0 => decide | 1 => decide | (n + 2) => simp)
    rw [show chF bfB [0, 9223372036854775808] 9218868437227405312 = 9223372036854775808 by decide] at this
    exact this
  have SM := fun w1 => fl_same 9223372036854775808 9223372036854775808 w1
  simp only [beq_self_eq_true] at SM
  have SM := Lib.hid SM
  go_enter Tryd.func17, Tryd.ntmps17
  go_wp2_with (first | (go_at_call 9; refine (fl_of_sign _).mono ?_; rintro e1 w1 ⟨rfl, rfl⟩))
  refine (T1.out).mono ?_
  rintro e1 w1 ⟨rfl, hb⟩
  go_wp2_with fail
  refine (t_zero _).mono ?_
  rintro e1 w2 ⟨rfl, rfl⟩
  go_wp2_with fail
  refine (L.out _).mono ?_
  rintro e1 w3 ⟨rfl, rfl⟩
  go_wp2_with fail
  refine (SM.out _).mono ?_
  rintro e1 w4 ⟨rfl, rfl⟩
  go_wp2
  go_ret
  exact ⟨rfl, hb.alloc hb.size _⟩

end Go.Proofs.YtflkbefiopnigaaDoor
