/- The writer and the reader that nobody made (layer 5). -/
import Derived.Test.YtfgdfhcefgblaaaWr
namespace Go.Proofs.Ytfgdfhcefgblaaa
open Go.ChangeShapes Go.WideShapes Go.ChangeAt Go.RowKit

theorem x_of (b : Nat) (w : World) : (callFunc 35 #[.int .u64 b]).run Try.prog w = .ok (.value (.float .f64 b)) w := by
  rw [run_callFunc_extern (e := Extern.MathFloatBits.float64frombits) Try.func35 (by kernel_rfl) (by kernel_rfl) (by kernel_rfl) (by kernel_rfl)]
  rfl

theorem x_bits (b : Nat) (w : World) : (callFunc 27 #[.float .f64 b]).run Try.prog w = .ok (.value (.int .u64 b)) w := by
  rw [run_callFunc_extern (e := Extern.MathFloatBits.float64bits) Try.func27 (by kernel_rfl) (by kernel_rfl) (by kernel_rfl) (by kernel_rfl)]
  rfl

theorem fl_of (b : Nat) (w : World) : Calls Try.prog 33 #[.int .u64 b] w fun e w' => e = .returned (.float .f64 b) ∧ w = w' := by
  have X := x_of b
  go_enter Try.func33, Try.ntmps33
  go_wp2
  go_ret
  exact ⟨rfl, rfl⟩

theorem fl_bits (b : Nat) (w : World) : Calls Try.prog 11 #[.float .f64 b] w fun e w' => e = .returned (.int .u64 b) ∧ w = w' := by
  have X := x_bits b
  go_enter Try.func11, Try.ntmps11
  go_wp2
  go_ret
  exact ⟨rfl, rfl⟩

theorem wn_num (n : Int) (w : World) : Calls Try.prog 21 #[.pointer none, .int .u64 n] w fun e w' => e = .returned (.tuple #[]) ∧ w = w' := by
  go_enter Try.func21, Try.ntmps21
  go_wp2
  first | go_end0 | ((try simp only [Exit.inBlock, Exit.then]); refine bodyPost_ret (results_none rfl _ _ _) rfl ?_)
  first | exact ⟨rfl, rfl⟩ | rfl

theorem wn_float (b : Nat) (w : World) : Calls Try.prog 32 #[.pointer none, .float .f64 b] w fun e w' => e = .returned (.tuple #[]) ∧ w = w' := by
  go_enter Try.func32, Try.ntmps32
  go_wp2
  first | go_end0 | ((try simp only [Exit.inBlock, Exit.then]); refine bodyPost_ret (results_none rfl _ _ _) rfl ?_)
  first | exact ⟨rfl, rfl⟩ | rfl

theorem wn_text (s : Value) (w : World) : Calls Try.prog 34 #[.pointer none, s] w fun e w' => e = .returned (.tuple #[]) ∧ w = w' := by
  go_enter Try.func34, Try.ntmps34
  go_wp2
  first | go_end0 | ((try simp only [Exit.inBlock, Exit.then]); refine bodyPost_ret (results_none rfl _ _ _) rfl ?_)
  first | exact ⟨rfl, rfl⟩ | rfl

theorem wn_done (w : World) : Calls Try.prog 20 #[.pointer none] w fun e w' => e = .returned (.tuple #[.string ⟨#[]⟩, .int .i64 9]) ∧ w = w' := by
  go_enter Try.func20, Try.ntmps20
  go_wp2
  go_ret2
  exact ⟨rfl, rfl⟩

theorem rn_next1 (f : Value) (w : World) : Calls Try.prog 23 #[.pointer none, f] w fun e w' => e = .returned (.int .u64 0) ∧ w = w' := by
  go_enter Try.func23, Try.ntmps23
  go_wp2
  go_ret
  exact ⟨rfl, rfl⟩

theorem rn_next2 (f : Value) (w : World) : Calls Try.prog 25 #[.pointer none, f] w fun e w' => e = .returned (.int .i64 0) ∧ w = w' := by
  go_enter Try.func25, Try.ntmps25
  go_wp2
  go_ret
  exact ⟨rfl, rfl⟩

theorem rn_next3 (f : Value) (w : World) : Calls Try.prog 28 #[.pointer none, f] w fun e w' => e = .returned (.float .f64 0) ∧ w = w' := by
  go_enter Try.func28, Try.ntmps28
  go_wp2
  go_ret
  exact ⟨rfl, rfl⟩

theorem rn_next4 (f : Value) (w : World) : Calls Try.prog 30 #[.pointer none, f] w fun e w' => e = .returned (.string ⟨#[]⟩) ∧ w = w' := by
  go_enter Try.func30, Try.ntmps30
  go_wp2
  go_ret
  exact ⟨rfl, rfl⟩

theorem rn_num (w : World) : Calls Try.prog 7 #[.pointer none] w fun e w' => e = .returned (.int .u64 0) ∧ w = w' := by
  go_enter Try.func7, Try.ntmps7
  go_wp2_with (go_at_call 23; refine (rn_next1 _ _).mono ?_; rintro e1 w1 ⟨rfl, rfl⟩)
  go_ret
  exact ⟨rfl, rfl⟩

theorem rn_int (w : World) : Calls Try.prog 9 #[.pointer none] w fun e w' => e = .returned (.int .i64 0) ∧ w = w' := by
  go_enter Try.func9, Try.ntmps9
  go_wp2_with (go_at_call 25; refine (rn_next2 _ _).mono ?_; rintro e1 w1 ⟨rfl, rfl⟩)
  go_ret
  exact ⟨rfl, rfl⟩

theorem rn_float (w : World) : Calls Try.prog 12 #[.pointer none] w fun e w' => e = .returned (.float .f64 0) ∧ w = w' := by
  go_enter Try.func12, Try.ntmps12
  go_wp2_with (go_at_call 28; refine (rn_next3 _ _).mono ?_; rintro e1 w1 ⟨rfl, rfl⟩)
  go_ret
  exact ⟨rfl, rfl⟩

theorem rn_text (w : World) : Calls Try.prog 14 #[.pointer none] w fun e w' => e = .returned (.string ⟨#[]⟩) ∧ w = w' := by
  go_enter Try.func14, Try.ntmps14
  go_wp2_with (go_at_call 30; refine (rn_next4 _ _).mono ?_; rintro e1 w1 ⟨rfl, rfl⟩)
  go_ret
  exact ⟨rfl, rfl⟩

theorem rn_left (w : World) : Calls Try.prog 16 #[.pointer none] w fun e w' => e = .returned (.int .i64 0) ∧ w = w' := by
  go_enter Try.func16, Try.ntmps16
  go_wp2
  go_ret
  exact ⟨rfl, rfl⟩

theorem rn_err (w : World) : Calls Try.prog 17 #[.pointer none] w fun e w' => e = .returned (.int .i64 9) ∧ w = w' := by
  go_enter Try.func17, Try.ntmps17
  go_wp2
  go_ret
  exact ⟨rfl, rfl⟩

theorem wn_int (n : Int) (w : World) : Calls Try.prog 22 #[.pointer none, .int .i64 n] w fun e w' => e = .returned (.tuple #[]) ∧ w = w' := by
  by_cases h : 0 ≤ n
  all_goals
    go_enter Try.func22, Try.ntmps22
    go_wp2_with (go_at_call 21; refine (wn_num _ _).mono ?_; rintro e1 w1 ⟨rfl, rfl⟩)
    first | go_end0 | ((try simp only [Exit.inBlock, Exit.then]); refine bodyPost_ret (results_none rfl _ _ _) rfl ?_)
    first | exact ⟨rfl, rfl⟩ | rfl

theorem wn_write (k : Int) (hk0 : 0 ≤ k) (hk1 : k ≤ 255) (n : Nat) (s : ByteArray) (w : World) : Calls Try.prog 19 #[.pointer none, .agg #[.int .u8 k, .int .u64 n, .string s]] w fun e w' => e = .returned (.tuple #[]) ∧ Below w.heap.size w w' := by
  have B : Hid (Below w.heap.size w (w.alloc (.cells #[.int .u8 k, .int .u64 n, .string s] 46))) := Lib.hid ((Below.refl _ w).alloc (Nat.le_refl _) _)
  by_cases h0 : k % 4 = 0
  · go_enter Try.func19, Try.ntmps19
    go_wp2_with (go_at_call 21; refine (wn_num _ _).mono ?_; rintro e1 w1 ⟨rfl, rfl⟩)
    first | go_end0 | ((try simp only [Exit.inBlock, Exit.then]); refine bodyPost_ret (results_none rfl _ _ _) rfl ?_)
    exact ⟨rfl, B.out⟩
  by_cases h1 : k % 4 = 1
  · go_enter Try.func19, Try.ntmps19
    go_wp2_with (go_at_call 22; refine (wn_int _ _).mono ?_; rintro e1 w1 ⟨rfl, rfl⟩)
    first | go_end0 | ((try simp only [Exit.inBlock, Exit.then]); refine bodyPost_ret (results_none rfl _ _ _) rfl ?_)
    exact ⟨rfl, B.out⟩
  by_cases h2 : k % 4 = 2
  · go_enter Try.func19, Try.ntmps19
    go_wp2_with (first | (go_at_call 33; refine (fl_of _ _).mono ?_; rintro e1 w1 ⟨rfl, rfl⟩) | (go_at_call 32; refine (wn_float _ _).mono ?_; rintro e1 w1 ⟨rfl, rfl⟩))
    first | go_end0 | ((try simp only [Exit.inBlock, Exit.then]); refine bodyPost_ret (results_none rfl _ _ _) rfl ?_)
    exact ⟨rfl, B.out⟩
  · go_enter Try.func19, Try.ntmps19
    go_wp2_with (go_at_call 34; refine (wn_text _ _).mono ?_; rintro e1 w1 ⟨rfl, rfl⟩)
    first | go_end0 | ((try simp only [Exit.inBlock, Exit.then]); refine bodyPost_ret (results_none rfl _ _ _) rfl ?_)
    exact ⟨rfl, B.out⟩

theorem wr_new_fin {w0 w : World} {S : Nat → Prop} (h : At (pur True) w0 S w) : At (wrA w.heap.size [] false) w0 S (w.alloc (.cells #[.slice none 0 0, .bool false] 63)) := by
  refine wrA_of (v := .slice none 0 0) ?_
  exact (((h.own_nil 5 1).alloc (.cells #[.slice none 0 0, .bool false] 63)).re (B := (blk w.heap.size (.cells #[.slice none 0 0, .bool false] 63) * own 5 1 (.slice none 0 0) 0 []) * pur True) (by ac_rfl)).nounit

theorem wr_new : Tri Try.prog 18 #[] (pur True) (fun p : Nat => .pointer (some ⟨p, 0, none⟩)) (fun p => wrA p [] false) := by
  intro w S h
  have FIN := Lib.hid (wr_new_fin (At.refl h))
  clear h
  go_enter Try.func18, Try.ntmps18
  go_wp2
  go_ret
  exact ⟨_, rfl, FIN.out⟩

theorem wr_int {p : Nat} {bs : List UInt8} {lg : Bool} (n : Int) (h0 : -9223372036854775808 ≤ n) (h1 : n ≤ 9223372036854775807) (hb : bs.length ≤ 10000000) :
    Tri1 Try.prog 22 #[.pointer (some ⟨p, 0, none⟩), .int .i64 n] (wrA p bs lg) (.tuple #[]) (wrA p (bs ++ leb (if 0 ≤ n then (2 * n).toNat else (-2 * n - 1).toNat)) lg) := by
  intro w S h
  by_cases hn : 0 ≤ n
  · rw [if_pos hn]
    obtain ⟨m, rfl⟩ := Int.eq_ofNat_of_zero_le hn
    have N := wr_num (p := p) (bs := bs) (lg := lg) (2 * m) (by omega) hb w S h
    rw [show (2 * (m : Int)).toNat = 2 * m by omega]
    have E : ((2 * m : Nat) : Int) = 2 * (m : Int) := by omega
    rw [E] at N
    have N := Lib.hid N
    clear h E
    go_enter Try.func22, Try.ntmps22
    go_wp2_with (go_at_call 21; refine N.out.mono ?_; rintro e1 w1 ⟨rfl, hA⟩)
    first | go_end0 | ((try simp only [Exit.inBlock, Exit.then]); refine bodyPost_ret (results_none rfl _ _ _) rfl ?_)
    exact ⟨rfl, hA⟩
  · rw [if_neg hn]
    obtain ⟨m, hm⟩ : ∃ m : Nat, n = -(m : Int) - 1 := ⟨(-n - 1).toNat, by omega⟩
    subst hm
    have N := wr_num (p := p) (bs := bs) (lg := lg) (2 * m + 1) (by omega) hb w S h
    rw [show (-2 * (-(m : Int) - 1) - 1).toNat = 2 * m + 1 by omega]
    have E : ((2 * m + 1 : Nat) : Int) = 2 * (m : Int) + 1 := by omega
    rw [E] at N
    have N := Lib.hid N
    have e1 : -((-(m : Int) - 1) + 1) = (m : Int) := by omega
    clear h E
    go_enter Try.func22, Try.ntmps22
    go_wp2_with (go_at_call 21; refine N.out.mono ?_; rintro e1 w1 ⟨rfl, hA⟩)
    go_end0
    exact ⟨rfl, hA⟩

end Go.Proofs.Ytfgdfhcefgblaaa
