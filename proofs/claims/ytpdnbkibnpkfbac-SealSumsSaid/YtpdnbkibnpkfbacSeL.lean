/- Layer 6: the laws SealSums and SealCuts, walked. -/
import Derived.Test.YtpdnbkibnpkfbacSeO
namespace Go.Proofs.Ytpdnbkibnpkfbac
open Go.ChangeShapes Go.WideShapes Go.ChangeAt Go.RowKit

theorem sums_long (s t : ByteArray) (sum : Int) (h : 5000 < s.size + t.size) (h1 : s.size ≤ 140737488351232) (h2 : t.size ≤ 140737488351232) (w : World) : Calls Try.prog 3 #[.string s, .string t, .int .u32 sum] w fun e w' => e = .returned (.bool true) ∧ Below w.heap.size w w' := by
  have L := Lib.hid (se_lives w)
  go_enter Try.func3, Try.ntmps3
  go_wp2_with (go_at_call 9; refine L.out.mono ?_; rintro e1 w1 ⟨rfl, hb⟩)
  go_ret
  exact ⟨rfl, hb⟩

/-- what both Opens give, as one text and one error -/
def opS (t : ByteArray) : ByteArray := if t.size < 4 then ⟨#[]⟩ else if opB t.data.toList then t.extract 0 (t.size - 4) else ⟨#[]⟩
def opE (t : ByteArray) : Int := if t.size < 4 then 1 else if opB t.data.toList then 0 else 10

theorem s_open_any (t : ByteArray) (ht : t.size ≤ 100000) (w : World) : Calls Try.prog 10 #[.string t] w fun e w' => e = .returned (.tuple #[.string (opS t), .int .i64 (opE t)]) ∧ Below w.heap.size w w' := by
  unfold opS opE
  by_cases h : t.size < 4
  · rw [if_pos h, if_pos h]
    exact (s_open_short t h w).mono fun _ _ ⟨a, b⟩ => ⟨a, b ▸ Below.refl _ _⟩
  · rw [if_neg h, if_neg h]
    refine (s_open t (by omega) ht w).mono fun _ _ ⟨a, b⟩ => ⟨?_, b⟩
    rw [a]; unfold opW
    cases opB t.data.toList <;> rfl

theorem r_open_any (t : ByteArray) (ht : t.size ≤ 100000) (w : World) : Calls Try.prog 11 #[.string t] w fun e w' => e = .returned (.tuple #[.string (opS t), .int .i64 (opE t)]) ∧ Below w.heap.size w w' := by
  unfold opS opE
  by_cases h : t.size < 4
  · rw [if_pos h, if_pos h]
    exact (r_open_short t h w).mono fun _ _ ⟨a, b⟩ => ⟨a, b ▸ Below.refl _ _⟩
  · rw [if_neg h, if_neg h]
    refine (r_open t (by omega) ht w).mono fun _ _ ⟨a, b⟩ => ⟨?_, b⟩
    rw [a]; unfold opW
    cases opB t.data.toList <;> rfl

theorem s_of1 (s : ByteArray) (hs : s.size ≤ maxLen) (w : World) : Calls Try.prog 12 #[.slice (some ⟨w.heap.size, 0, none⟩) 1 1] (w.alloc (.cells #[.string s] 9)) fun e w' => e = .returned (.int .u32 ((4294967295 - Crc.run 4294967295 s.data.toList : Nat) : Int)) ∧ Below w.heap.size w w' := by
  have C := s_of [s] (some ⟨w.heap.size, 0, none⟩) 1 (by simp) (fun j => by match j with | 0 => exact hs | (n + 1) => exact Nat.zero_le _) _ (one_row w s)
  rw [show catB [s] = s.data.toList by simp [catB]] at C
  refine C.mono fun _ _ ⟨a, b⟩ => ⟨a, ((Below.refl _ w).alloc (Nat.le_refl _) _).trans (b.mono (by simp))⟩

set_option maxHeartbeats 1000000 in
theorem sums_any (s t : ByteArray) (sum : Nat) (hsum : sum < 4294967296) (h : s.size + t.size ≤ 5000) (w : World) : Calls Try.prog 3 #[.string s, .string t, .int .u32 sum] w fun e w' => e = .returned (.bool true) ∧ Below w.heap.size w w' := by
  have hm : s.size ≤ maxLen := by unfold maxLen; omega
  have O1 := Lib.hid (s_open_any t (by omega))
  have O2 := Lib.hid (r_open_any t (by omega))
  have F1 := Lib.hid (s_of1 s hm)
  have F2 := Lib.hid (r_of s hm)
  have M1 := Lib.hid (s_more sum hsum s hm)
  have M2 := Lib.hid (r_more sum hsum s hm)
  have S1 := Lib.hid (s_seal s (by omega))
  have S2 := Lib.hid (r_seal s (by omega))
  have L := Lib.hid se_lives
  clear hm hsum
  go_enter Try.func3, Try.ntmps3
  go_wp2_with fail
  refine (O1.out _).mono ?_
  rintro e w1 ⟨rfl, b1⟩
  go_wp2_with fail
  refine (O2.out _).mono ?_
  rintro e w2 ⟨rfl, b2⟩
  go_wp2_with fail
  refine (F1.out _).mono ?_
  rintro e w3 ⟨rfl, b3⟩
  go_wp2_with fail
  refine (F2.out _).mono ?_
  rintro e w4 ⟨rfl, rfl⟩
  go_wp2_with fail
  refine (M1.out _).mono ?_
  rintro e w5 ⟨rfl, b5⟩
  go_wp2_with fail
  refine (M2.out _).mono ?_
  rintro e w6 ⟨rfl, rfl⟩
  go_wp2_with fail
  refine (S1.out _).mono ?_
  rintro e w7 ⟨rfl, b7⟩
  go_wp2_with fail
  refine (S2.out _).mono ?_
  rintro e w8 ⟨rfl, b8⟩
  go_wp2_with fail
  refine (L.out _).mono ?_
  rintro e w9 ⟨rfl, b9⟩
  go_wp2
  go_ret
  have z1 := b1.size
  have z2 := b2.size
  have z3 := b3.size
  have z5 := b5.size
  have z7 := b7.size
  have z8 := b8.size
  exact ⟨rfl, Below.step (Below.step (Below.step (Below.step (Below.step (Below.step b1 b2 z1) b3 (by omega)) b5 (by omega)) b7 (by omega)) b8 (by omega)) b9 (by omega)⟩

theorem sums_law (s t : ByteArray) (x : Int) (hx : (Lit.int .u32 x).wf = true) (h1 : s.size ≤ 140737488351232) (h2 : t.size ≤ 140737488351232) (w : World) : Calls Try.prog 3 #[.string s, .string t, .int .u32 x] w fun e w' => e = .returned (.bool true) ∧ Below w.heap.size w w' := by
  have hb := bounds_u32 hx
  obtain ⟨n, rfl⟩ := Int.eq_ofNat_of_zero_le hb.1
  by_cases h : 5000 < s.size + t.size
  · exact sums_long s t n h h1 h2 w
  · exact sums_any s t n (by omega) (by omega) w

end Go.Proofs.Ytpdnbkibnpkfbac
