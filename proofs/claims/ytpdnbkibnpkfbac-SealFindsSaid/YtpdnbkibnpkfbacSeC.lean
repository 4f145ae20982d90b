/- Layer 6: the program's register, by its table. -/
import Derived.Test.YtpdnbkibnpkfbacSeW
namespace Go.Proofs.Ytpdnbkibnpkfbac
open Go.ChangeShapes Go.WideShapes Go.ChangeAt Go.RowKit

/-- the table's row -/
def tabF (i : Nat) : Value := .int .u32 (Crc.it 8 i)

theorem u8_in (r : Nat) : IntKind.u8.wrap (r : Int) = ((r % 256 : Nat) : Int) := by
  simp [IntKind.wrap, IntKind.bits, IntKind.signed]

theorem run_not32 {P : Program} (r : Nat) (h : r < 4294967296) (w : World) : (Op.unary .xor (.int .u32 r)).run P w = .ok (.int .u32 ((4294967295 - r : Nat) : Int)) w := by
  have e : bits .xor .u32 IntKind.u32.max (r : Int) = ((4294967295 - r : Nat) : Int) := by
    rw [show IntKind.u32.max = ((4294967295 : Nat) : Int) by rfl, u32_xor_nat 4294967295 r (by decide) h]
    congr 1
    apply Nat.eq_of_testBit_eq
    intro i
    have := Nat.testBit_two_pow_sub_succ (x := r) (n := 32) (by simpa using h) i
    rw [Nat.testBit_xor, show 4294967295 - r = 2 ^ 32 - (r + 1) by omega, this, show (4294967295 : Nat) = 2 ^ 32 - 1 by rfl, Nat.testBit_two_pow_sub_one]
    by_cases hi : i < 32
    · simp [hi]
    · rw [Nat.testBit_lt_two_pow (x := r) (i := i) (Nat.lt_of_lt_of_le (show r < 2 ^ 32 from h) (Nat.pow_le_pow_right (by omega) (by omega)))]; simp [hi]
  rw [← e]
  first | rfl | simp [Op.unary] | simp [Op.unary, go_sem]

set_option maxHeartbeats 1000000 in
/-- behind a text, by the table in block T -/
theorem s_continued (T : Nat) (sum : Nat) (hr : sum < 4294967296) (s : ByteArray) (hs : s.size ≤ maxLen) (w : World) (hT : w.rowIs T 22 256 tabF ∨ w.rowIs T 63 256 tabF) : Calls Try.prog 36 #[.pointer (some ⟨T, 0, none⟩), .int .u32 sum, .string s] w fun e w' => e = .returned (.int .u32 ((4294967295 - Crc.run (4294967295 - sum) s.data.toList : Nat) : Int)) ∧ ∃ n, w' = w.drewN n := by
  unfold maxLen at hs
  have N1 := Lib.hid (run_not32 (P := Try.prog) sum hr w)
  have r0 : 4294967295 - sum < 4294967296 := by omega
  have CE : ∀ n j, j < 256 → (w.drewN n).cell? ⟨T, j, none⟩ = some (tabF j) := by
    intro n j hj
    rcases hT with h | h
    · exact h.cell hj
    · exact h.cell hj
  have CEH := Lib.hid CE
  clear CE hT
  generalize 4294967295 - sum = q0 at *
  go_enter Try.func36, Try.ntmps36
  go_wp2_with (refine wpList_un _ rfl .xor _ _ rfl _ rfl _ N1.out ?_)
  go_loopw [7, 13] (fun r i wr => ∃ k n : Nat, k ≤ s.size ∧ i = .int .i64 k ∧ wr = w.drewN n ∧ r = .int .u32 (Crc.run q0 (s.data.toList.take k))) (fun _ i _ => s.size - (intOf i).toNat)
  case atStart => exact ⟨0, 0, Nat.zero_le _, rfl, rfl, rfl⟩
  case round =>
    obtain ⟨k, n, hk, rfl, rfl, rfl⟩ := hrel
    by_cases hlt : k < s.size
    · have R1 := Crc.run_lt q0 (s.data.toList.take k) r0
      have HT := byte_take s k hlt
      have c1 := s[k].toNat_lt
      have HS : Hid (Crc.run q0 (s.data.toList.take (k + 1)) = Crc.by_ (Crc.run q0 (s.data.toList.take k)) s[k].toNat) := Lib.hid (by rw [HT, Crc.run_snoc])
      clear HT
      generalize Crc.run q0 (s.data.toList.take k) = r1 at *
      have B := Crc.by_table r1 s[k].toNat c1
      have cx : r1 % 256 ^^^ s[k].toNat < 256 := Nat.xor_lt_two_pow (n := 8) (by omega) (by omega)
      have E1 := u8_in r1
      have E2 := u8_xor_nat (r1 % 256) s[k].toNat (by omega) c1
      have E3 := u32_xor_nat (r1 / 256) (Crc.it 8 (r1 % 256 ^^^ s[k].toNat)) (by omega) (Crc.it_lt 8 _ (by omega))
      rw [← B] at E3
      rw [show ((r1 / 256 : Nat) : Int) = (r1 : Int) / 256 by omega] at E3
      rw [show ((r1 % 256 : Nat) : Int) = (r1 : Int) % 256 by omega] at E2
      have HB := Lib.hid B
      have CC := fun m => CEH.out m _ cx
      unfold tabF at CC
      clear B E1
      generalize r1 % 256 ^^^ s[k].toNat = x at *
      generalize Crc.it 8 x = tx at *
      generalize Crc.by_ r1 s[k].toNat = bx at *
      go_wp2
      go_quiet (fail)
      go_wp2
      go_roundw
      case rel => exact ⟨k + 1, n + nq, by omega, by go_num, by first | rfl | simp [World.drewN_add] | simp, by rw [HS.out]⟩
      case measure => simp [intOf]; omega
    · obtain rfl : k = s.size := by omega
      have N2 := Lib.hid (run_not32 (P := Try.prog) _ (Crc.run_lt q0 s.data.toList r0) (w.drewN n))
      have e : s.data.toList.take s.size = s.data.toList := List.take_of_length_le (by simp)
      rw [e]
      go_wp2_with (refine wpList_un _ rfl .xor _ _ rfl _ rfl _ N2.out ?_)
      go_ret
      exact ⟨rfl, _, rfl⟩

end Go.Proofs.Ytpdnbkibnpkfbac
