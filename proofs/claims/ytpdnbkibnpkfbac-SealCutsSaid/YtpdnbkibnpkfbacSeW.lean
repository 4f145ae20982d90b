/- Layer 6: the document's register, bit by bit; the program's, by its table. -/
import Derived.Test.YtpdnbkibnpkfbacSealM
import Derived.Test.YtpdnbkibnpkfbacSL
import Derived.Laws.BitsAllLaws
import Derived.Laws.Tables
namespace Go.Proofs.Ytpdnbkibnpkfbac
open Go.ChangeShapes Go.WideShapes Go.ChangeAt Go.RowKit

/-- a binary operation whose value is told -/
theorem wpList_bin {P : Program} (w : World) {ops : Array Oper} {rest : List Oper} {o : Oper} {a : Act} {Q : Exit → Act → World → Prop} (hg : o.guard = none) (op : BinOp) (t : TypeId) (x y : Operand) (t2 : TypeId)
    (hop : o.op = Op.binOp op t x y t2) (u1 u2 : Value) (h1 : a.eval x = u1) (h2 : a.eval y = u2) (hgd : (eqGuard op t x y u1 u2).run P w = .ok () w) (v : Value) (hrun : (binOp op t u1 u2).run P w = .ok v w) (hK : wpList P ops Q rest (a.put o.dst v) w) : wpList P ops Q (o :: rest) a w := by
  refine wpList_plain hg fun K hK' => ?_
  unfold Oper.wp
  simp [execOp, hop, h1, h2, hgd, hrun, Result.andThen]
  exact hK' _ _ hK

theorem wpList_un {P : Program} (w : World) {ops : Array Oper} {rest : List Oper} {o : Oper} {a : Act} {Q : Exit → Act → World → Prop} (hg : o.guard = none) (op : UnOp) (t : TypeId) (x : Operand)
    (hop : o.op = Op.unOp op t x) (u1 : Value) (h1 : a.eval x = u1) (v : Value) (hrun : (Op.unary op u1).run P w = .ok v w) (hK : wpList P ops Q rest (a.put o.dst v) w) : wpList P ops Q (o :: rest) a w := by
  refine wpList_plain hg fun K hK' => ?_
  unfold Oper.wp
  simp [execOp, hop, h1, hrun, Result.andThen]
  exact hK' _ _ hK

theorem run_xorP {P : Program} (t : TypeId) (r : Nat) (h : r < 4294967296) (w : World) : (binOp .xor t (.int .u32 r) (.int .u32 2197175160)).run P w = .ok (.int .u32 ((r ^^^ Crc.poly : Nat) : Int)) w := by
  rw [show ((r ^^^ Crc.poly : Nat) : Int) = bits .xor .u32 (r : Int) 2197175160 by rw [show (2197175160 : Int) = ((2197175160 : Nat) : Int) by rfl, u32_xor_nat r 2197175160 h (by decide)]; rfl]
  rfl

theorem byte_drop (s : ByteArray) (k : Nat) (h : k < s.size) : s.data.toList.drop k = s[k] :: s.data.toList.drop (k + 1) := by
  rw [List.drop_eq_getElem_cons (by simpa using h)]; rfl

theorem byte_take (s : ByteArray) (k : Nat) (h : k < s.size) : s.data.toList.take (k + 1) = s.data.toList.take k ++ [s[k]] := by
  rw [List.take_succ_eq_append_getElem (by simpa using h)]; rfl

/-- the document's register behind a text -/
theorem r_comes (r0 : Nat) (hr : r0 < 4294967296) (s : ByteArray) (hs : s.size ≤ maxLen) (w : World) : Calls Try.prog 37 #[.int .u32 r0, .string s] w fun e w' => e = .returned (.int .u32 (Crc.run r0 s.data.toList)) ∧ w = w' := by
  unfold maxLen at hs
  go_enter Try.func37, Try.ntmps37
  go_wp2
  go_loop [0, 5] (fun r i => ∃ k : Nat, k ≤ s.size ∧ i = .int .i64 k ∧ r = .int .u32 (Crc.run r0 (s.data.toList.take k))) (fun _ i => s.size - (intOf i).toNat)
  case atStart => exact ⟨0, Nat.zero_le _, rfl, rfl⟩
  case round =>
    obtain ⟨k, hk, rfl, rfl⟩ := hrel
    by_cases hlt : k < s.size
    · have R1 := Crc.run_lt r0 (s.data.toList.take k) hr
      have HT := Lib.hid (byte_take s k hlt)
      have c1 := s[k].toNat_lt
      generalize hR : Crc.run r0 (s.data.toList.take k) = r1 at *
      have HR := Lib.hid hR
      clear hR
      go_wp2
      generalize hC : s[k].toNat = cc at *
      have HC := Lib.hid hC
      clear hC
      go_loop [0, 6, 7] (fun r c j => ∃ m rr c2 : Nat, m ≤ 8 ∧ j = .int .i64 m ∧ r = .int .u32 rr ∧ c = .int .u32 c2 ∧ rr < 4294967296 ∧ c2 < 256 ∧ Hid (c2 = cc / 2 ^ m) ∧ Hid (rr ^^^ c2 = Crc.it m (r1 ^^^ cc))) (fun _ _ j => (8 - intOf j).toNat)
      case atStart => exact ⟨0, r1, cc, by omega, rfl, rfl, rfl, R1, c1, Lib.hid (by simp), Lib.hid rfl⟩
      case round =>
        obtain ⟨m, rr, c2, hm, rfl, rfl, rfl, hrr, hc2, HA, HB⟩ := hrel
        by_cases hm8 : m < 8
        · have HA2 : Hid (c2 / 2 = cc / 2 ^ (m + 1)) := Lib.hid (by rw [HA.out, Nat.div_div_eq_div_mul, Nat.pow_succ])
          have HB2 : Hid (Crc.rb rr c2 ^^^ c2 / 2 = Crc.it (m + 1) (r1 ^^^ cc)) := Lib.hid (Crc.rb_round rr c2 _ m HB.out)
          have HL := Lib.hid (Crc.rb_lt rr c2 hrr)
          by_cases hsame : rr % 2 = c2 % 2
          · have hb : ((rr : Int) % 2 == (c2 : Int) % 2) = true := by rw [beq_iff_eq]; omega
            have er : Crc.rb rr c2 = rr / 2 := by unfold Crc.rb; rw [if_pos hsame]
            rw [er] at HB2 HL
            clear hsame er
            go_wp2
            go_round
            case rel => exact ⟨m + 1, rr / 2, c2 / 2, by omega, by go_num, by go_num, by go_num, HL.out, by omega, HA2, HB2⟩
            case measure => simp [intOf]; omega
          · have hb : ((rr : Int) % 2 == (c2 : Int) % 2) = false := by rw [beq_eq_false_iff_ne]; omega
            have er : Crc.rb rr c2 = rr / 2 ^^^ Crc.poly := by unfold Crc.rb; rw [if_neg hsame]
            rw [er] at HB2 HL
            have E := run_xorP (P := Try.prog) 22 (rr / 2) (by omega) w
            rw [show ((rr / 2 : Nat) : Int) = (rr : Int) / 2 by omega] at E
            have EH := Lib.hid E
            clear hsame er E
            go_wp2_with (refine wpList_bin _ rfl .xor _ _ _ _ rfl _ _ rfl rfl rfl _ EH.out ?_)
            go_round
            case rel => exact ⟨m + 1, rr / 2 ^^^ Crc.poly, c2 / 2, by omega, by go_num, rfl, by go_num, HL.out, by omega, HA2, HB2⟩
            case measure => simp [intOf]; omega
        · obtain rfl : m = 8 := by omega
          have HE : Hid (rr = Crc.run r0 (s.data.toList.take (k + 1))) := by
            have e0 : c2 = 0 := by rw [HA.out]; exact Nat.div_eq_of_lt c1
            have := HB.out
            rw [e0, Nat.xor_zero] at this
            rw [HT.out, Crc.run_snoc, HR.out, this, HC.out]
            exact Lib.hid rfl
          clear hm8
          go_wp2
          go_round
          case rel => exact ⟨k + 1, by omega, by go_num, by rw [← HE.out]⟩
          case measure => simp [intOf]; omega
    · obtain rfl : k = s.size := by omega
      go_wp2
      go_ret
      exact ⟨ret_int (by rw [List.take_of_length_le (by simp)]), rfl⟩

end Go.Proofs.Ytpdnbkibnpkfbac
