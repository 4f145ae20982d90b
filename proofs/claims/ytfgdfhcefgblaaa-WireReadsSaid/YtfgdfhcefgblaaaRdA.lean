/- The reader (layer 5): the numbers; Left, Err; num. -/
import Derived.Test.YtfgdfhcefgblaaaWrS
import Derived.Deep.QuietTactic
import Derived.BigQuiet
namespace Go.Proofs.Ytfgdfhcefgblaaa
open Go.ChangeShapes Go.WideShapes Go.ChangeAt Go.RowKit

/-- what is read of bytes when i bytes have made acc: the error, the number, how many bytes were looked at -/
def nmR : Nat → Nat → List UInt8 → Nat × Nat × Nat
  | i, _, [] => (1, 0, i)
  | i, acc, b :: r => if (0 < i ∧ b.toNat = 0) ∨ (9 ≤ i ∧ 1 < b.toNat) then (2, 0, i + 1) else if b.toNat < 128 then (0, acc + b.toNat % 128 * 128 ^ i, i + 1) else nmR (i + 1) (acc + b.toNat % 128 * 128 ^ i) r

theorem nmR_nil (i acc : Nat) : nmR i acc [] = (1, 0, i) := rfl
theorem nmR_bad {i acc : Nat} {b : UInt8} {r : List UInt8} (h : (0 < i ∧ b.toNat = 0) ∨ (9 ≤ i ∧ 1 < b.toNat)) : nmR i acc (b :: r) = (2, 0, i + 1) := by unfold nmR; rw [if_pos h]
theorem nmR_end {i acc : Nat} {b : UInt8} {r : List UInt8} (h : ¬ ((0 < i ∧ b.toNat = 0) ∨ (9 ≤ i ∧ 1 < b.toNat))) (hb : b.toNat < 128) : nmR i acc (b :: r) = (0, acc + b.toNat % 128 * 128 ^ i, i + 1) := by unfold nmR; rw [if_neg h, if_pos hb]
theorem nmR_on {i acc : Nat} {b : UInt8} {r : List UInt8} (h : ¬ ((0 < i ∧ b.toNat = 0) ∨ (9 ≤ i ∧ 1 < b.toNat))) (hb : ¬ b.toNat < 128) : nmR i acc (b :: r) = nmR (i + 1) (acc + b.toNat % 128 * 128 ^ i) r := by
  conv => lhs; unfold nmR
  rw [if_neg h, if_neg hb]

theorem pow128 (i : Nat) (h : i ≤ 9) : 128 ^ i ≤ 9223372036854775808 := Nat.le_trans (Nat.pow_le_pow_right (by omega) h) (by decide)

theorem acc_next {i acc x : Nat} (h : acc < 128 ^ i) (hx : x < 128) : acc + x * 128 ^ i < 128 ^ (i + 1) := by
  rw [Nat.pow_succ]
  have : x * 128 ^ i ≤ 127 * 128 ^ i := Nat.mul_le_mul_right _ (by omega)
  omega

theorem acc_fit {i acc x : Nat} (hi : i ≤ 9) (h : acc < 128 ^ i) (hx : x < 128) (h9 : i = 9 → x ≤ 1) : acc + x * 128 ^ i < 18446744073709551616 ∧ x * 128 ^ i < 18446744073709551616 := by
  rcases Nat.lt_or_ge i 9 with g | g
  · have h1 := acc_next h hx
    have h2 : 128 ^ (i + 1) ≤ 128 ^ 9 := Nat.pow_le_pow_right (by omega) (by omega)
    have h3 : (128 : Nat) ^ 9 = 9223372036854775808 := by decide
    omega
  · have : i = 9 := by omega
    subst this
    have := h9 rfl
    have h3 : (128 : Nat) ^ 9 = 9223372036854775808 := by decide
    rw [h3] at h ⊢
    omega

/-- the number that is read fits, its bytes are there -/
theorem nmR_fits : ∀ (l : List UInt8) (i acc : Nat), i ≤ 9 → acc < 128 ^ i → (nmR i acc l).1 ≤ 2 ∧ (nmR i acc l).2.1 < 18446744073709551616 ∧ (nmR i acc l).2.2 ≤ i + l.length ∧ ((nmR i acc l).1 ≠ 0 → (nmR i acc l).2.1 = 0) ∧ i ≤ (nmR i acc l).2.2
  | [], i, acc, _, _ => by
    rw [nmR_nil]
    refine ⟨?_, ?_, ?_, fun _ => rfl, ?_⟩ <;> dsimp only <;> first | omega | (simp; done) | (simp; omega)
  | b :: r, i, acc, hi, ha => by
    by_cases h : (0 < i ∧ b.toNat = 0) ∨ (9 ≤ i ∧ 1 < b.toNat)
    · rw [nmR_bad h]
      refine ⟨?_, ?_, ?_, fun _ => rfl, ?_⟩ <;> dsimp only [List.length_cons] <;> omega
    · have hf := acc_fit hi ha (Nat.mod_lt b.toNat (by omega : 0 < 128)) (fun e => by omega)
      by_cases hb : b.toNat < 128
      · rw [nmR_end h hb]
        refine ⟨?_, hf.1, ?_, fun g => absurd rfl g, ?_⟩ <;> dsimp only [List.length_cons] <;> omega
      · rw [nmR_on h hb]
        have hi9 : i ≠ 9 := by omega
        have := nmR_fits r (i + 1) (acc + b.toNat % 128 * 128 ^ i) (by omega) (acc_next ha (Nat.mod_lt _ (by omega)))
        refine ⟨this.1, this.2.1, ?_, this.2.2.2.1, by omega⟩
        have := this.2.2.1
        simp only [List.length_cons]; omega

theorem wrap64r (x : Int) (h0 : 0 ≤ x) (h1 : x < 18446744073709551616) : IntKind.u64.wrap x = x := by unfold IntKind.wrap; simp [IntKind.bits, IntKind.signed]; omega

def rdA (p : Nat) (s : ByteArray) (q e : Nat) : Asn := blk p (.cells #[.string s, .int .i64 q, .int .i64 e] 54 (0, 0))

theorem rd_cells {w0 w : World} {S : Nat → Prop} {p q e : Nat} {s : ByteArray} {C : Asn} (h : At (rdA p s q e * C) w0 S w) : w.cell? ⟨p, 0, none⟩ = some (.string s) ∧ w.cell? ⟨p, 1, none⟩ = some (.int .i64 q) ∧ w.cell? ⟨p, 2, none⟩ = some (.int .i64 e) ∧ (∀ i, w.frozen? ⟨p, i, none⟩ = false) := by
  have hb := At.blkIs h
  exact ⟨by simp [World.cell?, hb], by simp [World.cell?, hb], by simp [World.cell?, hb], fun i => by simp [World.frozen?, hb]⟩

theorem rd_set1 {w0 w : World} {S : Nat → Prop} {p q e : Nat} {s : ByteArray} {C : Asn} (h : At (rdA p s q e * C) w0 S w) (v : Nat) : At (rdA p s v e * C) w0 S (w.setCell ⟨p, 1, none⟩ (.int .i64 v)) := At.set_blk h 1 (.int .i64 v)
theorem rd_set2 {w0 w : World} {S : Nat → Prop} {p q e : Nat} {s : ByteArray} {C : Asn} (h : At (rdA p s q e * C) w0 S w) (v : Nat) : At (rdA p s q v * C) w0 S (w.setCell ⟨p, 2, none⟩ (.int .i64 v)) := At.set_blk h 2 (.int .i64 v)

theorem rd_left {w : World} {p q e : Nat} {s : ByteArray} {S : Nat → Prop} {w0 : World} {C : Asn} (hs : s.size ≤ 1000000000) (hq : q ≤ s.size) (h : At (rdA p s q e * C) w0 S w) : Calls Try.prog 16 #[.pointer (some ⟨p, 0, none⟩)] w fun x w' => x = .returned (.int .i64 ((s.size - q : Nat) : Int)) ∧ ∃ m, w' = w.drewN m := by
  obtain ⟨c0, c1, _, _⟩ := rd_cells h
  have e1 : IntKind.i64.wrap ((s.size : Int) - (q : Int)) = (s.size : Int) - (q : Int) := IntWalk.i64_in _ (by omega)
  have hr : ((s.size - q : Nat) : Int) = (s.size : Int) - (q : Int) := by omega
  rw [hr]
  clear h hr
  go_enter Try.func16, Try.ntmps16
  go_wp2
  go_quiet (fail)
  go_wp2
  go_ret
  exact ⟨rfl, _, rfl⟩

theorem rd_err {w : World} {p q e : Nat} {s : ByteArray} {S : Nat → Prop} {w0 : World} {C : Asn} (h : At (rdA p s q e * C) w0 S w) : Calls Try.prog 17 #[.pointer (some ⟨p, 0, none⟩)] w fun x w' => x = .returned (.int .i64 e) ∧ w = w' := by
  obtain ⟨_, _, c2, _⟩ := rd_cells h
  clear h
  go_enter Try.func17, Try.ntmps17
  go_wp2
  go_ret
  exact ⟨rfl, rfl⟩

theorem rd_new (s : ByteArray) : Tri Try.prog 6 #[.string s] (pur True) (fun p : Nat => .pointer (some ⟨p, 0, none⟩)) (fun p => rdA p s 0 0) := by
  intro w S h
  have A0 := Lib.hid ((At.refl h).alloc (.cells #[.string s, .int .i64 0, .int .i64 0] 54))
  clear h
  go_enter Try.func6, Try.ntmps6
  go_wp2
  go_ret
  exact ⟨_, rfl, At.dropr A0.out⟩

theorem run_shl7 {P : Program} (x i : Nat) (hi : i ≤ 9) (hf : x * 128 ^ i < 18446744073709551616) (w : World) : (Op.shift BinOp.shl IntKind.u64 (x : Int) IntKind.i64 (7 * (i : Int))).run P w = .ok (.int .u64 ((x * 128 ^ i : Nat) : Int)) w := by
  unfold Op.shift
  rw [if_neg (by omega)]
  have e2 : min (7 * (i : Int)).toNat IntKind.u64.bits = 7 * i := by
    show min (7 * (i : Int)).toNat 64 = 7 * i
    omega
  have e3 : (x : Int) * 2 ^ (7 * i) = ((x * 128 ^ i : Nat) : Int) := by
    rw [show (128 : Nat) = 2 ^ 7 from rfl, ← Nat.pow_mul]; push_cast; rfl
  simp only [e2]
  rw [e3, wrap64r _ (by omega) (by omega)]
  rfl

theorem or_add {acc x i : Nat} (h : acc < 128 ^ i) : acc ||| (x * 128 ^ i) = acc + x * 128 ^ i := by
  rw [show (128 : Nat) = 2 ^ 7 from rfl, ← Nat.pow_mul] at h ⊢
  rw [Nat.mul_comm, Nat.or_comm, ← Nat.two_pow_add_eq_or_of_lt h, Nat.add_comm]

theorem u8_clr (b : UInt8) : bits .andNot .u8 (b.toNat : Int) 128 = ((b.toNat % 128 : Nat) : Int) := by
  have h : ∀ b : Fin 256, bits .andNot .u8 ((b.val : Nat) : Int) 128 = ((b.val % 128 : Nat) : Int) := by decide +kernel
  have := h b.toFin
  exact this

end Go.Proofs.Ytfgdfhcefgblaaa
