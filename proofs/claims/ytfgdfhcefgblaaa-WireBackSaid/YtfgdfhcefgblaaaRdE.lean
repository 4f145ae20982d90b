/- The reader (layer 5): int, float, text; the document's. -/
import Derived.Test.YtfgdfhcefgblaaaRdD
namespace Go.Proofs.Ytfgdfhcefgblaaa
open Go.ChangeShapes Go.WideShapes Go.ChangeAt Go.RowKit

/-- the int of a number -/
def zzI (n : Nat) : Int := if n % 2 = 1 then -((n / 2 : Nat) : Int) - 1 else ((n / 2 : Nat) : Int)

theorem and_one (N : Nat) (hN : N < 18446744073709551616) : bits .and .u64 (N : Int) 1 = ((N % 2 : Nat) : Int) := by rw [show (1 : Int) = ((1 : Nat) : Int) from rfl, u64_and_nat N 1 hN (by omega), Nat.and_one_is_mod]

theorem nm_lt {l : List UInt8} {E N K : Nat} (hR : nmR 0 0 l = (E, N, K)) : N < 18446744073709551616 ∧ E ≤ 2 ∧ K ≤ l.length ∧ (E ≠ 0 → N = 0) := by
  have := nmR_fits l 0 0 (by omega) (by decide)
  rw [hR] at this
  exact ⟨this.2.1, this.1, by simpa using this.2.2.1, this.2.2.2.1⟩

set_option maxRecDepth 100000 in
theorem rd_int {p q E N K : Nat} {s : ByteArray} (hs : s.size ≤ 1000000000) (hq : q ≤ s.size) (hR : nmR 0 0 (s.data.toList.drop q) = (E, N, K)) :
    Tri1 Try.prog 26 #[.pointer (some ⟨p, 0, none⟩)] (rdA p s q 0) (.tuple #[.int .i64 (zzI N), .int .i64 E]) (rdA p s (q + K) 0) := by
  intro w S h
  have T1 := Lib.hid (rd_num hs hq hR w S h)
  have hN := (nm_lt hR).1
  have AN := and_one N hN
  clear h hR
  have h3 : N / 2 ≤ 9223372036854775807 := by omega
  rcases (by omega : N % 2 = 0 ∨ N % 2 = 1) with hm | hm
  · have Z : Hid (zzI N = (N : Int) / 2) := Lib.hid (by unfold zzI; rw [if_neg (by omega)]; omega)
    rw [hm] at AN
    clear hm
    go_enter Try.func26, Try.ntmps26
    go_wp2_with (go_at_call 24; with_reducible refine T1.out.mono ?_; rintro e1 w1 ⟨rfl, hA⟩; have HA := Lib.hid hA; clear hA)
    go_ret2
    exact ⟨by rw [Z.out]; rfl, HA.out⟩
  · have Z : Hid (zzI N = -((N : Int) / 2) - 1) := Lib.hid (by unfold zzI; rw [if_pos hm]; omega)
    rw [hm] at AN
    clear hm
    go_enter Try.func26, Try.ntmps26
    go_wp2_with (go_at_call 24; with_reducible refine T1.out.mono ?_; rintro e1 w1 ⟨rfl, hA⟩; have HA := Lib.hid hA; clear hA)
    go_ret2
    exact ⟨by rw [Z.out]; rfl, HA.out⟩

set_option maxRecDepth 100000 in
theorem r5_int {E N K : Nat} (s : ByteArray) (hs : s.size ≤ 1000000000) (hR : nmR 0 0 s.data.toList = (E, N, K)) (w : World) :
    Calls Try.prog 10 #[.string s] w fun e w' => e = .returned (.tuple #[.int .i64 (zzI N), .int .i64 ((if E = 0 then K else 0 : Nat) : Int), .int .i64 E]) ∧ w = w' := by
  have T1 := r5_num s hs hR w
  have hN := (nm_lt hR).1
  obtain ⟨k, hk⟩ : ∃ k : Nat, (if E = 0 then K else 0) = k := ⟨_, rfl⟩
  rw [hk] at T1 ⊢
  have T1 := Lib.hid T1
  clear hR hk
  have h3 : N / 2 ≤ 9223372036854775807 := by omega
  rcases (by omega : N % 2 = 0 ∨ N % 2 = 1) with hm | hm
  · have Z : Hid (zzI N = (N : Int) / 2) := Lib.hid (by unfold zzI; rw [if_neg (by omega)]; omega)
    have hmI : ((N : Int) % 2 == 0) = true := by simp; omega
    clear hm
    go_enter Try.func10, Try.ntmps10
    go_wp2_with (go_at_call 8; with_reducible refine T1.out.mono ?_; rintro e1 w1 ⟨rfl, rfl⟩)
    refine bodyPost_ret (v := .tuple #[.int .i64 ((N : Int) / 2), .int .i64 k, .int .i64 E]) (by simp [results, Try.f10, go_sem]) rfl ⟨by rw [Z.out], rfl⟩
  · have Z : Hid (zzI N = -((N : Int) / 2) - 1) := Lib.hid (by unfold zzI; rw [if_pos hm]; omega)
    have hmI : ((N : Int) % 2 == 0) = false := by simp; omega
    clear hm
    go_enter Try.func10, Try.ntmps10
    go_wp2_with (go_at_call 8; with_reducible refine T1.out.mono ?_; rintro e1 w1 ⟨rfl, rfl⟩)
    refine bodyPost_ret (v := .tuple #[.int .i64 (-((N : Int) / 2) - 1), .int .i64 k, .int .i64 E]) (by simp [results, Try.f10, go_sem]) rfl ⟨by rw [Z.out], rfl⟩

/-- the number of bytes, the least ahead -/
def leV : List UInt8 → Nat
  | [] => 0
  | b :: r => b.toNat + 256 * leV r

theorem leV_snoc : ∀ (l : List UInt8) (b : UInt8), leV (l ++ [b]) = leV l + b.toNat * 256 ^ l.length
  | [], b => by simp [leV]
  | c :: l, b => by
    show c.toNat + 256 * leV (l ++ [b]) = c.toNat + 256 * leV l + b.toNat * 256 ^ (l.length + 1)
    rw [leV_snoc l b, Nat.pow_succ, Nat.mul_add, show 256 * (b.toNat * 256 ^ l.length) = b.toNat * (256 ^ l.length * 256) by ac_rfl]
    omega

theorem leV_lt : ∀ l : List UInt8, leV l < 256 ^ l.length
  | [] => by simp [leV]
  | c :: l => by
    have := leV_lt l
    have hc := c.toNat_lt
    show c.toNat + 256 * leV l < 256 ^ (l.length + 1)
    rw [Nat.pow_succ]; omega

theorem run_shl8 {P : Program} (x i : Nat) (hi : i < 8) (hx : x < 256) (w : World) : (Op.shift BinOp.shl IntKind.u64 (x : Int) IntKind.i64 (8 * (i : Int))).run P w = .ok (.int .u64 ((x * 256 ^ i : Nat) : Int)) w := by
  have hf : x * 256 ^ i < 18446744073709551616 := by
    have h1 : x * 256 ^ i ≤ 255 * 256 ^ i := Nat.mul_le_mul_right _ (by omega)
    have h2 : 256 ^ i ≤ 256 ^ 7 := Nat.pow_le_pow_right (by omega) (by omega)
    have h3 : (256 : Nat) ^ 7 = 72057594037927936 := by decide
    omega
  unfold Op.shift
  rw [if_neg (by omega)]
  have e2 : min (8 * (i : Int)).toNat IntKind.u64.bits = 8 * i := by
    show min (8 * (i : Int)).toNat 64 = 8 * i
    omega
  have e3 : (x : Int) * 2 ^ (8 * i) = ((x * 256 ^ i : Nat) : Int) := by
    rw [show (256 : Nat) = 2 ^ 8 from rfl, ← Nat.pow_mul]; push_cast; rfl
  simp only [e2]
  rw [e3, wrap64r _ (by omega) (by omega)]
  rfl

theorem or_add8 {acc x i : Nat} (h : acc < 256 ^ i) : acc ||| (x * 256 ^ i) = acc + x * 256 ^ i := by
  rw [show (256 : Nat) = 2 ^ 8 from rfl, ← Nat.pow_mul] at h ⊢
  rw [Nat.mul_comm, Nat.or_comm, ← Nat.two_pow_add_eq_or_of_lt h, Nat.add_comm]

/-- the first k bytes from q on -/
def byK (s : ByteArray) (q k : Nat) : List UInt8 := (s.data.toList.drop q).take k

theorem byK_succ {s : ByteArray} {q k : Nat} (h : q + k < s.size) : byK s q (k + 1) = byK s q k ++ [s[q + k]] := by
  have hl : k < (s.data.toList.drop q).length := by simp; show k < s.size - q; omega
  unfold byK
  rw [List.take_succ_eq_append_getElem hl, List.getElem_drop]; rfl

theorem byK_len {s : ByteArray} {q k : Nat} (h : q + k ≤ s.size) : (byK s q k).length = k := by
  unfold byK
  rw [List.length_take, List.length_drop]
  show min k (s.size - q) = k
  omega

end Go.Proofs.Ytfgdfhcefgblaaa
