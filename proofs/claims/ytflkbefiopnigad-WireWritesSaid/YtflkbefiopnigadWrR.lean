/- The document's bytes (layer 5). -/
import Derived.Test.YtflkbefiopnigadWrS
namespace Go.Proofs.Ytflkbefiopnigad
open Go.ChangeShapes Go.WideShapes Go.ChangeAt Go.RowKit

theorem u8_one (bs : List UInt8) (c : UInt8) (x : Int) (hx : x = c.toNat) : byV bs ++ [.int .u8 x] = byV (bs ++ [c]) := by rw [hx]; exact byV_snoc bs c

theorem wrap64u (x : Int) (h0 : 0 ≤ x) (h1 : x < 18446744073709551616) : IntKind.u64.wrap x = x := by unfold IntKind.wrap; simp [IntKind.bits, IntKind.signed]; omega

set_option maxRecDepth 100000 in
set_option maxHeartbeats 1000000 in
theorem r_num (n : Nat) (hn : n < 18446744073709551616) (w : World) : Calls Try.prog 31 #[.int .u64 n] w fun e w' => e = .returned (.string ⟨(leb n).toArray⟩) ∧ Below w.heap.size w w' := by
  have hl : (leb n).length ≤ 10 := leb_len 9 n (Nat.lt_of_lt_of_le hn (by decide))
  obtain ⟨i0, hi, hz0, hz1, hz2⟩ := info_parts infU8
  have HI := Lib.hid hi
  have HZ0 := Lib.hid hz0
  have HZ1 := Lib.hid hz1
  have HZ2 := Lib.hid hz2
  have HN := Lib.hid hn
  clear hi hz0 hz1 hz2 hn
  go_enter Try.func31, Try.ntmps31
  go_wp2
  go_loopw [0, 3] (fun x v wr => ∃ (m : Nat) (cs : List UInt8), x = .int .u64 m ∧ Hid (m < 18446744073709551616) ∧ Hid (cs ++ leb m = leb n) ∧ Hid (wr.ownsRow w.heap.size 5 1 v cs.length (byV cs)) ∧ Hid (Below w.heap.size w wr)) (fun x _ _ => (intOf x).toNat)
  case atStart => exact ⟨n, [], rfl, HN, Lib.hid rfl, Lib.hid (World.ownsRow_nil _ _ _ _), Lib.hid (Below.refl _ _)⟩
  case round =>
    obtain ⟨m, cs, rfl, HM, HE, HO, HB⟩ := hrel
    obtain ⟨a, cap, rfl⟩ := own_form' HO.out
    have szr := HB.out.size
    have hlen : cs.length + (leb m).length = (leb n).length := by
      have := congrArg List.length HE.out
      simpa using this
    have lp := leb_pos m
    have hcs : cs.length ≤ 10 := by omega
    clear hlen lp
    by_cases h : m < 128
    · have hI : (m : Int) < 128 := by omega
      have HE2 := HE.out
      rw [leb_small h] at HE2
      have HE3 := Lib.hid HE2
      have HC : Hid ((m : Int) = (m.toUInt8).toNat) := Lib.hid (by simp; omega)
      have hm256 : (m : Int) % 256 = m := by omega
      clear HE HE2
      go_wp2_with (at_builtin; refine wpList_append_own _ rfl _ _ 50 rfl w.heap.size 5 i0 (.int .u8 0) 1 1 Try.underlying50 HI.out HZ0.out HZ1.out HZ2.out rfl (by decide) _ _ _ rfl (World.ownsRow.alloc HO.out _) ⟨wr.heap.size, 0, none⟩ 1 1 [.int .u8 m] rfl rfl ?c1 ?c2 ?c3 ?c4 ?c5 ?_)
      case c1 => exact one_nw8 wr _
      case c2 => simp [Value.oneCell']
      case c3 => unfold maxLen; omega
      case c4 => omega
      case c5 => simp; omega
      intro v5 w5 own5 grow5 _
      have BEL : Hid (Below w.heap.size w w5) := by
        have h := HO.out.lt
        exact Lib.hid ((HB.out.alloc szr _).grown grow5 (by simp; omega) (fun k hk => (h k hk).1))
      obtain ⟨a5, cap5, rfl⟩ := own_form' own5
      rw [u8_one cs m.toUInt8 _ HC.out] at own5
      have hcv := own_str (by omega) (by simp) own5 50 9 (P := Try.prog) Try.underlying50 Try.underlying5 Try.underlying9
      rw [HE3.out] at hcv
      clear own5 grow5 HO HB HE3
      go_wp2
      go_ret
      exact ⟨rfl, BEL.out⟩
    · have hI : (128 : Int) ≤ (m : Int) := by omega
      have HE2 := HE.out
      rw [leb_big h] at HE2
      have HE3 : Hid ((cs ++ [(m % 128 + 128).toUInt8]) ++ leb (m / 128) = leb n) := Lib.hid (by rw [← HE2]; simp)
      have HC : Hid ((m : Int) % 128 + 128 = ((m % 128 + 128).toUInt8).toNat) := Lib.hid (by simp; omega)
      have HM2 : Hid (m / 128 < 18446744073709551616) := Lib.hid (by have := HM.out; omega)
      have hq : IntKind.u64.wrap ((m : Int) / 128) = (m : Int) / 128 := wrap64u _ (by omega) (by have := HM.out; omega)
      clear HE HE2 HM
      go_wp2_with (at_builtin; refine wpList_append_own _ rfl _ _ 50 rfl w.heap.size 5 i0 (.int .u8 0) 1 1 Try.underlying50 HI.out HZ0.out HZ1.out HZ2.out rfl (by decide) _ _ _ rfl (World.ownsRow.alloc HO.out _) ⟨wr.heap.size, 0, none⟩ 1 1 [.int .u8 ((m : Int) % 128 + 128)] rfl rfl ?c1 ?c2 ?c3 ?c4 ?c5 ?_)
      case c1 => exact one_nw8 wr _
      case c2 => simp [Value.oneCell']
      case c3 => unfold maxLen; omega
      case c4 => omega
      case c5 => simp; omega
      intro v5 w5 own5 grow5 _
      have BEL : Hid (Below w.heap.size w w5) := by
        have h := HO.out.lt
        exact Lib.hid ((HB.out.alloc szr _).grown grow5 (by simp; omega) (fun k hk => (h k hk).1))
      rw [u8_one cs _ _ HC.out] at own5
      have OWN : Hid (w5.ownsRow w.heap.size 5 1 v5 (cs ++ [(m % 128 + 128).toUInt8]).length (byV (cs ++ [(m % 128 + 128).toUInt8]))) := Lib.hid (by rw [List.length_append]; exact own5)
      clear own5 grow5 HO HB
      go_wp2
      go_roundw
      case rel => exact ⟨m / 128, _, by go_num, HM2, HE3, OWN, BEL⟩
      case measure => simp [intOf]; omega

theorem r_int (n : Nat) (hn : n < 18446744073709551616) (w : World) : Calls Try.prog 32 #[.int .i64 (wrap64 n)] w fun e w' => e = .returned (.string ⟨(leb (zz n)).toArray⟩) ∧ Below w.heap.size w w' := by
  obtain ⟨z1, z2, z3⟩ := zz_of n hn
  rw [← z3]
  generalize wrap64 (n : Int) = i at *
  clear z3 hn
  by_cases hi : 0 ≤ i
  · rw [if_pos hi]
    obtain ⟨m, rfl⟩ := Int.eq_ofNat_of_zero_le hi
    have N := r_num (2 * m) (by omega) w
    rw [show (2 * (m : Int)).toNat = 2 * m by omega]
    have E : ((2 * m : Nat) : Int) = 2 * (m : Int) := by omega
    rw [E] at N
    have E2 : (m : Int) * 2 = 2 * (m : Int) := by omega
    have N := Lib.hid N
    clear E
    go_enter Try.func32, Try.ntmps32
    go_wp2_with (go_at_call 31; first | (refine N.out.mono ?_; rintro e1 w1 ⟨rfl, hA⟩) | (rw [E2]; refine N.out.mono ?_; rintro e1 w1 ⟨rfl, hA⟩))
    go_ret
    exact ⟨rfl, hA⟩
  · rw [if_neg hi]
    obtain ⟨m, hm⟩ : ∃ m : Nat, i = -(m : Int) - 1 := ⟨(-i - 1).toNat, by omega⟩
    subst hm
    have N := r_num (2 * m + 1) (by omega) w
    rw [show (-2 * (-(m : Int) - 1) - 1).toNat = 2 * m + 1 by omega]
    have E : ((2 * m + 1 : Nat) : Int) = 2 * (m : Int) + 1 := by omega
    rw [E] at N
    have N := Lib.hid N
    have e1 : -((-(m : Int) - 1) + 1) = (m : Int) := by omega
    have E2 : (m : Int) * 2 = 2 * (m : Int) := by omega
    clear E
    go_enter Try.func32, Try.ntmps32
    go_wp2_with (go_at_call 31; first | (refine N.out.mono ?_; rintro e1 w1 ⟨rfl, hA⟩) | (rw [E2]; refine N.out.mono ?_; rintro e1 w1 ⟨rfl, hA⟩))
    go_ret
    exact ⟨rfl, hA⟩

set_option maxRecDepth 100000 in
set_option maxHeartbeats 1000000 in
theorem r_float (n : Nat) (hn : n < 18446744073709551616) (w : World) : Calls Try.prog 33 #[.int .u64 n] w fun e w' => e = .returned (.string ⟨(leK n 8).toArray⟩) ∧ Below w.heap.size w w' := by
  obtain ⟨i0, hi, hz0, hz1, hz2⟩ := info_parts infU8
  have HI := Lib.hid hi
  have HZ0 := Lib.hid hz0
  have HZ1 := Lib.hid hz1
  have HZ2 := Lib.hid hz2
  have HN := Lib.hid hn
  clear hi hz0 hz1 hz2 hn
  go_enter Try.func33, Try.ntmps33
  go_wp2
  go_loopw [0, 3, 4] (fun x v i wr => ∃ (k m : Nat), k ≤ 8 ∧ i = .int .i64 k ∧ x = .int .u64 m ∧ Hid (m < 18446744073709551616) ∧ Hid (m = n / 256 ^ k) ∧ Hid (wr.ownsRow w.heap.size 5 1 v k (byV (leK n k))) ∧ Hid (Below w.heap.size w wr)) (fun _ _ i _ => 8 - (intOf i).toNat)
  case atStart => exact ⟨0, n, by omega, rfl, rfl, HN, Lib.hid (by simp), Lib.hid (World.ownsRow_nil _ _ _ _), Lib.hid (Below.refl _ _)⟩
  case round =>
    obtain ⟨k, m, hk, rfl, rfl, HM, HE, HO, HB⟩ := hrel
    obtain ⟨a, cap, rfl⟩ := own_form' HO.out
    have szr := HB.out.size
    by_cases h : k < 8
    · have hltI : (k : Int) < 8 := by omega
      have HC : Hid ((m : Int) % 256 = ((n / 256 ^ k).toUInt8).toNat) := Lib.hid (by rw [← HE.out]; simp)
      have HE2 : Hid (m / 256 = n / 256 ^ (k + 1)) := Lib.hid (by rw [HE.out, Nat.div_div_eq_div_mul, Nat.pow_succ])
      have HM2 : Hid (m / 256 < 18446744073709551616) := Lib.hid (by have := HM.out; omega)
      have hq : IntKind.u64.wrap ((m : Int) / 256) = (m : Int) / 256 := wrap64u _ (by omega) (by have := HM.out; omega)
      clear HE HM
      go_wp2_with (at_builtin; refine wpList_append_own _ rfl _ _ 50 rfl w.heap.size 5 i0 (.int .u8 0) 1 1 Try.underlying50 HI.out HZ0.out HZ1.out HZ2.out rfl (by decide) _ _ _ rfl (World.ownsRow.alloc HO.out _) ⟨wr.heap.size, 0, none⟩ 1 1 [.int .u8 ((m : Int) % 256)] rfl rfl ?c1 ?c2 ?c3 ?c4 ?c5 ?_)
      case c1 => exact one_nw8 wr _
      case c2 => simp [Value.oneCell']
      case c3 => unfold maxLen; omega
      case c4 => omega
      case c5 => simp; omega
      intro v5 w5 own5 grow5 _
      have BEL : Hid (Below w.heap.size w w5) := by
        have h := HO.out.lt
        exact Lib.hid ((HB.out.alloc szr _).grown grow5 (by simp; omega) (fun k hk => (h k hk).1))
      rw [u8_one (leK n k) _ _ HC.out, ← leK_succ] at own5
      have OWN := Lib.hid own5
      clear own5 grow5 HO HB
      go_wp2
      go_roundw
      case rel => exact ⟨k + 1, m / 256, by omega, by go_num, by go_num, HM2, HE2, OWN, BEL⟩
      case measure => simp [intOf]; omega
    · obtain rfl : k = 8 := by omega
      have own5 := HO.out
      have BEL := HB
      have hcv := own_str (by omega) (leK_len n 8) own5 50 9 (P := Try.prog) Try.underlying50 Try.underlying5 Try.underlying9
      clear own5 HO HB
      go_wp2
      go_ret
      exact ⟨rfl, BEL.out⟩

theorem str_app (a : List UInt8) (s : ByteArray) : (⟨a.toArray⟩ : ByteArray) ++ s = ⟨(a ++ s.data.toList).toArray⟩ := by
  apply ByteArray.ext
  rw [ByteArray.data_append]
  apply Array.toList_inj.1
  simp

theorem r_text (s : ByteArray) (hs : s.size ≤ maxLen) (w : World) : Calls Try.prog 34 #[.string s] w fun e w' => e = .returned (.tuple #[.string ⟨(txB s).toArray⟩, .bool (!txL s)]) ∧ Below w.heap.size w w' := by
  have hs2 : s.size ≤ 9223372036854775807 := by unfold maxLen at hs; omega
  unfold txB txL
  by_cases hl : s.size ≤ 65535
  · rw [if_pos hl, decide_eq_false (by omega)]
    have N := Lib.hid (r_num s.size (by omega) w)
    have AP := str_app (leb s.size) s
    have hz : (⟨(leb s.size).toArray⟩ : ByteArray).size ≤ 10 := leb_len 9 s.size (Nat.lt_of_le_of_lt hl (by decide))
    clear hs
    generalize (⟨(leb s.size).toArray⟩ : ByteArray) = t1 at *
    generalize (⟨(leb s.size ++ s.data.toList).toArray⟩ : ByteArray) = t2 at *
    go_enter Try.func34, Try.ntmps34
    go_wp2_with (go_at_call 31; refine N.out.mono ?_; rintro e1 w1 ⟨rfl, hA⟩)
    go_ret2
    exact ⟨rfl, hA⟩
  · rw [if_neg hl, decide_eq_true (by omega)]
    clear hs
    go_enter Try.func34, Try.ntmps34
    go_wp2
    go_ret2
    exact ⟨rfl, Below.refl _ _⟩

theorem r_bytes (k : Int) (hk0 : 0 ≤ k) (hk1 : k ≤ 255) (n : Nat) (hn : n < 18446744073709551616) (s : ByteArray) (hs : s.size ≤ maxLen) (w : World) :
    Calls Try.prog 16 #[.agg #[.int .u8 k, .int .u64 n, .string s]] w fun e w' => e = .returned (.tuple #[.string ⟨(paB k n s).toArray⟩, .bool (!paL k s)]) ∧ Below w.heap.size w w' := by
  have B : Hid (Below w.heap.size w (w.alloc (.cells #[.int .u8 k, .int .u64 n, .string s] 24))) := Lib.hid ((Below.refl _ w).alloc (Nat.le_refl _) _)
  have BZ := Hid.out B |>.size
  unfold paB paL
  by_cases h0 : k % 4 = 0
  · rw [if_pos h0, if_pos (.inl h0)]
    have C := Lib.hid (r_num n hn)
    clear hn hs
    go_enter Try.func16, Try.ntmps16
    go_wp2_with (go_at_call 31; refine (C.out _).mono ?_; rintro e1 w1 ⟨rfl, hA⟩)
    go_ret2
    exact ⟨rfl, Below.step B.out hA BZ⟩
  by_cases h1 : k % 4 = 1
  · rw [if_neg h0, if_pos h1, if_pos (.inr (.inl h1))]
    have C := Lib.hid (r_int n hn)
    clear hn hs
    go_enter Try.func16, Try.ntmps16
    go_wp2_with (go_at_call 32; refine (C.out _).mono ?_; rintro e1 w1 ⟨rfl, hA⟩)
    go_ret2
    exact ⟨rfl, Below.step B.out hA BZ⟩
  by_cases h2 : k % 4 = 2
  · rw [if_neg h0, if_neg h1, if_pos h2, if_pos (.inr (.inr h2))]
    have C := Lib.hid (r_float n hn)
    clear hn hs
    go_enter Try.func16, Try.ntmps16
    go_wp2_with (go_at_call 33; refine (C.out _).mono ?_; rintro e1 w1 ⟨rfl, hA⟩)
    go_ret2
    exact ⟨rfl, Below.step B.out hA BZ⟩
  · rw [if_neg h0, if_neg h1, if_neg h2, if_neg (by rintro (h | h | h) <;> contradiction)]
    have C := Lib.hid (r_text s hs)
    clear hn hs
    go_enter Try.func16, Try.ntmps16
    go_wp2_with (go_at_call 34; refine (C.out _).mono ?_; rintro e1 w1 ⟨rfl, hA⟩)
    go_ret2
    exact ⟨rfl, Below.step B.out hA BZ⟩

end Go.Proofs.Ytflkbefiopnigad
