/- The reader (layer 5): float, text; the document's. -/
import Derived.Test.YtfgdfhcefgblaaaRdE
namespace Go.Proofs.Ytfgdfhcefgblaaa
open Go.ChangeShapes Go.WideShapes Go.ChangeAt Go.RowKit

set_option maxRecDepth 100000 in
theorem rd_float_short {p q : Nat} {s : ByteArray} (hs : s.size ≤ 1000000000) (hq : q ≤ s.size) (h8 : s.size - q < 8) :
    Tri1 Try.prog 29 #[.pointer (some ⟨p, 0, none⟩)] (rdA p s q 0) (.tuple #[.float .f64 0, .int .i64 (1 : Nat)]) (rdA p s q 0) := by
  intro w S h
  have LF := rd_left hs hq ((At.refl h).unit)
  have FIN := Lib.hid (fun m => (At.refl h).drewN m)
  have h8I : ((s.size - q : Nat) : Int) < 8 := by omega
  generalize s.size - q = d at *
  have LF := Lib.hid LF
  clear h
  go_enter Try.func29, Try.ntmps29
  go_wp2_with (go_at_call 16; with_reducible refine LF.out.mono ?_; rintro e1 w1 ⟨rfl, m, rfl⟩)
  go_ret2
  exact ⟨rfl, FIN.out m⟩

set_option maxRecDepth 100000 in
set_option maxHeartbeats 1000000 in
theorem rd_float {p q : Nat} {s : ByteArray} (hs : s.size ≤ 1000000000) (hq : q + 8 ≤ s.size) :
    Tri1 Try.prog 29 #[.pointer (some ⟨p, 0, none⟩)] (rdA p s q 0) (.tuple #[.float .f64 (leV (byK s q 8)), .int .i64 (0 : Nat)]) (rdA p s (q + 8) 0) := by
  intro w S h
  have LF := rd_left hs (show q ≤ s.size by omega) ((At.refl h).unit)
  have h8I : ¬ ((s.size - q : Nat) : Int) < 8 := by omega
  generalize hdd : s.size - q = d at *
  have H0 := Lib.hid (fun m => (At.refl h).drewN m)
  have LF := Lib.hid LF
  clear h hdd
  go_enter Try.func29, Try.ntmps29
  go_wp2_with (go_at_call 16; with_reducible refine LF.out.mono ?_; rintro e1 w1 ⟨rfl, m, rfl⟩)
  have A0 := Lib.hid (H0.out m)
  obtain ⟨wz, hwz⟩ : ∃ wz, w.drewN m = wz := ⟨_, rfl⟩
  rw [hwz] at A0 ⊢
  clear hwz H0 LF h8I
  go_loopw [4, 5, 9] (fun bv _ iv wr => ∃ i : Nat, iv = .int .i64 i ∧ bv = .int .u64 (leV (byK s q i) : Nat) ∧ i ≤ 8 ∧ Hid (At (rdA p s q 0) w S wr)) (fun _ _ iv _ => 8 - (intOf iv).toNat)
  case atStart => exact ⟨0, rfl, rfl, by omega, A0⟩
  case round =>
    clear A0
    obtain ⟨i, rfl, rfl, hi, HA⟩ := hrel
    by_cases hlt : i < 8
    · have hltI : (i : Int) < 8 := by omega
      obtain ⟨c0, c1, c2, cf⟩ := rd_un HA.out
      have hqi : q + i < s.size := by omega
      have HL := leV_lt (byK s q i)
      rw [byK_len (by omega)] at HL
      have HN : leV (byK s q (i + 1)) = leV (byK s q i) + s[q + i].toNat * 256 ^ i := by rw [byK_succ hqi, leV_snoc, byK_len (by omega)]
      have hx256 : s[q + i].toNat < 256 := s[q + i].toNat_lt
      have SH := run_shl8 (P := Try.prog) s[q + i].toNat i hlt hx256
      have h2 : 256 ^ (i + 1) ≤ 256 ^ 8 := Nat.pow_le_pow_right (by omega) (by omega)
      have h3 : (256 : Nat) ^ 8 = 18446744073709551616 := by decide
      have h4 : s[q + i].toNat * 256 ^ i ≤ 255 * 256 ^ i := Nat.mul_le_mul_right _ (by omega)
      rw [Nat.pow_succ] at h2
      have OR := u64_or_nat (leV (byK s q i)) (s[q + i].toNat * 256 ^ i) (by omega) (by omega)
      rw [or_add8 HL, ← HN] at OR
      have W1 : IntKind.i64.wrap ((q : Int) + (i : Int)) = (q : Int) + (i : Int) := IntWalk.i64_in _ (by omega)
      have W2 : IntKind.i64.wrap (8 * (i : Int)) = 8 * (i : Int) := IntWalk.i64_in _ (by omega)
      have hnn : (0 : Int) ≤ (q : Int) + (i : Int) := by omega
      have htn : ((q : Int) + (i : Int)).toNat = q + i := by omega
      have W3 : IntKind.u64.wrap (s[q + i].toNat : Int) = (s[q + i].toNat : Int) := wrap64r _ (by omega) (by omega)
      have HD := Lib.hid (fun m => At.drewN HA.out m)
      have YF : Hid (((s[q + i].toNat * 256 ^ i : Nat) : Int) < 18446744073709551616) := Lib.hid (by omega)
      clear HL HN h2 h3 h4 HA
      obtain ⟨x, hx⟩ : ∃ x, s[q + i].toNat = x := ⟨_, rfl⟩
      rw [hx] at SH OR W3 hx256 YF
      have hqiI : (q : Int) + (i : Int) < (s.size : Int) := by omega
      have VAL : Hid (bits .or .u64 ((leV (byK s q i) : Nat) : Int) (IntKind.u64.wrap ((x : Int) * 2 ^ (8 * i))) = ((leV (byK s q (i + 1)) : Nat) : Int)) := Lib.hid (by
        rw [← OR]
        congr 1
        rw [show (x : Int) * 2 ^ (8 * i) = ((x * 256 ^ i : Nat) : Int) by rw [show (256 : Nat) = 2 ^ 8 from rfl, ← Nat.pow_mul]; push_cast; rfl, wrap64r _ (by omega) YF.out])
      clear OR SH
      go_wp2_with fail
      go_quiet (fail)
      go_wp2_with fail
      exact ⟨⟨i + 1, by go_num, by rw [VAL.out], by omega, Lib.hid (HD.out _)⟩, by simp [intOf]; omega⟩
    · obtain rfl : i = 8 := by omega
      obtain ⟨c0, c1, c2, cf⟩ := rd_un HA.out
      have A3 : Hid (At (rdA p s (q + 8) 0) w S (wr.setCell ⟨p, 1, none⟩ (.int .i64 ((q : Int) + 8)))) := Lib.hid (by
        have := At.nounit (rd_set1 HA.out.unit (q + 8))
        push_cast at this
        exact this)
      have hq9 : (q : Int) ≤ 1000000000 := by omega
      clear HA
      go_wp2_with (go_at_call 33; with_reducible refine (fl_of _ _).mono ?_; rintro e1 w1 ⟨rfl, rfl⟩)
      go_ret2
      exact ⟨rfl, A3.out⟩

end Go.Proofs.Ytfgdfhcefgblaaa
