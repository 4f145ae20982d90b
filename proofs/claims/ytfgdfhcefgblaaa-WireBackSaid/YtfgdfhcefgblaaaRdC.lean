/- The document's reader of numbers (ullageref05). -/
import Derived.Test.YtfgdfhcefgblaaaRdB
namespace Go.Proofs.Ytfgdfhcefgblaaa
open Go.ChangeShapes Go.WideShapes Go.ChangeAt Go.RowKit

set_option maxRecDepth 100000 in
set_option maxHeartbeats 2000000 in
theorem r5_num {E N K : Nat} (s : ByteArray) (hs : s.size ≤ 1000000000) (hR : nmR 0 0 s.data.toList = (E, N, K)) (w : World) :
    Calls Try.prog 8 #[.string s] w fun e w' => e = .returned (.tuple #[.int .u64 N, .int .i64 ((if E = 0 then K else 0 : Nat) : Int), .int .i64 E]) ∧ w = w' := by
  have R0 : Hid (nmR 0 0 (s.data.toList.drop 0) = (E, N, K)) := Lib.hid (by rw [List.drop_zero]; exact hR)
  clear hR
  go_enter Try.func8, Try.ntmps8
  go_wp2_with fail
  go_loop [5, 6, 7] (fun nv wv iv => ∃ i acc pw : Nat, nv = .int .u64 acc ∧ wv = .int .u64 pw ∧ iv = .int .i64 i ∧ i ≤ 9 ∧ i ≤ s.size ∧ Hid (128 ^ i = pw) ∧ Hid (acc < 128 ^ i) ∧ Hid (nmR i acc (s.data.toList.drop i) = (E, N, K))) (fun _ _ iv => 10 - (intOf iv).toNat)
  case atStart => exact ⟨0, 0, 1, rfl, rfl, rfl, by omega, by omega, Lib.hid rfl, Lib.hid (by decide), R0⟩
  case round =>
    clear R0
    obtain ⟨i, acc, pw, rfl, rfl, rfl, hi, hqi, HPW, HC, HR⟩ := hrel
    by_cases hlt : i < s.size
    · have hltI : (i : Int) < (s.size : Int) := by omega
      have HX := HR.out
      rw [drop_byte hlt] at HX
      obtain ⟨b, hb⟩ : ∃ b : Nat, s[i].toNat = b := ⟨_, rfl⟩
      have hb256 : b < 256 := by rw [← hb]; exact s[i].toNat_lt
      obtain ⟨x, hx⟩ : ∃ x : Nat, b % 128 = x := ⟨_, rfl⟩
      have hx128 : x < 128 := by rw [← hx]; exact Nat.mod_lt _ (by omega)
      have HXB : Hid (x ≤ b) := Lib.hid (by rw [← hx]; exact Nat.mod_le _ _)
      have NB := Lib.hid (@nmR_bad i acc s[i] (s.data.toList.drop (i + 1)))
      have NE := Lib.hid (@nmR_end i acc s[i] (s.data.toList.drop (i + 1)))
      have NO := Lib.hid (@nmR_on i acc s[i] (s.data.toList.drop (i + 1)))
      rw [hb, hx] at NE NO
      rw [hb] at NB
      have HX := Lib.hid HX
      have HB := Lib.hid hb
      have hxI : (b : Int) % 128 = (x : Int) := by omega
      have HXI := Lib.hid hxI
      have hbI : (b : Int) ≤ 255 := by omega
      have hi9 : (i : Int) ≤ 9 := by omega
      have HFIT := Lib.hid (fun h => acc_fit (i := i) (acc := acc) (x := x) hi HC.out hx128 h)
      have HNX := Lib.hid (acc_next (i := i) (acc := acc) (x := x) HC.out hx128)
      have HP := Lib.hid (pow128 i hi)
      have VAL : Hid (acc + x * 128 ^ i < 18446744073709551616 ∧ x * 128 ^ i < 18446744073709551616 → IntKind.u64.wrap ((acc : Int) + IntKind.u64.wrap ((b : Int) % 128 * (pw : Int))) = ((acc + x * 128 ^ i : Nat) : Int)) := Lib.hid fun hf => by
        have e : (x : Int) * (pw : Int) = ((x * 128 ^ i : Nat) : Int) := by rw [← HPW.out]; push_cast; rfl
        rw [HXI.out, e]
        generalize x * 128 ^ i = y at hf ⊢
        rw [wrap64r (y : Int) (by omega) (by omega), wrap64r _ (by omega) (by omega)]
        push_cast; rfl
      clear hx HR hxI
      rcases (by omega : i = 9 ∨ (0 < i ∧ i < 9) ∨ i = 0) with h9 | h9 | h9
      · have e9 : (9 : Int) ≤ (i : Int) := by omega
        have ip : (0 : Int) < (i : Int) := by omega
        rcases (by omega : 1 < b ∨ b = 0 ∨ b = 1) with hb0 | hb0 | hb0
        · have bz : (1 : Int) < (b : Int) := by omega
          have bz2 : ((b : Int) == 0) = false := by simp; omega
          have HE := HX.out
          rw [NB.out (.inr ⟨by omega, hb0⟩)] at HE
          injection HE with q1 q2
          injection q2 with q2 q3
          subst q1 q2 q3
          clear NB NE NO HX hb256 hx128 HFIT HNX HP VAL h9 hb0
          go_wp2_with fail
          refine bodyPost_ret (v := .tuple #[.int .u64 0, .int .i64 0, .int .i64 2]) (by simp [results, Try.f8, go_sem]) rfl ⟨rfl, rfl⟩
        · have bz2 : ((b : Int) == 0) = true := by simp; omega
          have HE := HX.out
          rw [NB.out (.inl ⟨by omega, hb0⟩)] at HE
          injection HE with q1 q2
          injection q2 with q2 q3
          subst q1 q2 q3
          clear NB NE NO HX hb256 hx128 HFIT HNX HP VAL h9 hb0
          go_wp2_with fail
          refine bodyPost_ret (v := .tuple #[.int .u64 0, .int .i64 0, .int .i64 2]) (by simp [results, Try.f8, go_sem]) rfl ⟨rfl, rfl⟩
        · have bz : ¬ (1 : Int) < (b : Int) := by omega
          have bz2 : ((b : Int) == 0) = false := by simp; omega
          have hxb : x ≤ b := HXB.out
          have FT := HFIT.out (by omega)
          have V := Lib.hid (VAL.out FT)
          have hb1 : (b : Int) < 128 := by omega
          have HE := HX.out
          rw [NE.out (by omega) (by omega)] at HE
          injection HE with q1 q2
          injection q2 with q2 q3
          have FN := Lib.hid (V.out.trans (congrArg Nat.cast q2))
          subst q1 q3
          clear NB NE NO HX hxb hb256 hx128 HFIT HNX HP FT HC q2 VAL V h9 hb0
          go_wp2_with fail
          refine bodyPost_ret (v := .tuple #[.int .u64 (IntKind.u64.wrap ((acc : Int) + IntKind.u64.wrap ((b : Int) % 128 * (pw : Int)))), .int .i64 ((i : Int) + 1), .int .i64 0]) (by simp [results, Try.f8, go_sem]) rfl ⟨by rw [FN.out], rfl⟩
      · have e9 : ¬ (9 : Int) ≤ (i : Int) := by omega
        have ip : (0 : Int) < (i : Int) := by omega
        rcases (by omega : b = 0 ∨ (0 < b ∧ b < 128) ∨ 128 ≤ b) with hb0 | hb0 | hb0
        · have bz2 : ((b : Int) == 0) = true := by simp; omega
          have HE := HX.out
          rw [NB.out (.inl ⟨by omega, hb0⟩)] at HE
          injection HE with q1 q2
          injection q2 with q2 q3
          subst q1 q2 q3
          clear NB NE NO HX hb256 hx128 HFIT HNX HP VAL h9 hb0
          go_wp2_with fail
          refine bodyPost_ret (v := .tuple #[.int .u64 0, .int .i64 0, .int .i64 2]) (by simp [results, Try.f8, go_sem]) rfl ⟨rfl, rfl⟩
        · have bz2 : ((b : Int) == 0) = false := by simp; omega
          have hxb : x ≤ b := HXB.out
          have FT := HFIT.out (by omega)
          have V := Lib.hid (VAL.out FT)
          have hb1 : (b : Int) < 128 := by omega
          have HE := HX.out
          rw [NE.out (by omega) (by omega)] at HE
          injection HE with q1 q2
          injection q2 with q2 q3
          have FN := Lib.hid (V.out.trans (congrArg Nat.cast q2))
          subst q1 q3
          clear NB NE NO HX hxb hb256 hx128 HFIT HNX HP FT HC q2 VAL V h9 hb0
          go_wp2_with fail
          refine bodyPost_ret (v := .tuple #[.int .u64 (IntKind.u64.wrap ((acc : Int) + IntKind.u64.wrap ((b : Int) % 128 * (pw : Int)))), .int .i64 ((i : Int) + 1), .int .i64 0]) (by simp [results, Try.f8, go_sem]) rfl ⟨by rw [FN.out], rfl⟩
        · have bz2 : ((b : Int) == 0) = false := by simp; omega
          have hxb : x ≤ b := HXB.out
          have FT := HFIT.out (by omega)
          have V := Lib.hid (VAL.out FT)
          have hb1 : ¬ (b : Int) < 128 := by omega
          have HE := HX.out
          rw [NO.out (by omega) (by omega)] at HE
          have HE := Lib.hid HE
          have hi8 : i + 1 ≤ 9 := by omega
          have PN : Hid (IntKind.u64.wrap ((pw : Int) * 128) = ((pw * 128 : Nat) : Int)) := Lib.hid (by
            have h1 := HPW.out
            have h2 := pow128 (i + 1) hi8
            rw [Nat.pow_succ, h1] at h2
            rw [wrap64r _ (by omega) (by omega)]; push_cast; rfl)
          have PW2 : Hid (128 ^ (i + 1) = pw * 128) := Lib.hid (by rw [Nat.pow_succ, HPW.out])
          clear NB NE NO HX hxb hb256 hx128 HFIT HP FT HC VAL h9 hb0 HPW
          go_wp2_with fail
          exact ⟨⟨i + 1, acc + x * 128 ^ i, pw * 128, by rw [V.out], by rw [PN.out], by go_num, by omega, by omega, PW2, HNX, HE⟩, by simp [intOf]; omega⟩
      · have e9 : ¬ (9 : Int) ≤ (i : Int) := by omega
        have ip : ¬ (0 : Int) < (i : Int) := by omega
        rcases (by omega : b < 128 ∨ 128 ≤ b) with hb0 | hb0
        · skip
          have hxb : x ≤ b := HXB.out
          have FT := HFIT.out (by omega)
          have V := Lib.hid (VAL.out FT)
          have hb1 : (b : Int) < 128 := by omega
          have HE := HX.out
          rw [NE.out (by omega) (by omega)] at HE
          injection HE with q1 q2
          injection q2 with q2 q3
          have FN := Lib.hid (V.out.trans (congrArg Nat.cast q2))
          subst q1 q3
          clear NB NE NO HX hxb hb256 hx128 HFIT HNX HP FT HC q2 VAL V h9 hb0
          go_wp2_with fail
          refine bodyPost_ret (v := .tuple #[.int .u64 (IntKind.u64.wrap ((acc : Int) + IntKind.u64.wrap ((b : Int) % 128 * (pw : Int)))), .int .i64 ((i : Int) + 1), .int .i64 0]) (by simp [results, Try.f8, go_sem]) rfl ⟨by rw [FN.out], rfl⟩
        · skip
          have hxb : x ≤ b := HXB.out
          have FT := HFIT.out (by omega)
          have V := Lib.hid (VAL.out FT)
          have hb1 : ¬ (b : Int) < 128 := by omega
          have HE := HX.out
          rw [NO.out (by omega) (by omega)] at HE
          have HE := Lib.hid HE
          have hi8 : i + 1 ≤ 9 := by omega
          have PN : Hid (IntKind.u64.wrap ((pw : Int) * 128) = ((pw * 128 : Nat) : Int)) := Lib.hid (by
            have h1 := HPW.out
            have h2 := pow128 (i + 1) hi8
            rw [Nat.pow_succ, h1] at h2
            rw [wrap64r _ (by omega) (by omega)]; push_cast; rfl)
          have PW2 : Hid (128 ^ (i + 1) = pw * 128) := Lib.hid (by rw [Nat.pow_succ, HPW.out])
          clear NB NE NO HX hxb hb256 hx128 HFIT HP FT HC VAL h9 hb0 HPW
          go_wp2_with fail
          exact ⟨⟨i + 1, acc + x * 128 ^ i, pw * 128, by rw [V.out], by rw [PN.out], by go_num, by omega, by omega, PW2, HNX, HE⟩, by simp [intOf]; omega⟩
    · obtain rfl : i = s.size := by omega
      have hltI : ¬ (s.size : Int) < (s.size : Int) := by omega
      have HX := HR.out
      rw [show s.data.toList.drop s.size = [] from List.drop_eq_nil_of_le (by simp), nmR_nil] at HX
      injection HX with q1 q2
      injection q2 with q2 q3
      subst q1 q2 q3
      clear HR
      go_wp2_with fail
      refine bodyPost_ret (v := .tuple #[.int .u64 0, .int .i64 0, .int .i64 1]) (by simp [results, Try.f8, go_sem]) rfl ⟨rfl, rfl⟩

end Go.Proofs.Ytfgdfhcefgblaaa
