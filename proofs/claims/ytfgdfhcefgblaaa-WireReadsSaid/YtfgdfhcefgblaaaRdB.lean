/- The reader (layer 5): num. -/
import Derived.Test.YtfgdfhcefgblaaaRdA
import Derived.Laws.BitsAllLaws
namespace Go.Proofs.Ytfgdfhcefgblaaa
open Go.ChangeShapes Go.WideShapes Go.ChangeAt Go.RowKit

theorem drop_byte {s : ByteArray} {r : Nat} (h : r < s.size) : s.data.toList.drop r = s[r] :: s.data.toList.drop (r + 1) := by
  rw [List.drop_eq_getElem_cons (by simpa using h)]; rfl

set_option maxRecDepth 100000 in
set_option maxHeartbeats 2000000 in
theorem rd_num {p q E N K : Nat} {s : ByteArray} (hs : s.size ≤ 1000000000) (hq : q ≤ s.size) (hR : nmR 0 0 (s.data.toList.drop q) = (E, N, K)) :
    Tri1 Try.prog 24 #[.pointer (some ⟨p, 0, none⟩)] (rdA p s q 0) (.tuple #[.int .u64 N, .int .i64 E]) (rdA p s (q + K) 0) := by
  intro w S h
  have H0 : Hid (At (rdA p s (q + 0) 0) w S w) := Lib.hid (At.refl h)
  have R0 : Hid (nmR 0 0 (s.data.toList.drop (q + 0)) = (E, N, K)) := Lib.hid hR
  clear h hR
  go_enter Try.func24, Try.ntmps24
  go_wp2_with fail
  go_loopw [4, 5, 6] (fun nv iv _ wr => ∃ i acc : Nat, nv = .int .u64 acc ∧ iv = .int .i64 i ∧ i ≤ 9 ∧ q + i ≤ s.size ∧ Hid (acc < 128 ^ i) ∧ Hid (nmR i acc (s.data.toList.drop (q + i)) = (E, N, K)) ∧ Hid (At (rdA p s (q + i) 0) w S wr)) (fun _ iv _ _ => 10 - (intOf iv).toNat)
  case atStart => exact ⟨0, 0, rfl, rfl, by omega, by omega, Lib.hid (by decide), R0, H0⟩
  case round =>
    clear H0 R0
    obtain ⟨i, acc, rfl, rfl, hi, hqi, HC, HR, HA⟩ := hrel
    have LF := rd_left hs hqi (HA.out.unit)
    obtain ⟨r, hr⟩ : ∃ r, q + i = r := ⟨_, rfl⟩
    have FQ : Hid (∀ j, q + (i + j) = r + j) := Lib.hid fun j => by omega
    rw [hr] at LF HA HR hqi
    by_cases hlt : r < s.size
    · obtain ⟨d, hd⟩ : ∃ d, s.size - r = d := ⟨_, rfl⟩
      have hd1 : 1 ≤ d := by omega
      rw [hd] at LF
      have LF := Lib.hid LF
      have HX := HR.out
      rw [drop_byte hlt] at HX
      obtain ⟨b, hb⟩ : ∃ b : Nat, s[r].toNat = b := ⟨_, rfl⟩
      have hb256 : b < 256 := by rw [← hb]; exact s[r].toNat_lt
      have CL := u8_clr s[r]
      rw [hb] at CL
      obtain ⟨x, hx⟩ : ∃ x : Nat, b % 128 = x := ⟨_, rfl⟩
      have hx128 : x < 128 := by rw [← hx]; exact Nat.mod_lt _ (by omega)
      rw [hx] at CL
      have HXB : Hid (x ≤ b) := Lib.hid (by rw [← hx]; exact Nat.mod_le _ _)
      have NB := Lib.hid (@nmR_bad i acc s[r] (s.data.toList.drop (r + 1)))
      have NE := Lib.hid (@nmR_end i acc s[r] (s.data.toList.drop (r + 1)))
      have NO := Lib.hid (@nmR_on i acc s[r] (s.data.toList.drop (r + 1)))
      rw [hb, hx] at NE NO
      rw [hb] at NB
      have HX := Lib.hid HX
      have HB := Lib.hid hb
      clear hr hd hx HR
      have AW := Lib.hid (fun m => At.unit (At.drewN HA.out m))
      clear HA
      go_wp2_with (go_at_call 16; with_reducible refine LF.out.mono ?_; rintro e1 w1 ⟨rfl, m, rfl⟩)
      have A1 := AW.out m
      obtain ⟨wz, hwz⟩ : ∃ wz, wr.drewN m = wz := ⟨_, rfl⟩
      rw [hwz] at A1 ⊢
      clear hwz LF AW
      obtain ⟨c0, c1, c2, cf⟩ := rd_cells A1
      have A1 := Lib.hid A1
      go_wp2_with fail
      go_quiet (fail)
      have A2 := (A1.out).drewN nq
      obtain ⟨wq, hwq⟩ : ∃ wq, wz.drewN nq = wq := ⟨_, rfl⟩
      rw [hwq] at A2 ⊢
      clear hwq c0 c1 c2 cf A1
      obtain ⟨c0, c1, c2, cf⟩ := rd_cells A2
      have A3 : Hid (At (rdA p s (q + (i + 1)) 0) w S (wq.setCell ⟨p, 1, none⟩ (.int .i64 ((r : Int) + 1)))) := Lib.hid (by
        have := At.nounit (rd_set1 A2 (r + 1))
        rw [FQ.out 1]
        push_cast at this
        exact this)
      have hr9 : (r : Int) ≤ 1000000000 := by omega
      have hi9 : (i : Int) ≤ 9 := by omega
      have hbI : (b : Int) ≤ 255 := by omega
      have HFIT := Lib.hid (fun h => acc_fit (i := i) (acc := acc) (x := x) hi HC.out hx128 h)
      have HNX := Lib.hid (acc_next (i := i) (acc := acc) (x := x) HC.out hx128)
      have HOA := Lib.hid (or_add (i := i) (acc := acc) (x := x) HC.out)
      have HP := Lib.hid (pow128 i hi)
      have hxb : x ≤ b := HXB.out
      have VAL : Hid (x * 128 ^ i < 18446744073709551616 → bits .or .u64 (acc : Int) (IntKind.u64.wrap (IntKind.u64.wrap (x : Int) * 2 ^ (7 * i))) = ((acc + x * 128 ^ i : Nat) : Int)) := Lib.hid fun hf => by
        rw [wrap64r (x : Int) (by omega) (by omega), show (x : Int) * 2 ^ (7 * i) = ((x * 128 ^ i : Nat) : Int) by rw [show (128 : Nat) = 2 ^ 7 from rfl, ← Nat.pow_mul]; push_cast; rfl, wrap64r _ (by omega) (by omega), u64_or_nat acc _ (by have := HC.out; have := HP.out; omega) hf, HOA.out]
      clear A2
      rcases (by omega : i = 9 ∨ (0 < i ∧ i < 9) ∨ i = 0) with h9 | h9 | h9
      · have e9 : ((i : Int) == 9) = true := by simp; omega
        have ip : (0 : Int) < (i : Int) := by omega
        rcases (by omega : 1 < b ∨ b = 0 ∨ b = 1) with hb0 | hb0 | hb0
        · have bz : (1 : Int) < (b : Int) := by omega
          have HE := HX.out
          rw [NB.out (.inr ⟨by omega, hb0⟩)] at HE
          injection HE with q1 q2
          injection q2 with q2 q3
          subst q1 q2 q3
          clear NB NE NO HX CL hxb hb256 hx128 HFIT HNX HOA HP VAL h9 hb0
          go_wp2_with fail
          go_ret2
          exact ⟨rfl, A3.out⟩
        · have bz : ¬ (1 : Int) < (b : Int) := by omega
          have bz2 : ((b : Int) == 0) = true := by simp; omega
          have HE := HX.out
          rw [NB.out (.inl ⟨by omega, hb0⟩)] at HE
          injection HE with q1 q2
          injection q2 with q2 q3
          subst q1 q2 q3
          clear NB NE NO HX CL hxb hb256 hx128 HFIT HNX HOA HP VAL h9 hb0
          go_wp2_with fail
          go_ret2
          exact ⟨rfl, A3.out⟩
        · have bz : ¬ (1 : Int) < (b : Int) := by omega
          have bz2 : ((b : Int) == 0) = false := by simp; omega
          have FT := HFIT.out (by omega)
          have V := Lib.hid (VAL.out FT.2)
          have hb1 : (b : Int) < 128 := by omega
          have HE := HX.out
          rw [NE.out (by omega) (by omega)] at HE
          injection HE with q1 q2
          injection q2 with q2 q3
          have Q2 := Lib.hid q2
          subst q1 q3
          have FN : Hid (bits .or .u64 (acc : Int) (IntKind.u64.wrap (IntKind.u64.wrap (x : Int) * 2 ^ (7 * i))) = (N : Int)) := Lib.hid (by rw [V.out, q2])
          clear NB NE NO HX hxb hb256 hx128 HFIT HNX HOA HP FT HC q2 VAL V h9 hb0 Q2
          go_wp2_with fail
          go_ret2
          exact ⟨by rw [FN.out]; rfl, A3.out⟩
      · have e9 : ((i : Int) == 9) = false := by simp; omega
        have ip : (0 : Int) < (i : Int) := by omega
        rcases (by omega : b = 0 ∨ (0 < b ∧ b < 128) ∨ 128 ≤ b) with hb0 | hb0 | hb0
        · have bz2 : ((b : Int) == 0) = true := by simp; omega
          have HE := HX.out
          rw [NB.out (.inl ⟨by omega, hb0⟩)] at HE
          injection HE with q1 q2
          injection q2 with q2 q3
          subst q1 q2 q3
          clear NB NE NO HX CL hxb hb256 hx128 HFIT HNX HOA HP VAL h9 hb0
          go_wp2_with fail
          go_ret2
          exact ⟨rfl, A3.out⟩
        · have bz2 : ((b : Int) == 0) = false := by simp; omega
          have FT := HFIT.out (by omega)
          have V := Lib.hid (VAL.out FT.2)
          have hb1 : (b : Int) < 128 := by omega
          have HE := HX.out
          rw [NE.out (by omega) (by omega)] at HE
          injection HE with q1 q2
          injection q2 with q2 q3
          have Q2 := Lib.hid q2
          subst q1 q3
          have FN : Hid (bits .or .u64 (acc : Int) (IntKind.u64.wrap (IntKind.u64.wrap (x : Int) * 2 ^ (7 * i))) = (N : Int)) := Lib.hid (by rw [V.out, q2])
          clear NB NE NO HX hxb hb256 hx128 HFIT HNX HOA HP FT HC q2 VAL V h9 hb0 Q2
          go_wp2_with fail
          go_ret2
          exact ⟨by rw [FN.out]; rfl, A3.out⟩
        · have bz2 : ((b : Int) == 0) = false := by simp; omega
          have FT := HFIT.out (by omega)
          have V := Lib.hid (VAL.out FT.2)
          have hb1 : ¬ (b : Int) < 128 := by omega
          have HE := HX.out
          rw [NO.out (by omega) (by omega), ← FQ.out 1] at HE
          have HE := Lib.hid HE
          have hi8 : i + 1 ≤ 9 := by omega
          clear NB NE NO HX hxb hb256 hx128 HFIT HOA HP FT HC VAL h9 hb0
          go_wp2_with fail
          exact ⟨⟨i + 1, acc + x * 128 ^ i, by rw [V.out], by go_num, by omega, by have := FQ.out 1; omega, HNX, HE, A3⟩, by simp [intOf]; omega⟩
      · have e9 : ((i : Int) == 9) = false := by simp; omega
        have ip : ¬ (0 : Int) < (i : Int) := by omega
        rcases (by omega : b < 128 ∨ 128 ≤ b) with hb0 | hb0
        · skip
          have FT := HFIT.out (by omega)
          have V := Lib.hid (VAL.out FT.2)
          have hb1 : (b : Int) < 128 := by omega
          have HE := HX.out
          rw [NE.out (by omega) (by omega)] at HE
          injection HE with q1 q2
          injection q2 with q2 q3
          have Q2 := Lib.hid q2
          subst q1 q3
          have FN : Hid (bits .or .u64 (acc : Int) (IntKind.u64.wrap (IntKind.u64.wrap (x : Int) * 2 ^ (7 * i))) = (N : Int)) := Lib.hid (by rw [V.out, q2])
          clear NB NE NO HX hxb hb256 hx128 HFIT HNX HOA HP FT HC q2 VAL V h9 hb0 Q2
          go_wp2_with fail
          go_ret2
          exact ⟨by rw [FN.out]; rfl, A3.out⟩
        · skip
          have FT := HFIT.out (by omega)
          have V := Lib.hid (VAL.out FT.2)
          have hb1 : ¬ (b : Int) < 128 := by omega
          have HE := HX.out
          rw [NO.out (by omega) (by omega), ← FQ.out 1] at HE
          have HE := Lib.hid HE
          have hi8 : i + 1 ≤ 9 := by omega
          clear NB NE NO HX hxb hb256 hx128 HFIT HOA HP FT HC VAL h9 hb0
          go_wp2_with fail
          exact ⟨⟨i + 1, acc + x * 128 ^ i, by rw [V.out], by go_num, by omega, by have := FQ.out 1; omega, HNX, HE, A3⟩, by simp [intOf]; omega⟩
    · obtain rfl : r = s.size := by omega
      have HX := HR.out
      rw [show s.data.toList.drop s.size = [] from List.drop_eq_nil_of_le (by simp), nmR_nil] at HX
      injection HX with q1 q2
      injection q2 with q2 q3
      subst q1 q2 q3
      rw [Nat.sub_self] at LF
      have LF := Lib.hid LF
      have FIN := Lib.hid (fun m => At.drewN HA.out m)
      rw [← hr] at FIN
      clear HA HR FQ hr
      go_wp2_with (go_at_call 16; with_reducible refine LF.out.mono ?_; rintro e1 w1 ⟨rfl, m, rfl⟩)
      go_ret2
      exact ⟨rfl, FIN.out m⟩

end Go.Proofs.Ytfgdfhcefgblaaa
