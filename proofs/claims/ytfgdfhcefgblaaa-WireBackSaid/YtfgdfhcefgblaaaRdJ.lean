/- The law WireBack: what is written is read. -/
import Derived.Test.YtfgdfhcefgblaaaRdH
namespace Go.Proofs.Ytfgdfhcefgblaaa
open Go.ChangeShapes Go.WideShapes Go.ChangeAt Go.RowKit

theorem nmR_leb (rest : List UInt8) : ∀ (n i acc : Nat), i ≤ 9 → n < 128 ^ (9 - i) * 2 → (0 < i → 0 < n) → nmR i acc (leb n ++ rest) = (0, acc + n * 128 ^ i, i + (leb n).length) := by
  intro n
  induction n using Nat.strongRecOn with
  | ind n ih =>
    intro i acc hi hn hp
    by_cases h : n < 128
    · rw [leb_small h]
      have hb : n.toUInt8.toNat = n := by simp; omega
      have h9 : ¬ (9 ≤ i ∧ 1 < n) := by
        rintro ⟨h1, h2⟩
        have : i = 9 := by omega
        subst this
        simp at hn; omega
      show nmR i acc (n.toUInt8 :: rest) = _
      rw [nmR_end (by rw [hb]; rintro (⟨h1, h2⟩ | h1); · have := hp h1; omega
                      · exact h9 h1) (by rw [hb]; exact h), hb, Nat.mod_eq_of_lt h]
      rfl
    · rw [leb_big h]
      have hi9 : i < 9 := by
        rcases Nat.lt_or_ge i 9 with g | g
        · exact g
        · have : i = 9 := by omega
          subst this
          simp at hn; omega
      have hb : (n % 128 + 128).toUInt8.toNat = n % 128 + 128 := by
        have := Nat.mod_lt n (show 0 < 128 by omega)
        simp; omega
      show nmR i acc ((n % 128 + 128).toUInt8 :: (leb (n / 128) ++ rest)) = _
      have hm := Nat.mod_lt n (show 0 < 128 by omega)
      have e9 : 128 ^ (9 - i) = 128 ^ (9 - (i + 1)) * 128 := by rw [show 9 - i = 9 - (i + 1) + 1 by omega, Nat.pow_succ]
      rw [e9] at hn
      rw [nmR_on (by rw [hb]; omega) (by rw [hb]; omega), hb, ih (n / 128) (by omega) (i + 1) _ (by omega) (by omega) (fun _ => by omega), List.length_cons]
      have e1 : (n % 128 + 128) % 128 = n % 128 := by omega
      have e2 : n % 128 * 128 ^ i + n / 128 * 128 ^ (i + 1) = n * 128 ^ i := by
        rw [Nat.pow_succ, show n / 128 * (128 ^ i * 128) = (128 * (n / 128)) * 128 ^ i by ac_rfl, ← Nat.add_mul, Nat.mod_add_div]
      rw [e1, Nat.add_assoc, e2]
      congr 2
      omega

theorem nm_leb (n : Nat) (hn : n < 18446744073709551616) (rest : List UInt8) : nmR 0 0 (leb n ++ rest) = (0, n, (leb n).length) := by
  rw [nmR_leb rest n 0 0 (by omega) (by have : (128 : Nat) ^ (9 - 0) * 2 = 18446744073709551616 := by decide
                                        omega) (fun h => absurd h (by omega))]
  simp

theorem leV_leK (n : Nat) : ∀ k, leV (leK n k) = n % 256 ^ k
  | 0 => by simp [leK, leV, Nat.mod_one]
  | k + 1 => by
    rw [leK_succ, leV_snoc, leV_leK n k, leK_len, Nat.mod_pow_succ]
    congr 1
    rw [Nat.mul_comm]
    congr 1

theorem leV_back (n : Nat) (hn : n < 18446744073709551616) (rest : List UInt8) : leV ((leK n 8 ++ rest).take 8) = n := by
  rw [List.take_append_of_le_length (by rw [leK_len]; omega), List.take_of_length_le (by rw [leK_len]; omega), leV_leK]
  exact Nat.mod_eq_of_lt hn

theorem zz_back (n : Nat) (hn : n < 18446744073709551616) : zzI (zz n) = wrap64 (n : Int) ∧ zz n < 18446744073709551616 := by
  unfold zz zzI wrap64
  by_cases h : n < 9223372036854775808
  · rw [if_pos h, if_neg (by omega)]; omega
  · rw [if_neg h, if_pos (by omega)]; omega

theorem tx_back (s : ByteArray) (hs : s.size ≤ 1000) (rest : List UInt8) : txR (txB s ++ rest) = (0, s.data.toList, (txB s).length) := by
  have hB : txB s = leb s.size ++ s.data.toList := by unfold txB; rw [if_pos (by omega)]
  have hl : s.data.toList.length = s.size := rfl
  unfold txR
  rw [hB, List.append_assoc, nm_leb s.size (by omega)]
  dsimp only
  rw [if_neg (by omega), if_neg (by omega), if_neg (by rw [List.length_append, List.length_append, hl]; omega), List.drop_append_of_le_length (Nat.le_refl _), List.drop_length, List.nil_append, List.take_append_of_le_length (by rw [hl]; omega), List.take_of_length_le (by rw [hl]; omega), List.length_append, hl]

def bC (K N : Nat → Int) (S : Nat → ByteArray) : Nat → List UInt8
  | 0 => []
  | k + 1 => bC K N S k ++ paB (K k) (N k).toNat (S k)

theorem bC_rest (K N : Nat → Int) (S : Nat → ByteArray) (j : Nat) : ∀ d, ∃ rest, bC K N S (j + d) = bC K N S j ++ rest
  | 0 => ⟨[], by simp⟩
  | d + 1 => by
    obtain ⟨r, hr⟩ := bC_rest K N S j d
    exact ⟨r ++ paB (K (j + d)) (N (j + d)).toNat (S (j + d)), by show bC K N S (j + d) ++ _ = _; rw [hr, List.append_assoc]; rfl⟩

section
variable {p q : Nat} {T : ByteArray} {rest : List UInt8}

theorem b_num (hT : T.size ≤ 1000000000) (hq : q ≤ T.size) (n : Nat) (hn : n < 18446744073709551616) (h : T.data.toList.drop q = leb n ++ rest) :
    Tri1 Try.prog 7 #[.pointer (some ⟨p, 0, none⟩)] (rdA p T q 0) (.int .u64 n) (rdA p T (q + (leb n).length) 0) :=
  tp_num_ok (rd_num hT hq (by rw [h]; exact nm_leb n hn rest))

theorem b_int (hT : T.size ≤ 1000000000) (hq : q ≤ T.size) (n : Nat) (hn : n < 18446744073709551616) (h : T.data.toList.drop q = leb (zz n) ++ rest) :
    Tri1 Try.prog 9 #[.pointer (some ⟨p, 0, none⟩)] (rdA p T q 0) (.int .i64 (wrap64 (n : Int))) (rdA p T (q + (leb (zz n)).length) 0) := by
  have := tp_int_ok (rd_int (p := p) hT hq (E := 0) (N := zz n) (K := (leb (zz n)).length) (by rw [h]; exact nm_leb _ (zz_back n hn).2 rest))
  rw [(zz_back n hn).1] at this
  exact this

theorem b_flt (hT : T.size ≤ 1000000000) (hq : q ≤ T.size) (n : Nat) (hn : n < 18446744073709551616) (h : T.data.toList.drop q = leK n 8 ++ rest) :
    Tri1 Try.prog 12 #[.pointer (some ⟨p, 0, none⟩)] (rdA p T q 0) (.float .f64 n) (rdA p T (q + (leK n 8).length) 0) := by
  have hl : q + 8 ≤ T.size := by
    have := congrArg List.length h
    rw [List.length_drop, List.length_append, leK_len] at this
    have h2 : T.data.toList.length = T.size := rfl
    omega
  have := tp_flt_ok (rd_float (p := p) hT hl)
  rw [show byK T q 8 = (leK n 8 ++ rest).take 8 by unfold byK; rw [h], leV_back n hn] at this
  rw [leK_len]
  exact this

theorem b_txt (hT : T.size ≤ 1000000000) (hq : q ≤ T.size) (s : ByteArray) (hs : s.size ≤ 1000) (h : T.data.toList.drop q = txB s ++ rest) :
    Tri1 Try.prog 14 #[.pointer (some ⟨p, 0, none⟩)] (rdA p T q 0) (.string s) (rdA p T (q + (txB s).length) 0) := by
  obtain ⟨K, hK, T0⟩ := rd_text (p := p) hT hq
  rw [h, tx_back s hs rest] at T0 hK
  have hk := hK rfl
  dsimp only at hk
  have := tp_txt_ok T0
  rw [hk] at this
  exact this
end

end Go.Proofs.Ytfgdfhcefgblaaa
