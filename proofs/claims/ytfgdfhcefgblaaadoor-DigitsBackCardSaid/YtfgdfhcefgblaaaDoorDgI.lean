/- Digits (layer 4): numerals, there and back. -/
import Derived.Test.YtfgdfhcefgblaaaDoorDgH
namespace Go.Proofs.YtfgdfhcefgblaaaDoor

/-- a number's digits to a base -/
def pD (B n : Nat) : List UInt8 := if h : n < B ∨ B < 2 then [hc n] else pD B (n / B) ++ [hc (n % B)]
termination_by n
decreasing_by exact Nat.div_lt_self (by omega) (by omega)

theorem pD_small {B n : Nat} (h : n < B) : pD B n = [hc n] := by rw [pD, dif_pos (.inl h)]
theorem pD_big {B n : Nat} (hB : 2 ≤ B) (h : ¬ n < B) : pD B n = pD B (n / B) ++ [hc (n % B)] := by rw [pD, dif_neg (by omega)]

theorem hexD_pD : ∀ n, hexD n = pD 16 n := by
  intro n
  induction n using Nat.strongRecOn with
  | ind n ih =>
    by_cases h : n < 16
    · rw [hexD_small h, pD_small h]
    · rw [hexD_big h, pD_big (by omega) h, ih (n / 16) (by omega)]

theorem dv_hc {d : Nat} (h : d < 16) : dv (hc d).toNat = d := by
  have : ∀ d : Fin 16, dv (hc d.val).toNat = d.val := by decide +kernel
  exact this ⟨d, h⟩

theorem hc_dv {c : UInt8} (h : dv c.toNat < 16) : hc (dv c.toNat) = c := by
  have : ∀ c : Fin 256, dv (UInt8.ofNat c.val).toNat < 16 → hc (dv (UInt8.ofNat c.val).toNat) = UInt8.ofNat c.val := by decide +kernel
  have := this ⟨c.toNat, c.toNat_lt⟩
  simp only [UInt8.ofNat_toNat] at this
  exact this h

theorem hc_zero {d : Nat} (h : d < 16) (h48 : (hc d).toNat = 48) : d = 0 := by
  have : ∀ d : Fin 16, (hc d.val).toNat = 48 → d.val = 0 := by decide +kernel
  exact this ⟨d, h⟩ h48

section
variable {B : Nat}

theorem pD_pos (n : Nat) : 0 < (pD B n).length := by
  rw [pD]
  split
  · simp
  · rw [List.length_append]; simp

theorem pD_nv (h2 : 2 ≤ B) (h16 : B ≤ 16) : ∀ n, nv B 0 (pD B n) = n := by
  intro n
  induction n using Nat.strongRecOn with
  | ind n ih =>
    by_cases h : n < B
    · rw [pD_small h]
      show 0 * B + dv (hc n).toNat = n
      rw [dv_hc (by omega)]; omega
    · rw [pD_big h2 h, nv_snoc, ih (n / B) (Nat.div_lt_self (by omega) (by omega)), dv_hc (Nat.lt_of_lt_of_le (Nat.mod_lt _ (by omega)) h16), Nat.mul_comm, Nat.div_add_mod]

theorem pD_all (h2 : 2 ≤ B) (h16 : B ≤ 16) : ∀ n, (pD B n).all (isD B) = true := by
  intro n
  induction n using Nat.strongRecOn with
  | ind n ih =>
    by_cases h : n < B
    · rw [pD_small h]
      simp [isD, dv_hc (show n < 16 by omega), h]
    · rw [pD_big h2 h, List.all_append, ih (n / B) (Nat.div_lt_self (by omega) (by omega))]
      have := Nat.mod_lt n (show 0 < B by omega)
      simp [isD, dv_hc (show n % B < 16 by omega), this]

theorem pD_head (h2 : 2 ≤ B) (h16 : B ≤ 16) : ∀ n, 1 ≤ n → ((pD B n).headD 0).toNat ≠ 48 := by
  intro n
  induction n using Nat.strongRecOn with
  | ind n ih =>
    intro hn
    by_cases h : n < B
    · rw [pD_small h]
      intro h48
      have := hc_zero (show n < 16 by omega) h48
      omega
    · have hd : 1 ≤ n / B := (Nat.le_div_iff_mul_le (by omega)).2 (by omega)
      have := ih (n / B) (Nat.div_lt_self (by omega) (by omega)) hd
      rw [pD_big h2 h]
      have hp := pD_pos (B := B) (n / B)
      cases e : pD B (n / B) with
      | nil => rw [e] at hp; simp at hp
      | cons c r => rw [e] at this; exact this

theorem pD_fm (h2 : 2 ≤ B) (h16 : B ≤ 16) (n : Nat) : fm B (pD B n) = true := by
  unfold fm
  rw [pD_all h2 h16, decide_eq_true (pD_pos n), Bool.true_and, Bool.and_true]
  by_cases h : n < B
  · rw [pD_small h]; rfl
  · rw [show decide (((pD B n).headD 0).toNat = 48) = false from decide_eq_false (pD_head h2 h16 n (by omega)), Bool.and_false]; rfl

theorem pD_rd (h2 : 2 ≤ B) (h16 : B ≤ 16) (n : Nat) (hn : n < 18446744073709551616) : rdE B (pD B n) = 0 ∧ rdV B (pD B n) = n := by
  have e : rdE B (pD B n) = 0 := by unfold rdE; rw [pD_fm h2 h16, if_pos rfl, pD_nv h2 h16, if_pos hn]
  exact ⟨e, by unfold rdV; rw [e, if_pos rfl, pD_nv h2 h16]⟩

theorem snoc_cases (l : List UInt8) : l = [] ∨ ∃ m c, l = m ++ [c] := by
  rcases List.eq_nil_or_concat l with h | ⟨m, c, h⟩
  · exact .inl h
  · exact .inr ⟨m, c, by simpa using h⟩

theorem fm_snoc {l : List UInt8} {c : UInt8} (h : fm B (l ++ [c]) = true) (hl : l ≠ []) : fm B l = true ∧ dv c.toNat < B ∧ (l.headD 0).toNat ≠ 48 := by
  unfold fm at h ⊢
  rw [Bool.and_eq_true, Bool.and_eq_true, List.all_append, Bool.and_eq_true] at h
  obtain ⟨⟨h1, h3⟩, h4, h5⟩ := h
  have hp : 0 < l.length := List.length_pos_iff.2 hl
  have hhd : (l ++ [c]).headD 0 = l.headD 0 := by cases l with | nil => exact absurd rfl hl | cons _ _ => rfl
  have hlen : decide (1 < (l ++ [c]).length) = true := decide_eq_true (by rw [List.length_append]; simp; omega)
  rw [hhd, hlen, Bool.true_and] at h3
  have hne : (l.headD 0).toNat ≠ 48 := by simpa using h3
  refine ⟨?_, ?_, hne⟩
  · rw [h4, decide_eq_true hp, decide_eq_false hne, Bool.and_false]; rfl
  · unfold isD at h5; simpa using h5

theorem nv_pos {l : List UInt8} (hl : l ≠ []) (hB : 1 ≤ B) (hd : (l.headD 0).toNat ≠ 48) (hc : dv (l.headD 0).toNat < 16) : 1 ≤ nv B 0 l := by
  cases l with
  | nil => exact absurd rfl hl
  | cons c r =>
    have h0 : dv c.toNat ≠ 0 := by
      intro hz
      have : c.toNat = 48 := by
        unfold dv at hz
        split at hz
        · omega
        · split at hz <;> omega
      exact hd this
    have h1 : nv B 0 (c :: r) = nv B (0 * B + dv c.toNat) r := rfl
    have h2 := nv_mono B hB r (0 * B + dv c.toNat)
    omega

theorem back_pD (h2 : 2 ≤ B) (h16 : B ≤ 16) : ∀ (k : Nat) (l : List UInt8), l.length = k → fm B l = true → pD B (nv B 0 l) = l
  | 0, l, hk, hf => by
    have : l = [] := List.eq_nil_of_length_eq_zero hk
    rw [this] at hf; cases hf
  | k + 1, l, hk, hf => by
    rcases snoc_cases l with rfl | ⟨m, c, rfl⟩
    · cases hf
    · by_cases hm : m = []
      · subst hm
        have hd : dv c.toNat < B := by
          unfold fm at hf
          rw [Bool.and_eq_true] at hf
          have := hf.2
          simpa [isD] using this
        have e : nv B 0 ([] ++ [c]) = dv c.toNat := by show 0 * B + dv c.toNat = _; omega
        rw [e, pD_small hd, hc_dv (by omega)]; rfl
      · obtain ⟨h3, h4, h5⟩ := fm_snoc hf hm
        have ih := back_pD h2 h16 k m (by rw [List.length_append] at hk; simpa using hk) h3
        have hc16 : dv (m.headD 0).toNat < 16 := by
          unfold fm at h3
          rw [Bool.and_eq_true, List.all_eq_true] at h3
          have := h3.2 (m.headD 0) (by cases m with | nil => exact absurd rfl hm | cons _ _ => simp)
          unfold isD at this
          have := of_decide_eq_true this
          omega
        have hpos := nv_pos (B := B) hm (by omega) h5 hc16
        rw [nv_snoc]
        have hge : B ≤ nv B 0 m * B := Nat.le_mul_of_pos_left _ hpos
        rw [pD_big h2 (by omega), show (nv B 0 m * B + dv c.toNat) / B = nv B 0 m by rw [Nat.mul_comm, Nat.mul_add_div (by omega), Nat.div_eq_of_lt h4]; omega,
          show (nv B 0 m * B + dv c.toNat) % B = dv c.toNat by rw [Nat.mul_comm, Nat.mul_add_mod, Nat.mod_eq_of_lt h4], ih, hc_dv (by omega)]

theorem rd_back (h2 : 2 ≤ B) (h16 : B ≤ 16) {l : List UInt8} (h : rdE B l = 0) : pD B (rdV B l) = l ∧ rdV B l < 18446744073709551616 := by
  have hf : fm B l = true := by
    cases hf : fm B l with
    | true => rfl
    | false => unfold rdE at h; rw [hf] at h; cases h
  unfold rdV
  rw [if_pos h]
  refine ⟨back_pD h2 h16 _ l rfl hf, ?_⟩
  unfold rdE at h
  rw [if_pos hf] at h
  by_cases hb : nv B 0 l < 18446744073709551616
  · exact hb
  · rw [if_neg hb] at h; cases h
end

end Go.Proofs.YtfgdfhcefgblaaaDoor
