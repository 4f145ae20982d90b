/- Digits (layer 4): ReadHex; the document's digit. -/
import Derived.Test.YtfgdfhcefgblaaaDoorDgB
namespace Go.Proofs.YtfgdfhcefgblaaaDoor
open Go.ChangeShapes Go.WideShapes Go.ChangeAt Go.RowKit

theorem r4_digit (c : UInt8) (w : World) : Calls Tryd.prog 40 #[.int .u8 c.toNat] w fun e w' => e = .returned (.int .u64 (dv c.toNat : Nat)) ∧ w = w' := by
  have hc := c.toNat_lt
  obtain ⟨fin, hfin⟩ : ∃ fin, dv c.toNat = fin := ⟨_, rfl⟩
  rw [hfin]
  unfold dv at hfin
  generalize c.toNat = n at *
  by_cases h1 : 48 ≤ n ∧ n ≤ 57
  · rw [if_pos h1] at hfin
    have h1I : (48 : Int) ≤ (n : Int) := by omega
    have h2I : (n : Int) ≤ 57 := by omega
    have FN : Hid ((n : Int) - 48 = (fin : Int)) := Lib.hid (by omega)
    clear hfin h1
    go_enter Tryd.func40, Tryd.ntmps40
    go_wp2
    go_ret
    exact ⟨by rw [← FN.out]; rfl, rfl⟩
  · rw [if_neg h1] at hfin
    have t1 : (48 : Int) ≤ (n : Int) ∧ ¬ (n : Int) ≤ 57 ∨ ¬ (48 : Int) ≤ (n : Int) := by omega
    by_cases h2 : 97 ≤ n ∧ n ≤ 102
    · rw [if_pos h2] at hfin
      have h1I : (48 : Int) ≤ (n : Int) := by omega
      have h2I : ¬ (n : Int) ≤ 57 := by omega
      have h3I : (97 : Int) ≤ (n : Int) := by omega
      have h4I : (n : Int) ≤ 102 := by omega
      have FN : Hid ((n : Int) - 97 + 10 = (fin : Int)) := Lib.hid (by omega)
      clear hfin h1 h2 t1
      go_enter Tryd.func40, Tryd.ntmps40
      go_wp2
      go_ret
      exact ⟨by rw [← FN.out]; rfl, rfl⟩
    · rw [if_neg h2] at hfin
      subst hfin
      have t2 : (97 : Int) ≤ (n : Int) ∧ ¬ (n : Int) ≤ 102 ∨ ¬ (97 : Int) ≤ (n : Int) := by omega
      clear h1 h2
      rcases t1 with ⟨p1, p2⟩ | p1 <;> rcases t2 with ⟨p3, p4⟩ | p3
      all_goals first
        | (exfalso; omega)
        | (go_enter Tryd.func40, Tryd.ntmps40
           go_wp2
           go_ret
           exact ⟨rfl, rfl⟩)

theorem dg_hexv (c : UInt8) (h : dv c.toNat < 16) (w : World) : Calls Tryd.prog 32 #[.int .u8 c.toNat] w fun e w' => e = .returned (.int .u64 (dv c.toNat : Nat)) ∧ w = w' := by
  have hc := c.toNat_lt
  have K := dg_is c w
  unfold isD at K
  obtain ⟨fin, hfin⟩ : ∃ fin, dv c.toNat = fin := ⟨_, rfl⟩
  rw [hfin] at K h ⊢
  unfold dv at hfin
  by_cases h1 : 48 ≤ c.toNat ∧ c.toNat ≤ 57
  · rw [if_pos h1] at hfin
    rw [decide_eq_true (by omega)] at K
    have K := Lib.hid K
    generalize c.toNat = n at *
    have h1I : (48 : Int) ≤ (n : Int) := by omega
    have h2I : (n : Int) ≤ 57 := by omega
    have FN : Hid ((n : Int) - 48 = (fin : Int)) := Lib.hid (by omega)
    clear hfin h1
    go_enter Tryd.func32, Tryd.ntmps32
    go_wp2_with (go_at_call 26; with_reducible refine K.out.mono ?_; rintro e1 w1 ⟨rfl, rfl⟩)
    go_ret
    exact ⟨by rw [← FN.out]; rfl, rfl⟩
  · rw [if_neg h1] at hfin
    have h2 : 97 ≤ c.toNat ∧ c.toNat ≤ 102 := by
      by_cases h2 : 97 ≤ c.toNat ∧ c.toNat ≤ 102
      · exact h2
      · rw [if_neg h2] at hfin; omega
    rw [if_pos h2] at hfin
    rw [decide_eq_false (by omega)] at K
    have K := Lib.hid K
    generalize c.toNat = n at *
    have h3I : (97 : Int) ≤ (n : Int) := by omega
    have h4I : (n : Int) ≤ 102 := by omega
    have FN : Hid ((n : Int) - 97 + 10 = (fin : Int)) := Lib.hid (by omega)
    clear hfin h1 h2
    go_enter Tryd.func32, Tryd.ntmps32
    go_wp2_with (go_at_call 26; with_reducible refine K.out.mono ?_; rintro e1 w1 ⟨rfl, rfl⟩)
    go_ret
    exact ⟨by rw [← FN.out]; rfl, rfl⟩

theorem nv_low (B : Nat) : ∀ (l : List UInt8) (n : Nat), n * B ^ l.length ≤ nv B n l
  | [], n => by simp [nv]
  | c :: r, n => by
    have := nv_low B r (n * B + dv c.toNat)
    show n * B ^ (r.length + 1) ≤ nv B (n * B + dv c.toNat) r
    have h2 : n * B ^ (r.length + 1) ≤ (n * B + dv c.toNat) * B ^ r.length := by
      rw [Nat.pow_succ, Nat.add_mul, show n * (B ^ r.length * B) = n * B * B ^ r.length by ac_rfl]
      omega
    omega

theorem nv_high (B : Nat) : ∀ (l : List UInt8) (n : Nat), (∀ c ∈ l, dv c.toNat < B) → nv B n l < (n + 1) * B ^ l.length
  | [], n, _ => by simp [nv]
  | c :: r, n, h => by
    have := nv_high B r (n * B + dv c.toNat) fun d hd => h d (List.mem_cons_of_mem _ hd)
    have hc := h c (by simp)
    show nv B (n * B + dv c.toNat) r < (n + 1) * B ^ (r.length + 1)
    have h2 : (n * B + dv c.toNat + 1) * B ^ r.length ≤ (n + 1) * B ^ (r.length + 1) := by
      rw [Nat.pow_succ, show (n + 1) * (B ^ r.length * B) = ((n + 1) * B) * B ^ r.length by ac_rfl]
      apply Nat.mul_le_mul_right
      rw [Nat.add_mul]; omega
    omega

theorem fm_long {s : ByteArray} (h : fm 16 s.data.toList = true) (hl : 16 < s.size) : 18446744073709551616 ≤ nv 16 0 s.data.toList := by
  have h0 : 0 < s.size := by omega
  have e : s.data.toList = s[0] :: s.data.toList.drop 1 := by
    conv => lhs; rw [← List.drop_zero (l := s.data.toList)]
    rw [dg_drop h0]
  have hd : dv s[0].toNat ≠ 0 := by
    intro hz
    have h48 : s[0].toNat = 48 := by
      unfold dv at hz
      split at hz
      · omega
      · split at hz <;> omega
    unfold fm at h
    rw [e] at h
    have h2 : 1 < (s[0] :: s.data.toList.drop 1).length := by rw [← e]; show 1 < s.size; omega
    simp only [List.headD_cons, h48, decide_true, Bool.and_true] at h
    rw [decide_eq_true h2] at h
    simp at h
  rw [e]
  show _ ≤ nv 16 (0 * 16 + dv s[0].toNat) _
  have := nv_low 16 (s.data.toList.drop 1) (0 * 16 + dv s[0].toNat)
  have hlen : (s.data.toList.drop 1).length = s.size - 1 := by rw [List.length_drop]; rfl
  rw [hlen] at this
  have h3 : 16 ^ 16 ≤ 16 ^ (s.size - 1) := Nat.pow_le_pow_right (by omega) (by omega)
  have h4 : (16 : Nat) ^ 16 = 18446744073709551616 := by decide
  have h5 : 1 * 16 ^ (s.size - 1) ≤ (0 * 16 + dv s[0].toNat) * 16 ^ (s.size - 1) := Nat.mul_le_mul_right _ (by omega)
  omega

theorem or16 {g d : Nat} (hd : d < 16) : (g * 16) ||| d = g * 16 + d := by
  rw [Nat.mul_comm]
  exact (Nat.two_pow_add_eq_or_of_lt (i := 4) hd g).symm

set_option maxRecDepth 100000 in
set_option maxHeartbeats 2000000 in
theorem dg_readhex (s : ByteArray) (hs : s.size ≤ 1000000) (w : World) :
    Calls Tryd.prog 12 #[.string s] w fun e w' => e = .returned (.tuple #[.int .u64 (rdV 16 s.data.toList), .int .i64 (rdE 16 s.data.toList)]) ∧ w = w' := by
  have FM := dg_formed 16 31 (.inr ⟨rfl, rfl⟩) s (by omega) w
  cases hf : fm 16 s.data.toList with
  | false =>
    rw [hf] at FM
    have FM := Lib.hid FM
    have V1 : Hid (rdE 16 s.data.toList = 2) := Lib.hid (by unfold rdE; rw [hf]; rfl)
    have V2 : Hid (rdV 16 s.data.toList = 0) := Lib.hid (by unfold rdV; rw [V1.out]; rfl)
    clear hf
    rw [V1.out, V2.out]
    go_enter Tryd.func12, Tryd.ntmps12
    go_wp2_with (go_at_call 25; with_reducible refine FM.out.mono ?_; rintro e1 w1 ⟨rfl, rfl⟩)
    go_ret2
    exact ⟨rfl, rfl⟩
  | true =>
    rw [hf] at FM
    have FM := Lib.hid FM
    by_cases hlong : 16 < s.size
    · have h := fm_long hf hlong
      have V1 : Hid (rdE 16 s.data.toList = 4) := Lib.hid (by unfold rdE; rw [hf, if_pos rfl, if_neg (by omega)])
      have V2 : Hid (rdV 16 s.data.toList = 0) := Lib.hid (by unfold rdV; rw [V1.out]; rfl)
      have hlI : (16 : Int) < (s.size : Int) := by omega
      clear hf h hlong
      rw [V1.out, V2.out]
      go_enter Tryd.func12, Tryd.ntmps12
      go_wp2_with (go_at_call 25; with_reducible refine FM.out.mono ?_; rintro e1 w1 ⟨rfl, rfl⟩)
      go_ret2
      exact ⟨rfl, rfl⟩
    · have hlI : ¬ (16 : Int) < (s.size : Int) := by omega
      have DG := Lib.hid (fun r (hr : r < s.size) => fm_digit hf hr)
      have HV := Lib.hid (fun r (hr : r < s.size) => dg_hexv s[r] (fm_digit hf hr) w)
      have ST := Lib.hid (fun r (hr : r < s.size) => nv_step (B := 16) hr)
      have BD : Hid (∀ r, r < s.size → nv 16 0 (s.data.toList.take r) < 1152921504606846976) := Lib.hid fun r hr => by
        have h1 := nv_high 16 (s.data.toList.take r) 0 fun c hc => by
          obtain ⟨k, hk, rfl⟩ := List.mem_iff_getElem.1 (List.mem_of_mem_take hc)
          exact fm_digit hf (r := k) hk
        have h2 : (s.data.toList.take r).length ≤ r := List.length_take_le _ _
        have h3 : 16 ^ (s.data.toList.take r).length ≤ 16 ^ 15 := Nat.pow_le_pow_right (by omega) (by omega)
        have h4 : (16 : Nat) ^ 15 = 1152921504606846976 := by decide
        omega
      have FINE : Hid (rdE 16 s.data.toList = 0 ∧ rdV 16 s.data.toList = nv 16 0 (s.data.toList.take s.size)) := Lib.hid (by
        have h1 := nv_high 16 s.data.toList 0 fun c hc => by
          obtain ⟨k, hk, rfl⟩ := List.mem_iff_getElem.1 hc
          exact fm_digit hf (r := k) hk
        have hlen : s.data.toList.length = s.size := rfl
        have h3 : 16 ^ s.size ≤ 16 ^ 16 := Nat.pow_le_pow_right (by omega) (by omega)
        have h4 : (16 : Nat) ^ 16 = 18446744073709551616 := by decide
        rw [hlen] at h1
        have e0 : s.data.toList.take s.size = s.data.toList := List.take_of_length_le (by simp)
        have e : rdE 16 s.data.toList = 0 := by unfold rdE; rw [hf, if_pos rfl, if_pos (by omega)]
        exact ⟨e, by unfold rdV; rw [e, e0]; rfl⟩)
      have Z0 : Hid (nv 16 0 (s.data.toList.take 0) = 0) := Lib.hid rfl
      obtain ⟨G, hG⟩ : ∃ G : Nat → Nat, G = fun r => nv 16 0 (s.data.toList.take r) := ⟨_, rfl⟩
      have ST : Hid (∀ r (hr : r < s.size), G (r + 1) = G r * 16 + dv s[r].toNat) := Lib.hid (by rw [hG]; exact ST.out)
      have BD : Hid (∀ r, r < s.size → G r < 1152921504606846976) := Lib.hid (by rw [hG]; exact BD.out)
      have FINE : Hid (rdE 16 s.data.toList = 0 ∧ rdV 16 s.data.toList = G s.size) := Lib.hid (by rw [hG]; exact FINE.out)
      have Z0 : Hid (G 0 = 0) := Lib.hid (by rw [hG]; exact Z0.out)
      clear hG hf hlong
      go_enter Tryd.func12, Tryd.ntmps12
      go_wp2_with (go_at_call 25; with_reducible refine FM.out.mono ?_; rintro e1 w1 ⟨rfl, rfl⟩)
      go_loop [4, 14] (fun nw iv => ∃ i : Nat, nw = .int .u64 (G i : Nat) ∧ iv = .int .i64 i ∧ i ≤ s.size) (fun _ iv => s.size - (intOf iv).toNat)
      case atStart => exact ⟨0, by rw [Z0.out]; rfl, rfl, Nat.zero_le _⟩
      case round =>
        obtain ⟨i, rfl, rfl, hi⟩ := hrel
        by_cases hlt : i < s.size
        · have hltI : (i : Int) < (s.size : Int) := by omega
          have st := ST.out i hlt
          have bd := BD.out i hlt
          have dg := DG.out i hlt
          have H1 := HV.out i hlt
          obtain ⟨d, hd⟩ : ∃ d, dv s[i].toNat = d := ⟨_, rfl⟩
          rw [hd] at st dg H1
          obtain ⟨g, hg⟩ : ∃ g, G i = g := ⟨_, rfl⟩
          rw [hg] at st bd ⊢
          have OR := u64_or_nat (g * 16) d (by omega) (by omega)
          rw [or16 dg, ← st] at OR
          push_cast at OR
          have HOR := Lib.hid OR
          clear OR
          have H1 := Lib.hid H1
          clear st hd hg
          go_wp2_with (go_at_call 32; with_reducible refine H1.out.mono ?_; rintro e1 w1 ⟨rfl, rfl⟩)
          exact ⟨⟨i + 1, by rw [HOR.out], by go_num, by omega⟩, by simp [intOf]; omega⟩
        · obtain rfl : i = s.size := by omega
          have hltI : ¬ (s.size : Int) < (s.size : Int) := by omega
          obtain ⟨v1, v2⟩ := FINE.out
          have V1 := Lib.hid v1
          have V2 := Lib.hid v2
          clear v1 v2
          go_wp2_with fail
          go_ret2
          exact ⟨by rw [V1.out, V2.out]; rfl, rfl⟩

end Go.Proofs.YtfgdfhcefgblaaaDoor
