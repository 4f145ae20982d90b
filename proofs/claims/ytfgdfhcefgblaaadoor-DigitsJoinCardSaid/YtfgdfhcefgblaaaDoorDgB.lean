/- Digits (layer 4): Read. -/
import Derived.Test.YtfgdfhcefgblaaaDoorDgA
namespace Go.Proofs.YtfgdfhcefgblaaaDoor
open Go.ChangeShapes Go.WideShapes Go.ChangeAt Go.RowKit

theorem dg_drop {s : ByteArray} {r : Nat} (h : r < s.size) : s.data.toList.drop r = s[r] :: s.data.toList.drop (r + 1) := by
  rw [List.drop_eq_getElem_cons (by simpa using h)]; rfl

theorem dg_take {s : ByteArray} {r : Nat} (h : r < s.size) : s.data.toList.take (r + 1) = s.data.toList.take r ++ [s[r]] := by
  rw [List.take_succ_eq_append_getElem (by simpa using h)]; rfl

theorem nv_step {B : Nat} {s : ByteArray} {r : Nat} (h : r < s.size) : nv B 0 (s.data.toList.take (r + 1)) = nv B 0 (s.data.toList.take r) * B + dv s[r].toNat := by
  rw [dg_take h, nv_snoc]

theorem nv_up {B : Nat} (hB : 1 ≤ B) (s : ByteArray) (r : Nat) : nv B 0 (s.data.toList.take r) ≤ nv B 0 s.data.toList := by
  conv => rhs; rw [← List.take_append_drop r s.data.toList]
  rw [nv_app]
  exact nv_mono B hB _ _

theorem fm_digit {B : Nat} {s : ByteArray} (h : fm B s.data.toList = true) {r : Nat} (hr : r < s.size) : dv s[r].toNat < B := by
  unfold fm at h
  rw [Bool.and_eq_true, List.all_eq_true] at h
  have := h.2 s[r] (List.getElem_mem (l := s.data.toList) (by simpa using hr))
  unfold isD at this
  simpa using this

theorem dv_small {c : Nat} (h : dv c < 10) : 48 ≤ c ∧ c ≤ 57 ∧ dv c = c - 48 := by
  unfold dv at h ⊢
  by_cases h1 : 48 ≤ c ∧ c ≤ 57
  · rw [if_pos h1]; exact ⟨h1.1, h1.2, rfl⟩
  · rw [if_neg h1] at h
    split at h <;> omega

theorem mul10 (x : Nat) (hx : x < 18446744073709551616) (w : World) :
    Calls Tryd.prog 27 #[.int .u64 x, .int .u64 10] w fun e w' => e = .returned (.tuple #[.int .u64 ((x * 10 / 18446744073709551616 : Nat) : Int), .int .u64 ((x * 10 % 18446744073709551616 : Nat) : Int)]) ∧ w = w' :=
  (Tryd.bits_Mul64 x 10 hx (by decide) w).mono fun _ _ ⟨a, b⟩ => ⟨a, b.symm⟩

set_option maxRecDepth 100000 in
set_option maxHeartbeats 2000000 in
theorem dg_read (s : ByteArray) (hs : s.size ≤ 1000000) (w : World) :
    Calls Tryd.prog 8 #[.string s] w fun e w' => e = .returned (.tuple #[.int .u64 (rdV 10 s.data.toList), .int .i64 (rdE 10 s.data.toList)]) ∧ w = w' := by
  have FM := dg_formed 10 26 (.inl ⟨rfl, rfl⟩) s (by omega) w
  cases hf : fm 10 s.data.toList with
  | false =>
    rw [hf] at FM
    have FM := Lib.hid FM
    have V1 : Hid (rdE 10 s.data.toList = 2) := Lib.hid (by unfold rdE; rw [hf]; rfl)
    have V2 : Hid (rdV 10 s.data.toList = 0) := Lib.hid (by unfold rdV; rw [V1.out]; rfl)
    clear hf
    rw [V1.out, V2.out]
    go_enter Tryd.func8, Tryd.ntmps8
    go_wp2_with (go_at_call 25; with_reducible refine FM.out.mono ?_; rintro e1 w1 ⟨rfl, rfl⟩)
    go_ret2
    exact ⟨rfl, rfl⟩
  | true =>
    rw [hf] at FM
    have FM := Lib.hid FM
    have DG := Lib.hid (fun r (hr : r < s.size) => dv_small (fm_digit hf hr))
    have ST := Lib.hid (fun r (hr : r < s.size) => nv_step (B := 10) hr)
    have UP := Lib.hid (nv_up (B := 10) (by omega) s)
    have OVER : Hid (18446744073709551616 ≤ nv 10 0 s.data.toList → rdE 10 s.data.toList = 4 ∧ rdV 10 s.data.toList = 0) := Lib.hid fun h => by
      have e : rdE 10 s.data.toList = 4 := by unfold rdE; rw [hf, if_pos rfl, if_neg (by omega)]
      exact ⟨e, by unfold rdV; rw [e]; rfl⟩
    have FINE : Hid (nv 10 0 (s.data.toList.take s.size) < 18446744073709551616 → rdE 10 s.data.toList = 0 ∧ rdV 10 s.data.toList = nv 10 0 (s.data.toList.take s.size)) := Lib.hid fun h => by
      have e0 : s.data.toList.take s.size = s.data.toList := List.take_of_length_le (by simp)
      rw [e0] at h ⊢
      have e : rdE 10 s.data.toList = 0 := by unfold rdE; rw [hf, if_pos rfl, if_pos h]
      exact ⟨e, by unfold rdV; rw [e]; rfl⟩
    have MU := Lib.hid (fun x hx => mul10 x hx w)
    have Z0 : Hid (nv 10 0 (s.data.toList.take 0) = 0) := Lib.hid rfl
    obtain ⟨G, hG⟩ : ∃ G : Nat → Nat, G = fun r => nv 10 0 (s.data.toList.take r) := ⟨_, rfl⟩
    have ST : Hid (∀ r (hr : r < s.size), G (r + 1) = G r * 10 + dv s[r].toNat) := Lib.hid (by rw [hG]; exact ST.out)
    have UP : Hid (∀ r, G r ≤ nv 10 0 s.data.toList) := Lib.hid (by rw [hG]; exact UP.out)
    have FINE : Hid (G s.size < 18446744073709551616 → rdE 10 s.data.toList = 0 ∧ rdV 10 s.data.toList = G s.size) := Lib.hid (by rw [hG]; exact FINE.out)
    have Z0 : Hid (G 0 = 0) := Lib.hid (by rw [hG]; exact Z0.out)
    clear hG hf
    go_enter Tryd.func8, Tryd.ntmps8
    go_wp2_with (go_at_call 25; with_reducible refine FM.out.mono ?_; rintro e1 w1 ⟨rfl, rfl⟩)
    go_loop [4, 15] (fun nw iv => ∃ i : Nat, nw = .int .u64 (G i : Nat) ∧ iv = .int .i64 i ∧ i ≤ s.size ∧ Hid (G i < 18446744073709551616)) (fun _ iv => s.size - (intOf iv).toNat)
    case atStart => exact ⟨0, by rw [Z0.out]; rfl, rfl, Nat.zero_le _, Lib.hid (by rw [Z0.out]; decide)⟩
    case round =>
      obtain ⟨i, rfl, rfl, hi, HG⟩ := hrel
      by_cases hlt : i < s.size
      · have hltI : (i : Int) < (s.size : Int) := by omega
        obtain ⟨c1, c2, c3⟩ := DG.out i hlt
        have st := ST.out i hlt
        rw [c3] at st
        obtain ⟨c, hc⟩ : ∃ c, s[i].toNat = c := ⟨_, rfl⟩
        rw [hc] at c1 c2 st
        obtain ⟨d, hd⟩ : ∃ d, c - 48 = d := ⟨_, rfl⟩
        rw [hd] at st
        have hcd : (c : Int) - 48 = (d : Int) := by omega
        have hd9 : d ≤ 9 := by omega
        have c1I : (48 : Int) ≤ (c : Int) := by omega
        have c2I : (c : Int) ≤ 57 := by omega
        obtain ⟨g, hg⟩ : ∃ g, G i = g := ⟨_, rfl⟩
        rw [hg] at st HG ⊢
        have M1 := MU.out g HG.out
        obtain ⟨hh, hhh⟩ : ∃ hh, g * 10 / 18446744073709551616 = hh := ⟨_, rfl⟩
        obtain ⟨lo, hlo⟩ : ∃ lo, g * 10 % 18446744073709551616 = lo := ⟨_, rfl⟩
        rw [hhh, hlo] at M1
        have XA := fun w => x_add lo d w
        obtain ⟨su, hsu⟩ : ∃ su, (lo + d) % 18446744073709551616 = su := ⟨_, rfl⟩
        obtain ⟨ca, hca⟩ : ∃ ca, (lo + d) / 18446744073709551616 = ca := ⟨_, rfl⟩
        rw [hsu, hca] at XA
        have M1 := Lib.hid M1
        by_cases hov : 18446744073709551616 ≤ G (i + 1)
        · obtain ⟨v1, v2⟩ := OVER.out (Nat.le_trans hov (UP.out (i + 1)))
          have V1 := Lib.hid v1
          have V2 := Lib.hid v2
          rcases (by omega : hh ≠ 0 ∨ hh = 0 ∧ ca ≠ 0) with h1 | ⟨h1, h2⟩
          · have z1 : ((hh : Int) != 0) = true := by simp; omega
            clear st hov v1 v2 hd hg hhh hlo hsu hca c3 h1
            go_wp2_with (go_at_call 27; with_reducible refine M1.out.mono ?_; rintro e1 w1 ⟨rfl, rfl⟩)
            go_ret2
            exact ⟨by rw [V1.out, V2.out]; rfl, rfl⟩
          · have z1 : ((hh : Int) != 0) = false := by simp; omega
            have z2 : ((ca : Int) != 0) = true := by simp; omega
            clear st hov v1 v2 hd hg hhh hlo hsu hca c3 h1 h2
            go_wp2_with (go_at_call 27; with_reducible refine M1.out.mono ?_; rintro e1 w1 ⟨rfl, rfl⟩)
            go_ret2
            exact ⟨by rw [V1.out, V2.out]; rfl, rfl⟩
        · have h1 : hh = 0 := by omega
          have h2 : ca = 0 := by omega
          have HS : Hid (su = G (i + 1)) := Lib.hid (by omega)
          have HG2 : Hid (G (i + 1) < 18446744073709551616) := Lib.hid (by omega)
          have z1 : ((hh : Int) != 0) = false := by simp; omega
          have z2 : ((ca : Int) != 0) = false := by simp; omega
          clear st hov hd hg hhh hlo hsu hca c3 h1 h2
          go_wp2_with (go_at_call 27; with_reducible refine M1.out.mono ?_; rintro e1 w1 ⟨rfl, rfl⟩)
          exact ⟨⟨i + 1, by rw [← HS.out], by go_num, by omega, HG2⟩, by simp [intOf]; omega⟩
      · obtain rfl : i = s.size := by omega
        have hltI : ¬ (s.size : Int) < (s.size : Int) := by omega
        obtain ⟨v1, v2⟩ := FINE.out HG.out
        have V1 := Lib.hid v1
        have V2 := Lib.hid v2
        clear v1 v2
        go_wp2_with fail
        go_ret2
        exact ⟨by rw [V1.out, V2.out]; rfl, rfl⟩

end Go.Proofs.YtfgdfhcefgblaaaDoor
