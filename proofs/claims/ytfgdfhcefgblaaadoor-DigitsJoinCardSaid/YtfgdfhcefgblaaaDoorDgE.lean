/- Digits (layer 4): the document's Read, ReadHex; CutPrefix; ReadInt. -/
import Derived.Test.YtfgdfhcefgblaaaDoorDgD
namespace Go.Proofs.YtfgdfhcefgblaaaDoor
open Go.ChangeShapes Go.WideShapes Go.ChangeAt Go.RowKit

theorem r4_Read (s : ByteArray) (hs : s.size ≤ 1000000) (w : World) :
    Calls Tryd.prog 9 #[.string s] w fun e w' => e = .returned (.tuple #[.int .u64 (rdV 10 s.data.toList), .int .i64 (rdE 10 s.data.toList)]) ∧ w = w' := by
  have K := Lib.hid (r4_read10 s hs w)
  go_enter Tryd.func9, Tryd.ntmps9
  go_wp2_with (go_at_call 29; with_reducible refine K.out.mono ?_; rintro e1 w1 ⟨rfl, rfl⟩)
  go_ret2
  exact ⟨rfl, rfl⟩

theorem r4_ReadHex (s : ByteArray) (hs : s.size ≤ 1000000) (w : World) :
    Calls Tryd.prog 13 #[.string s] w fun e w' => e = .returned (.tuple #[.int .u64 (rdV 16 s.data.toList), .int .i64 (rdE 16 s.data.toList)]) ∧ w = w' := by
  have K := Lib.hid (r4_read16 s hs w)
  go_enter Tryd.func13, Tryd.ntmps13
  go_wp2_with (go_at_call 29; with_reducible refine K.out.mono ?_; rintro e1 w1 ⟨rfl, rfl⟩)
  go_ret2
  exact ⟨rfl, rfl⟩

def ngB (l : List UInt8) : Bool := decide ((l.headD 0).toNat = 45)
def bdy (l : List UInt8) : List UInt8 := if ngB l then l.drop 1 else l

theorem ext1 (s : ByteArray) : s.extract 1 s.size = ⟨(s.data.toList.drop 1).toArray⟩ := by
  apply ByteArray.ext
  rw [ByteArray.data_extract]
  apply Array.ext'
  rw [Array.toList_extract]
  show (s.data.toList.drop 1).take (s.size - 1) = _
  rw [List.take_of_length_le (by rw [List.length_drop]; exact Nat.le_refl _)]

theorem ext01 (s : ByteArray) : (s.extract 0 1).toList = s.data.toList.take 1 := by
  rw [ByteArray.toList_eq, ByteArray.data_extract, Array.toList_extract]; rfl

theorem head_of {s : ByteArray} (h0 : 0 < s.size) : s.data.toList = s[0] :: s.data.toList.drop 1 := by
  conv => lhs; rw [← List.drop_zero (l := s.data.toList)]
  rw [dg_drop h0]

theorem pre_is (s : ByteArray) (h0 : 0 < s.size) : ((s.extract 0 1).toList == [45]) = ngB s.data.toList := by
  rw [ext01, head_of h0, Bool.eq_iff_iff, beq_iff_eq]
  unfold ngB
  rw [decide_eq_true_iff]
  show [s[0]] = [45] ↔ (s[0]).toNat = 45
  constructor
  · intro h
    injection h with h1
    rw [h1]; rfl
  · intro h
    have : s[0] = 45 := UInt8.toNat_inj.1 h
    rw [this]

theorem cut_has (s : ByteArray) (hs : s.size ≤ 1000000) (w : World) :
    Calls Tryd.prog 46 #[.string s, .string ⟨#[45]⟩] w fun e w' => e = .returned (.bool (ngB s.data.toList)) ∧ w = w' := by
  by_cases h0 : s.size = 0
  · have e : s.data.toList = [] := List.eq_nil_of_length_eq_zero h0
    rw [show ngB s.data.toList = false by rw [e]; rfl]
    have h1 : ¬ (1 : Int) ≤ (s.size : Int) := by omega
    clear e h0
    go_enter Tryd.func46, Tryd.ntmps46
    go_wp2
    go_ret
    exact ⟨rfl, rfl⟩
  · have h1 : (1 : Int) ≤ (s.size : Int) := by omega
    have PI := Lib.hid (pre_is s (by omega))
    clear h0
    go_enter Tryd.func46, Tryd.ntmps46
    go_wp2
    go_ret
    exact ⟨by rw [← PI.out]; rfl, rfl⟩

theorem ng_pos {s : ByteArray} (h : ngB s.data.toList = true) : 0 < s.size := by
  rcases Nat.eq_zero_or_pos s.size with e | e
  · have : s.data.toList = [] := List.eq_nil_of_length_eq_zero e
    rw [this] at h; cases h
  · exact e

/-- the text behind a sign -/
def bdS (s : ByteArray) : ByteArray := if ngB s.data.toList then s.extract 1 s.size else s
theorem bdS_list (s : ByteArray) : (bdS s).data.toList = bdy s.data.toList := by
  unfold bdS bdy
  cases h : ngB s.data.toList with
  | false => rfl
  | true => rw [if_pos rfl, if_pos rfl, ext1]
theorem bdS_size (s : ByteArray) : (bdS s).size ≤ s.size := by
  have h := congrArg List.length (bdS_list s)
  have h2 : (bdy s.data.toList).length ≤ s.data.toList.length := by
    unfold bdy
    cases ngB s.data.toList with
    | false => exact Nat.le_refl _
    | true => rw [if_pos rfl, List.length_drop]; omega
  have h3 : s.data.toList.length = s.size := rfl
  have h4 : (bdS s).data.toList.length = (bdS s).size := rfl
  omega

theorem cut_lite (s : ByteArray) (hs : s.size ≤ 1000000) (w : World) :
    Calls Tryd.prog 41 #[.string s, .string ⟨#[45]⟩] w fun e w' => e = .returned (.tuple #[.string (bdS s), .bool (ngB s.data.toList)]) ∧ w = w' := by
  have H := cut_has s hs w
  unfold bdS
  cases h : ngB s.data.toList with
  | false =>
    rw [h] at H
    have H := Lib.hid H
    rw [if_neg (by simp)]
    clear h
    go_enter Tryd.func41, Tryd.ntmps41
    go_wp2_with (go_at_call 46; with_reducible refine H.out.mono ?_; rintro e1 w1 ⟨rfl, rfl⟩)
    go_ret2
    exact ⟨rfl, rfl⟩
  | true =>
    have h1 : (1 : Int) ≤ (s.size : Int) := by have := ng_pos h; omega
    rw [h] at H
    have H := Lib.hid H
    rw [if_pos rfl]
    clear h
    go_enter Tryd.func41, Tryd.ntmps41
    go_wp2_with (go_at_call 46; with_reducible refine H.out.mono ?_; rintro e1 w1 ⟨rfl, rfl⟩)
    go_ret2
    exact ⟨rfl, rfl⟩

theorem cut_pub (s : ByteArray) (hs : s.size ≤ 1000000) (w : World) :
    Calls Tryd.prog 30 #[.string s, .string ⟨#[45]⟩] w fun e w' => e = .returned (.tuple #[.string (bdS s), .bool (ngB s.data.toList)]) ∧ w = w' := by
  have H := Lib.hid (cut_lite s hs w)
  go_enter Tryd.func30, Tryd.ntmps30
  go_wp2_with (go_at_call 41; with_reducible refine H.out.mono ?_; rintro e1 w1 ⟨rfl, rfl⟩)
  go_ret2
  exact ⟨rfl, rfl⟩

/-- the int that a text is -/
def riE (l : List UInt8) : Nat := if rdE 10 (bdy l) = 2 ∨ (ngB l = true ∧ rdE 10 (bdy l) = 0 ∧ rdV 10 (bdy l) = 0) then 2 else if rdE 10 (bdy l) ≠ 0 ∨ (if ngB l then 9223372036854775808 else 9223372036854775807) < rdV 10 (bdy l) then 4 else 0
def riV (l : List UInt8) : Int := if riE l = 0 then (if ngB l then -(rdV 10 (bdy l) : Int) else (rdV 10 (bdy l) : Int)) else 0

theorem rd_zero {l : List UInt8} (h : rdE 10 l = 0) (hv : rdV 10 l = 0) : l = [48] := by
  have hf : fm 10 l = true := by
    cases hf : fm 10 l with
    | true => rfl
    | false => unfold rdE at h; rw [hf] at h; cases h
  unfold rdV at hv
  rw [if_pos h] at hv
  match l, hf, hv with
  | [], hf, _ => cases hf
  | [c], hf, hv =>
    have hd : dv c.toNat = 0 := by simpa [nv] using hv
    have := dv_small (c := c.toNat) (by omega)
    have h48 : c.toNat = 48 := by omega
    have : c = 48 := UInt8.toNat_inj.1 h48
    rw [this]
  | c :: d :: r, hf, hv =>
    exfalso
    unfold fm at hf
    rw [Bool.and_eq_true, Bool.and_eq_true] at hf
    have h2 := hf.1.2
    have h3 : ¬ c.toNat = 48 := fun e => by
      simp [e] at h2
    have hc := List.all_eq_true.1 hf.2 c (by simp)
    unfold isD at hc
    rw [decide_eq_true_iff] at hc
    have := dv_small hc
    have hlow := nv_low 10 (d :: r) (0 * 10 + dv c.toNat)
    have h5 : 0 < 10 ^ (d :: r).length := Nat.pow_pos (by omega)
    have h6 : 1 * 10 ^ (d :: r).length ≤ (0 * 10 + dv c.toNat) * 10 ^ (d :: r).length := Nat.mul_le_mul_right _ (by omega)
    have h7 : nv 10 0 (c :: d :: r) = nv 10 (0 * 10 + dv c.toNat) (d :: r) := rfl
    omega

/-- the text "-0" -/
theorem neg_zero (s : ByteArray) : (s.toList == [45, 48]) = decide (ngB s.data.toList = true ∧ rdE 10 (bdy s.data.toList) = 0 ∧ rdV 10 (bdy s.data.toList) = 0) := by
  rw [Bool.eq_iff_iff, beq_iff_eq, decide_eq_true_iff, ByteArray.toList_eq]
  constructor
  · intro h
    rw [h]
    exact ⟨by decide, by decide, by decide⟩
  · rintro ⟨h1, h2, h3⟩
    have hb := rd_zero h2 h3
    have hp := ng_pos h1
    have e := head_of hp
    unfold bdy at hb
    rw [if_pos h1] at hb
    unfold ngB at h1
    rw [decide_eq_true_iff, e] at h1
    have h45 : s[0] = 45 := UInt8.toNat_inj.1 h1
    rw [e, hb, h45]

theorem rdV_lt (l : List UInt8) : rdV 10 l < 18446744073709551616 := by
  unfold rdV
  by_cases h : rdE 10 l = 0
  · rw [if_pos h]
    unfold rdE at h
    by_cases hf : fm 10 l = true
    · rw [if_pos hf] at h
      by_cases h2 : nv 10 0 l < 18446744073709551616
      · exact h2
      · rw [if_neg h2] at h; cases h
    · rw [if_neg hf] at h; cases h
  · rw [if_neg h]; decide

theorem rdE_or (l : List UInt8) : rdE 10 l = 0 ∨ (rdE 10 l = 2 ∧ rdV 10 l = 0) ∨ (rdE 10 l = 4 ∧ rdV 10 l = 0) := by
  have hv : rdE 10 l ≠ 0 → rdV 10 l = 0 := fun h => by unfold rdV; rw [if_neg h]
  by_cases hf : fm 10 l = true
  · by_cases h2 : nv 10 0 l < 18446744073709551616
    · left; unfold rdE; rw [if_pos hf, if_pos h2]
    · have e : rdE 10 l = 4 := by unfold rdE; rw [if_pos hf, if_neg h2]
      exact .inr (.inr ⟨e, hv (by omega)⟩)
  · have e : rdE 10 l = 2 := by unfold rdE; rw [if_neg hf]
    exact .inr (.inl ⟨e, hv (by omega)⟩)

end Go.Proofs.YtfgdfhcefgblaaaDoor
