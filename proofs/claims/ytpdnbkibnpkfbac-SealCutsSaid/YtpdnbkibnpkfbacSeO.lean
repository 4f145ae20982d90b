/- Layer 6: Open, the program's and the document's; the example; the law SealSums. -/
import Derived.Test.YtpdnbkibnpkfbacSeR
namespace Go.Proofs.Ytpdnbkibnpkfbac
open Go.ChangeShapes Go.WideShapes Go.ChangeAt Go.RowKit

theorem cut_str (s : ByteArray) (n : Nat) : (s.extract 0 n) = ⟨(s.data.toList.take n).toArray⟩ := by
  apply ByteArray.ext
  rw [ByteArray.data_extract]
  apply Array.toList_inj.1
  simp

theorem cut_size (s : ByteArray) (n : Nat) : (⟨(s.data.toList.take n).toArray⟩ : ByteArray).size = min n s.size := by
  rw [← cut_str, ByteArray.size_extract]; omega

/-- a text of four bytes and more, opened -/
def opV (l : List UInt8) (e : Int) (e0 : Int) (k : IntKind) : Value := if opB l then .tuple #[.string ⟨(l.take (l.length - 4)).toArray⟩, .int k e0] else .tuple #[.string ⟨#[]⟩, .int k e]

theorem s_open_short (s : ByteArray) (hs : s.size < 4) (w : World) : Calls Try.prog 10 #[.string s] w fun e w' => e = .returned (.tuple #[.string ⟨#[]⟩, .int .i64 1]) ∧ w = w' := by
  go_enter Try.func10, Try.ntmps10
  go_wp2
  go_ret2
  exact ⟨rfl, rfl⟩

theorem r_open_short (s : ByteArray) (hs : s.size < 4) (w : World) : Calls Try.prog 11 #[.string s] w fun e w' => e = .returned (.tuple #[.string ⟨#[]⟩, .int .i64 1]) ∧ w = w' := by
  go_enter Try.func11, Try.ntmps11
  go_wp2
  go_ret2
  exact ⟨rfl, rfl⟩

theorem take_str (s : ByteArray) (n : Nat) : (s.extract 0 n).data.toList = s.data.toList.take n := by
  rw [cut_str]

def opW (s : ByteArray) (e e0 : Int) (k : IntKind) : Value := if opB s.data.toList then .tuple #[.string (s.extract 0 (s.size - 4)), .int k e0] else .tuple #[.string ⟨#[]⟩, .int k e]

theorem seal_cmp (s : ByteArray) : ((⟨(sealL (s.extract 0 (s.size - 4)).data.toList).toArray⟩ : ByteArray).toList == s.toList) = opB s.data.toList := by
  unfold opB
  rw [ByteArray.toList_eq, ByteArray.toList_eq, take_str, show s.data.toList.length = s.size by simp]
  rw [Bool.eq_iff_iff]
  simp

set_option maxHeartbeats 1000000 in
theorem s_open (s : ByteArray) (h4 : 4 ≤ s.size) (hs : s.size ≤ 100000) (w : World) : Calls Try.prog 10 #[.string s] w fun e w' => e = .returned (opW s 10 0 .i64) ∧ Below w.heap.size w w' := by
  have C := s_seal (s.extract 0 (s.size - 4)) (by rw [ByteArray.size_extract]; omega) w
  have CM := seal_cmp s
  unfold opW
  have CH := Lib.hid C
  generalize (⟨(sealL (s.extract 0 (s.size - 4)).data.toList).toArray⟩ : ByteArray) = t at *
  cases hB : opB s.data.toList
  all_goals
    rw [hB] at CM
    clear hB
    go_enter Try.func10, Try.ntmps10
    go_wp2_with (go_at_call 16; refine CH.out.mono ?_; rintro e1 w1 ⟨rfl, hb⟩)
    go_ret2
    exact ⟨rfl, hb⟩

set_option maxHeartbeats 1000000 in
theorem r_open (s : ByteArray) (h4 : 4 ≤ s.size) (hs : s.size ≤ 100000) (w : World) : Calls Try.prog 11 #[.string s] w fun e w' => e = .returned (opW s 10 0 .i64) ∧ Below w.heap.size w w' := by
  have C := r_seal (s.extract 0 (s.size - 4)) (by rw [ByteArray.size_extract]; omega) w
  have CM := seal_cmp s
  unfold opW
  have CH := Lib.hid C
  generalize (⟨(sealL (s.extract 0 (s.size - 4)).data.toList).toArray⟩ : ByteArray) = t at *
  cases hB : opB s.data.toList
  all_goals
    rw [hB] at CM
    clear hB
    go_enter Try.func11, Try.ntmps11
    go_wp2_with (go_at_call 17; refine CH.out.mono ?_; rintro e1 w1 ⟨rfl, hb⟩)
    go_ret2
    exact ⟨rfl, hb⟩

/-- the example -/
theorem two_strs (w : World) (p q : ByteArray) : StrRow (w.alloc (.cells #[.string p, .string q] 9)) (some ⟨w.heap.size, 0, none⟩) [p, q] := by
  intro j hj
  refine ⟨w.heap.size, 0, rfl, by simp, ?_⟩
  match j, hj with
  | 0, _ => simp
  | 1, _ => simp

theorem crc_example : 4294967295 - Crc.run 4294967295 [49, 50, 51, 52, 53, 54, 55, 56, 57] = 3808858755 := by decide +kernel

set_option maxHeartbeats 1000000 in
theorem se_lives (w : World) : Calls Try.prog 9 #[] w fun e w' => e = .returned (.bool true) ∧ Below w.heap.size w w' := by
  have C1 : Calls Try.prog 12 #[.slice (some ⟨w.heap.size, 0, none⟩) 2 2] (w.alloc (.cells #[.string ⟨#[49, 50, 51, 52, 53]⟩, .string ⟨#[54, 55, 56, 57]⟩] 9)) fun e w' => e = .returned (.int .u32 3808858755) ∧ Below (w.heap.size + 1) (w.alloc (.cells #[.string ⟨#[49, 50, 51, 52, 53]⟩, .string ⟨#[54, 55, 56, 57]⟩] 9)) w' := by
    have := s_of [⟨#[49, 50, 51, 52, 53]⟩, ⟨#[54, 55, 56, 57]⟩] (some ⟨w.heap.size, 0, none⟩) 2 (by simp) (fun j => by match j with | 0 => exact of_decide_eq_true rfl | 1 => exact of_decide_eq_true rfl | (n + 2) => exact Nat.zero_le _) _ (two_strs w _ _)
    rw [show catB [⟨#[49, 50, 51, 52, 53]⟩, ⟨#[54, 55, 56, 57]⟩] = [49, 50, 51, 52, 53, 54, 55, 56, 57] by simp [catB], crc_example] at this
    simpa using this
  have C2 : ∀ w1 : World, Calls Try.prog 12 #[.slice none 0 0] w1 fun e w' => e = .returned (.int .u32 0) ∧ Below w1.heap.size w1 w' := by
    intro w1
    have := s_of [] none 0 (by simp) (fun j => Nat.zero_le _) w1 (fun j hj => absurd hj (by simp))
    rw [show 4294967295 - Crc.run 4294967295 (catB []) = 0 by exact of_nil []] at this
    exact this
  have C1H := Lib.hid C1
  have C2H := Lib.hid C2
  clear C1 C2
  go_enter Try.func9, Try.ntmps9
  go_wp2_with fail
  refine C1H.out.mono ?_
  rintro e w1 ⟨rfl, hb1⟩
  go_wp2_with (go_at_call 12; refine (C2H.out _).mono ?_; rintro e1 w2 ⟨rfl, hb2⟩)
  go_ret
  have h1 : Below w.heap.size w w1 := ((Below.refl _ w).alloc (Nat.le_refl _) _).trans (hb1.mono (by omega))
  exact ⟨rfl, h1.trans (hb2.mono h1.size)⟩

end Go.Proofs.Ytpdnbkibnpkfbac
