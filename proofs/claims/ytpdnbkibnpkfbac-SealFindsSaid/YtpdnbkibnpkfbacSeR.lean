/- Layer 6: the document's Seal; Open, the program's and the document's. -/
import Derived.Test.YtpdnbkibnpkfbacSeQ
namespace Go.Proofs.Ytpdnbkibnpkfbac
open Go.ChangeShapes Go.WideShapes Go.ChangeAt Go.RowKit

theorem str_app (s : ByteArray) (l : List UInt8) : s ++ (⟨l.toArray⟩ : ByteArray) = ⟨(s.data.toList ++ l).toArray⟩ := by
  apply ByteArray.ext
  rw [ByteArray.data_append]
  apply Array.toList_inj.1
  simp

set_option maxHeartbeats 2000000 in
theorem r_seal (s : ByteArray) (hs : s.size ≤ 100000) (w : World) : Calls Try.prog 17 #[.string s] w fun e w' => e = .returned (.string ⟨(sealL s.data.toList).toArray⟩) ∧ Below w.heap.size w w' := by
  obtain ⟨i0, hi, hz0, hz1, hz2⟩ := info_parts infU8
  have HI := Lib.hid hi
  have HZ0 := Lib.hid hz0
  have HZ1 := Lib.hid hz1
  have HZ2 := Lib.hid hz2
  clear hi hz0 hz1 hz2
  have C := r_of s (by unfold maxLen; omega) w
  have hsum : 4294967295 - Crc.run 4294967295 s.data.toList < 4294967296 := by omega
  have HL : Hid (sealL s.data.toList = s.data.toList ++ le4 (4294967295 - Crc.run 4294967295 s.data.toList)) := Lib.hid rfl
  generalize 4294967295 - Crc.run 4294967295 s.data.toList = sum at *
  have CH := Lib.hid C
  have HSZ := Lib.hid hs
  clear C hs
  go_enter Try.func17, Try.ntmps17
  go_wp2_with (go_at_call 13; refine CH.out.mono ?_; rintro e w1 ⟨rfl, rfl⟩)
  go_loopw [3, 4, 5] (fun n v i wr => ∃ k m : Nat, k ≤ 4 ∧ i = .int .i64 k ∧ n = .int .u32 m ∧ m < 4294967296 ∧ Hid (m = sum / 256 ^ k) ∧ wr.ownsRow w.heap.size 5 1 v k (byV ((le4 sum).take k)) ∧ Below w.heap.size w wr) (fun _ _ i _ => 4 - (intOf i).toNat)
  case atStart => exact ⟨0, sum, by omega, rfl, rfl, hsum, Lib.hid (by simp), World.ownsRow_nil _ _ _ _, Below.refl _ _⟩
  case round =>
    obtain ⟨k, m, hk, rfl, rfl, hm, HM, hown, hbel⟩ := hrel
    have szr := hbel.size
    by_cases hlt : k < 4
    · have HT : Hid ((le4 sum).take (k + 1) = (le4 sum).take k ++ [m.toUInt8]) := Lib.hid (by rw [HM.out]; exact le4_take sum k hlt)
      have HM2 : Hid (m / 256 = sum / 256 ^ (k + 1)) := Lib.hid (by rw [HM.out, Nat.div_div_eq_div_mul, Nat.pow_succ])
      have HV : Hid (([Value.int .u8 ((m : Int) % 256)] : List Value) = byV [m.toUInt8]) := Lib.hid (by simp [byV])
      obtain ⟨a4, c4, rfl⟩ := own_f hown
      have HOWN := Lib.hid hown
      have HBEL := Lib.hid hbel
      clear hown hbel HM
      go_wp2_with (at_builtin; refine wpList_append_own _ rfl _ _ 67 rfl w.heap.size 5 i0 (.int .u8 0) 1 1 Try.underlying67 HI.out HZ0.out HZ1.out HZ2.out rfl (by decide) _ _ _ rfl (World.ownsRow.alloc HOWN.out _) ⟨wr.heap.size, 0, none⟩ 1 1 [.int .u8 ((m : Int) % 256)] rfl rfl ?c1 ?c2 ?c3 ?c4 ?c5 ?_)
      case c1 => exact one_nw8 wr _
      case c2 => simp [Value.oneCell']
      case c3 => unfold maxLen; omega
      case c4 => omega
      case c5 => simp; omega
      intro v5 w5 own5 grow5 _
      have REL : Hid (w5.ownsRow w.heap.size 5 1 v5 (k + 1) (byV ((le4 sum).take (k + 1)))) := by
        rw [HT.out, byV_append, ← HV.out]
        exact Lib.hid own5
      have BEL : Hid (Below w.heap.size w w5) := by
        have h := HOWN.out.lt
        exact Lib.hid ((HBEL.out.alloc szr _).grown grow5 (by simp; omega) (fun k hk => (h k hk).1))
      clear own5 grow5 HOWN HBEL HT HV
      go_wp2
      go_roundw
      case rel => exact ⟨k + 1, m / 256, by omega, by go_num, by go_num, by omega, HM2, REL.out, BEL.out⟩
      case measure => simp [intOf]; omega
    · obtain rfl : k = 4 := by omega
      obtain ⟨a4, c4, rfl⟩ := own_f hown
      have hcv := own_str (by omega) (by simp [le4]) hown 67 9 (P := Try.prog) Try.underlying67 Try.underlying5 Try.underlying9
      rw [show (le4 sum).take 4 = le4 sum by simp [le4]] at hcv
      have SA := str_app s (le4 sum)
      rw [← HL.out] at SA
      have HSA := Lib.hid SA
      have HBEL := Lib.hid hbel
      have hl4 : (le4 sum).length ≤ 4 := by simp [le4]
      have hs := HSZ.out
      generalize hle : le4 sum = l4 at hcv HSA hl4
      clear hown hbel SA HM hle
      go_wp2
      go_ret
      refine ⟨?_, HBEL.out⟩
      rw [← HSA.out]
      rfl

/-- what is opened: the text, or why there is none -/
def opB (l : List UInt8) : Bool := decide (sealL (l.take (l.length - 4)) = l)

theorem str_eq (s : ByteArray) (l : List UInt8) : (s.data.toList == l) = decide (s.data.toList = l) := by
  rw [Bool.eq_iff_iff]; simp

end Go.Proofs.Ytpdnbkibnpkfbac
