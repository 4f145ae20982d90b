/- Layer 6: Of and More; the document's. -/
import Derived.Test.YtpdnbkibnpkfbacSeT
import Derived.Lib.AppendStr
namespace Go.Proofs.Ytpdnbkibnpkfbac
open Go.ChangeShapes Go.WideShapes Go.ChangeAt Go.RowKit

/-- texts in memory -/
def StrRow (w : World) (a : Option Addr) (ps : List ByteArray) : Prop := ∀ j, j < ps.length → ∃ q off, a = some ⟨q, off, none⟩ ∧ q < w.heap.size ∧ w.cell? ⟨q, off + j, none⟩ = some (.string (ps.getD j default))

def catB (ps : List ByteArray) : List UInt8 := (ps.map (fun p => p.data.toList)).flatten

theorem take_getD {α : Type} [Inhabited α] (ps : List α) (k : Nat) (h : k < ps.length) (d : α) : ps.take (k + 1) = ps.take k ++ [ps.getD k d] := by
  rw [List.take_succ_eq_append_getElem h]
  simp [List.getD_eq_getElem?_getD, h]

theorem catB_snoc (ps : List ByteArray) (k : Nat) (h : k < ps.length) : catB (ps.take (k + 1)) = catB (ps.take k) ++ (ps.getD k default).data.toList := by
  rw [take_getD ps k h default]
  simp [catB]

theorem of_nil (ps : List ByteArray) : 4294967295 - Crc.run 4294967295 (catB (ps.take 0)) = 0 := by
  rw [List.take_zero]
  show 4294967295 - Crc.run 4294967295 [] = 0
  rw [Crc.run_nil, Nat.sub_self]

theorem tab_row (w : World) : (w.alloc (.cells tabA 63)).rowIs w.heap.size 63 256 tabF := ⟨tabA, heap_alloc_new _ _, tabA_size, tabA_at⟩

theorem Below.cellq {B : Nat} {W w1 : World} (hb : Below B W w1) (q o : Nat) (v : Value) (hq : q < B) (h : W.cell? ⟨q, o, none⟩ = some v) : w1.cell? ⟨q, o, none⟩ = some v := (hb.cell (p := ⟨q, o, none⟩) hq).trans h

set_option maxHeartbeats 1000000 in
theorem s_of (ps : List ByteArray) (a : Option Addr) (cap : Nat) (hl : ps.length ≤ 9223372036854775807) (hps : ∀ j, (ps.getD j default).size ≤ maxLen) (w : World) (hrow : StrRow w a ps) : Calls Try.prog 12 #[.slice a ps.length cap] w fun e w' => e = .returned (.int .u32 ((4294967295 - Crc.run 4294967295 (catB ps) : Nat) : Int)) ∧ Below w.heap.size w w' := by
  have R := Lib.hid (s_rem w)
  have HR := Lib.hid hrow
  have HP := Lib.hid hps
  clear hrow hps
  have Z := z256_run
  go_enter Try.func12, Try.ntmps12
  go_wp2_with fail
  refine R.out.mono ?_
  rintro e w1 ⟨rfl, hb⟩
  have sz := hb.size
  have i1 : (Try.prog.info? 63).map (·.size) = some tabA.size := by rw [tabA_size]; kernel_rfl
  have I1 := Lib.hid i1
  have T0 : At (blk w1.heap.size (.cells tabA 63) * pur True) w1 (fun _ => False) ((w1.alloc (.cells z256 63)).setRow w1.heap.size tabA) := ((At.emp w1).alloc _).set_all tabA
  have T1 := Lib.hid (T0.impl (B := row w1.heap.size 63 256 tabF) (blk_row tabA_size tabA_at _))
  have BB := Lib.hid hb
  clear T0 i1 hb
  go_wp2_with (refine wpList_store_row rfl 63 _ _ rfl w1.heap.size tabA rfl rfl _ z256 (heap_alloc_new _ _) I1.out (by rw [z256_size, tabA_size]) tabA_one ?_)
  clear Z
  go_loopw [4, 10] (fun r i wr => ∃ k : Nat, k ≤ ps.length ∧ i = .int .i64 k ∧ r = .int .u32 ((4294967295 - Crc.run 4294967295 (catB (ps.take k)) : Nat) : Int) ∧ At (row w1.heap.size 63 256 tabF * pur True) w1 (fun _ => False) wr) (fun _ i _ => ps.length - (intOf i).toNat)
  case atStart => exact ⟨0, Nat.zero_le _, rfl, by rw [of_nil]; rfl, T1.out⟩
  case round =>
    obtain ⟨k, hk, rfl, rfl, hA⟩ := hrel
    have r0 := Crc.run_lt 4294967295 (catB (ps.take k)) (by decide)
    by_cases hlt : k < ps.length
    · obtain ⟨q, off, rfl, hq, hc⟩ := HR.out k hlt
      have bel := BB.out.trans (hA.below.mono sz)
      have cc := Below.cellq bel q _ _ hq hc
      have HS : Hid (Crc.run 4294967295 (catB (ps.take (k + 1))) = Crc.run (Crc.run 4294967295 (catB (ps.take k))) (ps.getD k default).data.toList) := Lib.hid (by rw [catB_snoc ps k hlt, Crc.run_append])
      have hp := HP.out k
      generalize ps.getD k default = p at *
      generalize Crc.run 4294967295 (catB (ps.take k)) = r at *
      have C := s_continued w1.heap.size (4294967295 - r) (by omega) p hp wr (.inr hA.rowIs)
      rw [show 4294967295 - (4294967295 - r) = r by omega] at C
      have CH := Lib.hid C
      have AH := Lib.hid hA
      have hltI : (k : Int) < (ps.length : Int) := by omega
      clear C hA bel hc hq hp
      go_wp2_with (go_at_call 36; refine CH.out.mono ?_; rintro e w2 ⟨rfl, n, rfl⟩)
      go_roundw
      case rel => exact ⟨k + 1, by omega, by go_num, by rw [HS.out], AH.out.drewN n⟩
      case measure => simp [intOf]; omega
    · obtain rfl : k = ps.length := by omega
      have e : ps.take ps.length = ps := List.take_length
      rw [e]
      have bel := Lib.hid (BB.out.trans (hA.below.mono sz))
      clear hA
      go_wp2
      go_ret
      exact ⟨rfl, bel.out⟩

end Go.Proofs.Ytpdnbkibnpkfbac
