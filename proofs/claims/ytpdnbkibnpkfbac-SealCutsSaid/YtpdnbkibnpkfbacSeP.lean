/- Layer 6: More, the document's Of and More, the sealed text. -/
import Derived.Test.YtpdnbkibnpkfbacSeS
namespace Go.Proofs.Ytpdnbkibnpkfbac
open Go.ChangeShapes Go.WideShapes Go.ChangeAt Go.RowKit

theorem below_drewN' {B : Nat} {a w : World} (h : Below B a w) (n : Nat) : Below B a (w.drewN n) := ⟨h.os, h.tape, h.output, h.size, h.block⟩

theorem run_subM {P : Program} (t : TypeId) (r : Nat) (h : r < 4294967296) (w : World) : (binOp .sub t (.int .u32 4294967295) (.int .u32 r)).run P w = .ok (.int .u32 ((4294967295 - r : Nat) : Int)) w := by
  have e : ((4294967295 - r : Nat) : Int) = IntKind.u32.wrap (4294967295 - (r : Int)) := by
    rw [show IntKind.u32.wrap (4294967295 - (r : Int)) = (4294967295 - (r : Int)) % 4294967296 by simp [IntKind.wrap, IntKind.bits, IntKind.signed]]
    omega
  rw [e]
  first | rfl | simp [binOp, go_sem]

theorem r_comesM (s : ByteArray) (hs : s.size ≤ maxLen) (w : World) : Calls Try.prog 37 #[.int .u32 4294967295, .string s] w fun e w' => e = .returned (.int .u32 (Crc.run 4294967295 s.data.toList)) ∧ w = w' := r_comes 4294967295 (by decide) s hs w

theorem r_of (s : ByteArray) (hs : s.size ≤ maxLen) (w : World) : Calls Try.prog 13 #[.string s] w fun e w' => e = .returned (.int .u32 ((4294967295 - Crc.run 4294967295 s.data.toList : Nat) : Int)) ∧ w = w' := by
  have C := Lib.hid (r_comesM s hs w)
  have E := Lib.hid (run_subM (P := Try.prog) 22 _ (Crc.run_lt 4294967295 s.data.toList (by decide)) w)
  clear hs
  go_enter Try.func13, Try.ntmps13
  go_wp2_with (first | (go_at_call 37; refine C.out.mono ?_; rintro e1 w1 ⟨rfl, rfl⟩) | (refine wpList_bin _ rfl .sub _ _ _ _ rfl _ _ rfl rfl rfl _ E.out ?_))
  go_ret
  exact ⟨rfl, rfl⟩

theorem r_more (sum : Nat) (h : sum < 4294967296) (s : ByteArray) (hs : s.size ≤ maxLen) (w : World) : Calls Try.prog 15 #[.int .u32 sum, .string s] w fun e w' => e = .returned (.int .u32 ((4294967295 - Crc.run (4294967295 - sum) s.data.toList : Nat) : Int)) ∧ w = w' := by
  have l : 4294967295 - sum < 4294967296 := by omega
  have C := Lib.hid (r_comes (4294967295 - sum) l s hs w)
  have E0 := Lib.hid (run_subM (P := Try.prog) 22 sum h w)
  have E := Lib.hid (run_subM (P := Try.prog) 22 _ (Crc.run_lt (4294967295 - sum) s.data.toList l) w)
  clear hs h l
  generalize 4294967295 - sum = q at *
  go_enter Try.func15, Try.ntmps15
  go_wp2_with (first | (go_at_call 37; refine C.out.mono ?_; rintro e1 w1 ⟨rfl, rfl⟩) | (refine wpList_bin _ rfl .sub _ _ (.tmp 5) _ rfl _ _ rfl rfl rfl _ E0.out ?_) | (refine wpList_bin _ rfl .sub _ _ (.tmp 8) _ rfl _ _ rfl rfl rfl _ E.out ?_))
  go_ret
  exact ⟨rfl, rfl⟩

set_option maxHeartbeats 1000000 in
theorem s_more (sum : Nat) (hr : sum < 4294967296) (s : ByteArray) (hs : s.size ≤ maxLen) (w : World) : Calls Try.prog 14 #[.int .u32 sum, .string s] w fun e w' => e = .returned (.int .u32 ((4294967295 - Crc.run (4294967295 - sum) s.data.toList : Nat) : Int)) ∧ Below w.heap.size w w' := by
  have R := Lib.hid (s_rem w)
  have Z := z256_run
  have HS := Lib.hid hs
  have HR := Lib.hid hr
  clear hs hr
  go_enter Try.func14, Try.ntmps14
  go_wp2_with fail
  refine R.out.mono ?_
  rintro e w1 ⟨rfl, hb⟩
  have sz := hb.size
  have i1 : (Try.prog.info? 63).map (·.size) = some tabA.size := by rw [tabA_size]; kernel_rfl
  have I1 := Lib.hid i1
  have T0 : At (blk w1.heap.size (.cells tabA 63) * pur True) w1 (fun _ => False) ((w1.alloc (.cells z256 63)).setRow w1.heap.size tabA) := ((At.emp w1).alloc _).set_all tabA
  have T1 := T0.impl (B := row w1.heap.size 63 256 tabF) (blk_row tabA_size tabA_at _)
  have C := Lib.hid (s_continued w1.heap.size sum HR.out s HS.out _ (.inr T1.rowIs))
  have BB := Lib.hid (hb.trans (T1.below.mono sz))
  clear T0 T1 i1 hb
  go_wp2_with (first | (refine wpList_store_row rfl 63 _ _ rfl w1.heap.size tabA rfl rfl _ z256 (heap_alloc_new _ _) I1.out (by rw [z256_size, tabA_size]) tabA_one ?_) | (go_at_call 36; refine C.out.mono ?_; rintro e w2 ⟨rfl, n, rfl⟩))
  go_ret
  exact ⟨rfl, below_drewN' BB.out n⟩

/-- four bytes of a number, the least first -/
def le4 (n : Nat) : List UInt8 := [n.toUInt8, (n / 256).toUInt8, (n / 65536).toUInt8, (n / 16777216).toUInt8]

def sealL (l : List UInt8) : List UInt8 := l ++ le4 (4294967295 - Crc.run 4294967295 l)

theorem infU8 : (Try.prog.info? 5).map (fun i => (i.zero, i.size, i.bytes)) = some (some (.int .u8 0), 1, 1) := by kernel_rfl

theorem one_row (w : World) (s : ByteArray) : StrRow (w.alloc (.cells #[.string s] 9)) (some ⟨w.heap.size, 0, none⟩) [s] := by
  intro j hj
  refine ⟨w.heap.size, 0, rfl, by simp, ?_⟩
  match j, hj with
  | 0, _ => simp

theorem bytes_of_row {w : World} {B n cap g : Nat} {e : TypeId} {l : List UInt8} (h : w.ownsRow B e 1 (.slice (some ⟨g, 0, none⟩) n cap) n (l.map fun b => Value.int .u8 b.toNat)) : ∀ j (hj : j < l.length), w.cell? ((⟨g, 0, none⟩ : Addr).add j) = some (.int .u8 (l[j].toNat : Int)) := by
  intro j hj
  exact h.cells (g := g) rfl j _ (by simp [hj])

end Go.Proofs.Ytpdnbkibnpkfbac
