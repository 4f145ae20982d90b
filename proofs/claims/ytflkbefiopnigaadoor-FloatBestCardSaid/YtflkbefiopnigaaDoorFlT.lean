/- strconv.FormatUint at base 10, and the text of the example's floats. -/
import Derived.Test.YtflkbefiopnigaaDoorFlR
import Derived.Test.YtflkbefiopnigaaDoorShelf
import Derived.Lib.ItoaMem
namespace Go.Proofs.YtflkbefiopnigaaDoor
open Go.ChangeShapes Go.WideShapes Go.ChangeAt Go.RowKit Go.Sort Go.Lib Go.Shelf

theorem holds_zero0 (w : World) (T : TypeId) (nd : Nat) (hs : nd ≤ 24) : Holds (fun (b : UInt8) => Value.int .u8 (b.toNat : Int)) (w.alloc (.cells Lib.zeros24 T)) w.heap.size 0 (Array.replicate nd (0 : UInt8)) := fun j hj => by
  have hj' : j < nd := by simpa using hj
  refine ⟨?_, World.frozen?_alloc_new _ _ _ _⟩
  rw [World.cell?_alloc_new, Lib.zeros24_at _ (by omega), getElem!_pos _ j hj]
  simp

theorem below_grow {w : World} (os : Array Obj) (k : Nat) : Below w.heap.size w (grow (w.drewN k) os) := by
  refine ⟨rfl, rfl, rfl, ?_, fun i hi => ?_⟩
  · show w.heap.size ≤ (w.heap ++ os).size
    simp
  · show (w.heap ++ os)[i]? = _
    rw [Array.getElem?_append_left hi]

def PowTab (w : World) : Prop := Lib.TabIs Tryd.prog w "internal/strconv.uint64pow10" .u64 Lib.pow10Tab

set_option maxHeartbeats 3200000 in
set_option maxRecDepth 100000 in
theorem fmt_big (u : Nat) (h1 : 100 ≤ u) (hu64 : u < 18446744073709551616) (w : World) (htab : PowTab w) : Calls Tryd.prog 47 #[.int .u64 u, .int .i64 10] w fun e w' => e = .returned (.string ⟨(Lib.decDigits u).toArray⟩) ∧ Below w.heap.size w w' := by
  have hu1 : 1 ≤ u := by omega
  have hnd20 : Lib.nDigits u ≤ 20 := by have := Lib.numDigits_eq u hu1 hu64; split at this <;> omega
  have hal : (Tryd.prog).arrayLen 66 = 24 := by kernel_rfl
  have hsl : ∀ W, (Instr.sliceAt 66 (.pointer (some ⟨w.heap.size, 0, none⟩)) none (some (.int .i64 (Lib.nDigits u : Int))) none).run Tryd.prog W = .ok (.slice (some ⟨w.heap.size, 0, none⟩) (Lib.nDigits u) 24) W := fun W => by
    rw [run_sliceAt_array_h W 66 ⟨w.heap.size, 0, none⟩ (by kernel_rfl) .i64 (Lib.nDigits u : Int) (by omega) (by rw [hal]; omega)]
    go_simp
  have hH0 := holds_zero0 w 66 (Lib.nDigits u) (by omega)
  have hfmt := Tryd.internal_strconv_formatBase10 w.heap.size 0 24 u (Array.replicate (Lib.nDigits u) 0) (w.alloc (.cells Lib.zeros24 66)) hH0 (by rw [Array.size_replicate]; exact Lib.lt_pow_nDigits u) hu64 (by rw [Array.size_replicate]; omega)
  rw [Array.size_replicate] at hfmt
  have HH0 := Lib.hid hH0
  have HFM := Lib.hid hfmt
  have ND := Lib.hid (fun w' ht => Tryd.internal_strconv_numDigits u hu1 hu64 w' ht)
  have HT := Lib.hid htab
  have hlt : decide (u < 100) = false := decide_eq_false (by omega)
  clear hH0 hal hfmt htab
  go_enter Tryd.func47, Tryd.ntmps47
  go_wp2_with (first
    | (go_at_call 57; refine (ND.out _ (Lib.tabIs_alloc HT.out _)).mono ?_; rintro e w' ⟨rfl, rfl⟩))
  refine (HFM.out).mono ?_
  rintro e w' ⟨rfl, k, v', dk, rfl, hF⟩
  have hcv : (convert 68 9 (.slice (some ⟨w.heap.size, 0, none⟩) (Lib.nDigits u) 24)).run Tryd.prog ((putRow (fun (b : UInt8) => Value.int .u8 (b.toNat : Int)) (w.alloc (.cells Lib.zeros24 66)) w.heap.size 0 dk).drewN k) = .ok (.string ⟨(Lib.decDigits u).toArray⟩) ((putRow (fun (b : UInt8) => Value.int .u8 (b.toNat : Int)) (w.alloc (.cells Lib.zeros24 66)) w.heap.size 0 dk).drewN k) := by
    have h := run_convert_bytes_back (P := Tryd.prog) ((putRow (fun (b : UInt8) => Value.int .u8 (b.toNat : Int)) (w.alloc (.cells Lib.zeros24 66)) w.heap.size 0 dk).drewN k) 68 9 5 ⟨w.heap.size, 0, none⟩ 24 (Lib.decDigits u) Tryd.underlying68 Tryd.underlying5 Tryd.underlying9 (fun j hj => by
      rw [Lib.row_is_numeral hF j hj, Lib.add_plain, World.cell?_drewN]
      exact cell?_putRow (fun (b : UInt8) => Value.int .u8 (b.toNat : Int)) _ w.heap.size 0 _ dk HH0.out (by rw [hF.size, Array.size_replicate]) j (by rw [hF.size]; rw [Lib.decDigits_length] at hj; exact hj))
    rw [Lib.decDigits_length] at h
    exact h
  go_wp2
  go_ret
  refine ⟨rfl, ?_⟩
  have e := alloc_eq_grow (w := w) (o := .cells Lib.zeros24 66)
  rw [e]
  obtain ⟨os', _, e2⟩ := putRow_grow_new (fun (b : UInt8) => Value.int .u8 (b.toNat : Int)) w #[.cells Lib.zeros24 66] w.heap.size 0 dk (Nat.le_refl _)
  rw [e2]
  exact below_grow os' k

theorem fmt_pub (u : Nat) (h1 : 100 ≤ u) (hu64 : u < 18446744073709551616) (w : World) (htab : PowTab w) : Calls Tryd.prog 40 #[.int .u64 u, .int .i64 10] w fun e w' => e = .returned (.string ⟨(Lib.decDigits u).toArray⟩) ∧ Below w.heap.size w w' := by
  have F := Lib.hid (fmt_big u h1 hu64 w htab)
  clear htab
  go_enter Tryd.func40, Tryd.ntmps40
  go_wp2_with (go_at_call 47; refine (F.out).mono ?_; rintro e1 w1 ⟨rfl, hb⟩)
  go_ret
  exact ⟨rfl, hb⟩

theorem s_tenth (w : World) : Calls Tryd.prog 39 #[.float .f64 4591870180066957722] w fun e w' => e = .returned (.tuple #[.int .u64 3602879701896397, .int .i64 (-55)]) ∧ w = w' := by
  have B := Lib.hid (fl_bits 4591870180066957722 w)
  have A1 : Hid ((binOp .and 22 (.int .u64 4591870180066957722) (.int .u64 4503599627370495)).run Tryd.prog w = .ok (.int .u64 2702159776422298) w) := Lib.hid (by kernel_rfl)
  have A2 : Hid ((binOp .and 22 (.int .u64 4591870180066957722) (.int .u64 9218868437227405312)).run Tryd.prog w = .ok (.int .u64 4589168020290535424) w) := Lib.hid (by kernel_rfl)
  have A3 : Hid ((binOp .shr 22 (.int .u64 4589168020290535424) (.int .u64 52)).run Tryd.prog w = .ok (.int .u64 1019) w) := Lib.hid (by kernel_rfl)
  have A4 : Hid ((binOp .or 22 (.int .u64 2702159776422298) (.int .u64 4503599627370496)).run Tryd.prog w = .ok (.int .u64 7205759403792794) w) := Lib.hid (by kernel_rfl)
  have A5 : Hid ((binOp .and 22 (.int .u64 7205759403792794) (.int .u64 1)).run Tryd.prog w = .ok (.int .u64 0) w) := Lib.hid (by kernel_rfl)
  have A6 : Hid ((binOp .shr 22 (.int .u64 7205759403792794) (.int .u64 1)).run Tryd.prog w = .ok (.int .u64 3602879701896397) w) := Lib.hid (by kernel_rfl)
  have A7 : Hid ((binOp .and 22 (.int .u64 3602879701896397) (.int .u64 1)).run Tryd.prog w = .ok (.int .u64 1) w) := Lib.hid (by kernel_rfl)
  go_enter Tryd.func39, Tryd.ntmps39
  go_wp2_with (first | (go_at_call 10; refine (B.out).mono ?_; rintro e1 w1 ⟨rfl, rfl⟩) | (refine wpList_bin _ rfl .and _ _ _ _ rfl _ _ rfl rfl rfl _ A1.out ?_) | (refine wpList_bin _ rfl .and _ _ _ _ rfl _ _ rfl rfl rfl _ A2.out ?_) | (refine wpList_bin _ rfl .shr _ _ _ _ rfl _ _ rfl rfl rfl _ A3.out ?_) | (refine wpList_bin _ rfl .or _ _ _ _ rfl _ _ rfl rfl rfl _ A4.out ?_) | (refine wpList_bin _ rfl .and _ _ _ _ rfl _ _ rfl rfl rfl _ A5.out ?_) | (refine wpList_bin _ rfl .shr _ _ _ _ rfl _ _ rfl rfl rfl _ A6.out ?_) | (refine wpList_bin _ rfl .and _ _ _ _ rfl _ _ rfl rfl rfl _ A7.out ?_))
  refine wp_loop_rounds 2 ?_
  rw [rounds_succ]
  go_wp2_with (first | (go_at_call 10; refine (B.out).mono ?_; rintro e1 w1 ⟨rfl, rfl⟩) | (refine wpList_bin _ rfl .and _ _ _ _ rfl _ _ rfl rfl rfl _ A1.out ?_) | (refine wpList_bin _ rfl .and _ _ _ _ rfl _ _ rfl rfl rfl _ A2.out ?_) | (refine wpList_bin _ rfl .shr _ _ _ _ rfl _ _ rfl rfl rfl _ A3.out ?_) | (refine wpList_bin _ rfl .or _ _ _ _ rfl _ _ rfl rfl rfl _ A4.out ?_) | (refine wpList_bin _ rfl .and _ _ _ _ rfl _ _ rfl rfl rfl _ A5.out ?_) | (refine wpList_bin _ rfl .shr _ _ _ _ rfl _ _ rfl rfl rfl _ A6.out ?_) | (refine wpList_bin _ rfl .and _ _ _ _ rfl _ _ rfl rfl rfl _ A7.out ?_))
  rw [rounds_succ]
  go_wp2_with (first | (go_at_call 10; refine (B.out).mono ?_; rintro e1 w1 ⟨rfl, rfl⟩) | (refine wpList_bin _ rfl .and _ _ _ _ rfl _ _ rfl rfl rfl _ A1.out ?_) | (refine wpList_bin _ rfl .and _ _ _ _ rfl _ _ rfl rfl rfl _ A2.out ?_) | (refine wpList_bin _ rfl .shr _ _ _ _ rfl _ _ rfl rfl rfl _ A3.out ?_) | (refine wpList_bin _ rfl .or _ _ _ _ rfl _ _ rfl rfl rfl _ A4.out ?_) | (refine wpList_bin _ rfl .and _ _ _ _ rfl _ _ rfl rfl rfl _ A5.out ?_) | (refine wpList_bin _ rfl .shr _ _ _ _ rfl _ _ rfl rfl rfl _ A6.out ?_) | (refine wpList_bin _ rfl .and _ _ _ _ rfl _ _ rfl rfl rfl _ A7.out ?_))
  go_ret2
  exact ⟨rfl, rfl⟩

end Go.Proofs.YtflkbefiopnigaaDoor
