/- Digits (layer 4): strconv.FormatUint at base 16. -/
import Derived.Test.YtfgdfhcefgblaaaDoorDgG
import Derived.Test.YtfgdfhcefgblaaaDoorSL
import Derived.Lib.ItoaMem
namespace Go.Proofs.YtfgdfhcefgblaaaDoor
open Go.ChangeShapes Go.WideShapes Go.ChangeAt Go.RowKit Go.Shelf

def hc (d : Nat) : UInt8 := if d < 10 then (48 + d).toUInt8 else (87 + d).toUInt8
def hexD (n : Nat) : List UInt8 := if h : n < 16 then [hc n] else hexD (n / 16) ++ [hc (n % 16)]
termination_by n
decreasing_by omega

theorem hexD_small {n : Nat} (h : n < 16) : hexD n = [hc n] := by rw [hexD, dif_pos h]
theorem hexD_big {n : Nat} (h : ¬ n < 16) : hexD n = hexD (n / 16) ++ [hc (n % 16)] := by rw [hexD, dif_neg h]
theorem hexD_len : ∀ (k n : Nat), n < 16 ^ (k + 1) → (hexD n).length ≤ k + 1
  | 0, n, h => by rw [hexD_small (by simpa using h)]; simp
  | k + 1, n, h => by
    by_cases hn : n < 16
    · rw [hexD_small hn]; simp
    · rw [hexD_big hn, List.length_append]
      have := hexD_len k (n / 16) (by rw [Nat.pow_succ] at h; exact Nat.div_lt_of_lt_mul (by rw [Nat.mul_comm]; exact h))
      simp; omega
theorem hexD_pos (n : Nat) : 0 < (hexD n).length := by
  by_cases hn : n < 16
  · rw [hexD_small hn]; simp
  · rw [hexD_big hn, List.length_append]; simp

/-- the digits of strconv -/
def dgs : ByteArray := ⟨#[48, 49, 50, 51, 52, 53, 54, 55, 56, 57, 97, 98, 99, 100, 101, 102, 103, 104, 105, 106, 107, 108, 109, 110, 111, 112, 113, 114, 115, 116, 117, 118, 119, 120, 121, 122]⟩

theorem tz16 (w : World) (hT : DbTab w) : Calls Tryd.prog 57 #[.int .u64 16] w fun e w' => e = .returned (.int .i64 4) ∧ w = w' := by
  have hc := Lib.TabIs.cell hT gTabB 15 (by decide)
  have hcell : w.cell? ⟨2, 15, none⟩ = some (.int .u8 4) := hc
  clear hc hT
  have T : Calls Tryd.prog 59 #[.int .u64 16] w fun e w' => e = .returned (.int .i64 4) ∧ w = w' := by
    go_enter Tryd.func59, Tryd.ntmps59
    have key : IntKind.u64.wrap (bits BinOp.and IntKind.u64 16 (IntKind.u64.wrap (-16)) * 285870213051353865) / 288230376151711744 = 15 := by decide +kernel
    go_wp2_with (simp only [key])
    go_ret
    exact ⟨rfl, rfl⟩
  have T := Lib.hid T
  go_enter Tryd.func57, Tryd.ntmps57
  go_wp2_with (go_at_call 59; with_reducible refine T.out.mono ?_; rintro e1 w1 ⟨rfl, rfl⟩)
  go_ret
  exact ⟨rfl, rfl⟩

theorem p2_16 (w : World) : Calls Tryd.prog 56 #[.int .i64 16] w fun e w' => e = .returned (.bool true) ∧ w = w' := by
  go_enter Tryd.func56, Tryd.ntmps56
  have key : bits BinOp.and IntKind.i64 16 15 = 0 := by decide +kernel
  go_wp2
  go_ret
  exact ⟨rfl, rfl⟩

def zC65 : Array Value := Array.replicate 65 (.int .u8 0)
theorem zA65 (w : World) : (zeroValue 68).run Tryd.prog w = .ok (.agg zC65) w := by kernel_rfl

def HexI (u m j : Nat) (suf : List UInt8) (f : Nat → Value) : Prop := j + suf.length = 65 ∧ hexD m ++ suf = hexD u ∧ ∀ t, (h : t < suf.length) → f (j + t) = .int .u8 (suf[t].toNat : Nat)

def HexS (u m j Z : Nat) (w wr : World) : Prop := ∃ suf f, HexI u m j suf f ∧ m ≤ u ∧ At (row Z 68 65 f * pur True) w (fun _ => False) wr

theorem hex_start (u : Nat) (w : World) : HexS u u 65 w.heap.size w (w.alloc (.cells zC65 68)) := by
  refine ⟨[], fun _ => .int .u8 0, ⟨rfl, List.append_nil _, fun t h => absurd h (by simp)⟩, Nat.le_refl _, ?_⟩
  exact At.impl ((At.emp w).alloc (.cells zC65 68)) (fun S => blk_row (c := zC65) (n := 65) (f := fun _ => .int .u8 0) (by unfold zC65; simp) (fun i hi => by unfold zC65; simp [hi]) _ S)

theorem hex_put {u m j Z : Nat} {w wr : World} {x : Int} (hx : x = ((hc (m % 16)).toNat : Int)) (hm : ¬ m < 16) (hj : 1 ≤ j) (h : HexS u m j Z w wr) : HexS u (m / 16) (j - 1) Z w (wr.setCell ⟨Z, j - 1, none⟩ (.int .u8 x)) := by
  obtain ⟨suf, f, ⟨h1, h2, h3⟩, hmu, hA⟩ := h
  refine ⟨hc (m % 16) :: suf, _, ⟨by simp; omega, by rw [← h2, hexD_big hm, List.append_assoc]; rfl, ?_⟩, by omega, At.set_row hA (j - 1) (.int .u8 x)⟩
  intro t ht
  try dsimp only
  cases t with
  | zero => rw [if_pos (by omega), hx]; rfl
  | succ t =>
    rw [if_neg (by omega), show j - 1 + (t + 1) = j + t by omega, h3 t (by simpa using ht)]; rfl

theorem hex_last {u m j Z : Nat} {w wr : World} {x : Int} (hx : x = ((hc m).toNat : Int)) (hm : m < 16) (hj : 1 ≤ j) (h : HexS u m j Z w wr) :
    ∃ f, At (row Z 68 65 f * pur True) w (fun _ => False) (wr.setCell ⟨Z, j - 1, none⟩ (.int .u8 x)) ∧ j - 1 + (hexD u).length = 65 ∧ ∀ t, (h : t < (hexD u).length) → f (j - 1 + t) = .int .u8 ((hexD u)[t].toNat : Nat) := by
  obtain ⟨suf, f, ⟨h1, h2, h3⟩, hmu, hA⟩ := h
  rw [hexD_small hm] at h2
  refine ⟨_, At.set_row hA (j - 1) (.int .u8 x), by rw [← h2]; simp; omega, ?_⟩
  intro t ht
  try dsimp only
  cases t with
  | zero => rw [if_pos (by omega), hx]; simp only [← h2]; rfl
  | succ t =>
    have ht2 : t < suf.length := by rw [← h2] at ht; simpa using ht
    rw [if_neg (by omega), show j - 1 + (t + 1) = j + t by omega, h3 t ht2]; simp only [← h2]; rfl

theorem hex_j {u m j Z : Nat} {w wr : World} (hu : u < 18446744073709551616) (h : HexS u m j Z w wr) : 50 ≤ j ∧ j ≤ 65 := by
  obtain ⟨suf, f, ⟨h1, h2, h3⟩, hmu, hA⟩ := h
  have h4 := congrArg List.length h2
  rw [List.length_append] at h4
  have h5 := hexD_len 15 u (by have : (16 : Nat) ^ (15 + 1) = 18446744073709551616 := by decide
                               omega)
  have h6 := hexD_pos m
  omega

theorem dgs_at (d : Nat) (h : d < 16) (h2 : d < dgs.size) : (dgs[d]).toNat = (hc d).toNat := by
  have : ∀ d : Fin 16, (dgs[d.val]'(Nat.lt_of_lt_of_le d.isLt (by decide))).toNat = (hc d.val).toNat := by decide +kernel
  exact this ⟨d, h⟩

set_option maxRecDepth 100000 in
set_option maxHeartbeats 2000000 in
theorem hex_bits (u : Nat) (hu : u < 18446744073709551616) (w : World) (hT : DbTab w) :
    Calls Tryd.prog 50 #[.slice none 0 0, .int .u64 u, .int .i64 16, .bool false, .bool false] w fun e w' => e = .returned (.tuple #[.slice none 0 0, .string ⟨(hexD u).toArray⟩]) ∧ Below w.heap.size w w' := by
  have P2 := Lib.hid (fun w => p2_16 w)
  have TZ := Lib.hid (tz16 (w.alloc (.cells zC65 68)) (Lib.tabIs_alloc hT _))
  have ZA := zA65
  clear hT
  go_enter Tryd.func50, Tryd.ntmps50
  go_wp2_with (first | (go_at_call 56; with_reducible refine (P2.out _).mono ?_; rintro e1 w1 ⟨rfl, rfl⟩) | (go_at_call 57; with_reducible refine TZ.out.mono ?_; rintro e1 w1 ⟨rfl, rfl⟩))
  have H0 := Lib.hid (hex_start u w)
  obtain ⟨Z, hZ⟩ : ∃ Z, w.heap.size = Z := ⟨_, rfl⟩
  rw [hZ] at H0
  try rw [hZ]
  have HZ := Lib.hid hZ
  obtain ⟨w1, hw1⟩ : ∃ w1, w.alloc (.cells zC65 68) = w1 := ⟨_, rfl⟩
  rw [hw1] at H0 ⊢
  have HU := Lib.hid hu
  clear hw1 hZ TZ P2 ZA hu
  go_loopw [1, 13] (fun uv iv wr => ∃ m j : Nat, uv = .int .u64 m ∧ iv = .int .i64 j ∧ Hid (HexS u m j Z w wr)) (fun uv _ _ => (intOf uv).toNat)
  case atStart => exact ⟨u, 65, rfl, rfl, H0⟩
  case round =>
    clear H0
    obtain ⟨m, j, rfl, rfl, HH⟩ := hrel
    obtain ⟨j1, j2⟩ := hex_j HU.out HH.out
    have RC : ∃ v, wr.cell? ⟨Z, j - 1, none⟩ = some v ∧ wr.frozen? ⟨Z, j - 1, none⟩ = false := by
      obtain ⟨suf, f, _, _, hA⟩ := HH.out
      have R := At.rowIs hA
      exact ⟨_, R.cell (show j - 1 < 65 by omega), R.frozen _⟩
    obtain ⟨v0, c0, f0⟩ := RC
    by_cases hm : m < 16
    · have hmI : ¬ (16 : Int) ≤ (m : Int) := by omega
      have hdg : m < dgs.size := Nat.lt_of_lt_of_le hm (by decide)
      obtain ⟨f, L1, L2, L3⟩ := hex_last (x := ((dgs[m]).toNat : Int)) (by rw [dgs_at m hm hdg]) hm (by omega) HH.out
      have hal : (Tryd.prog).arrayLen 68 = 65 := by kernel_rfl
      have tn : ((j : Int) - 1).toNat = j - 1 := by omega
      obtain ⟨ln, hln⟩ : ∃ ln, (hexD u).length = ln := ⟨_, rfl⟩
      have hsl : ∀ W, (Instr.sliceAt 68 (.pointer (some ⟨Z, 0, none⟩)) (some (.int .i64 ((j : Int) - 1))) none none).run Tryd.prog W = .ok (.slice (some ⟨Z, j - 1, none⟩) ln ln) W := fun W => by
        rw [run_sliceAt_array_l W 68 ⟨Z, 0, none⟩ (by kernel_rfl) .i64 ((j : Int) - 1) (by omega) (by rw [hal]; omega), hal, tn]
        go_simp
        omega
      have hcv : (convert 60 9 (.slice (some ⟨Z, j - 1, none⟩) ln ln)).run Tryd.prog (wr.setCell ⟨Z, j - 1, none⟩ (.int .u8 ((dgs[m]).toNat : Int))) = .ok (.string ⟨(hexD u).toArray⟩) (wr.setCell ⟨Z, j - 1, none⟩ (.int .u8 ((dgs[m]).toNat : Int))) := by
        have h := run_convert_bytes_back (P := Tryd.prog) (wr.setCell ⟨Z, j - 1, none⟩ (.int .u8 ((dgs[m]).toNat : Int))) 60 9 5 ⟨Z, j - 1, none⟩ ln (hexD u) Tryd.underlying60 Tryd.underlying5 Tryd.underlying9 (fun t ht => by
          have R := At.rowIs L1
          have := R.cell (show j - 1 + t < 65 by omega)
          rw [L3 t ht] at this
          rw [Lib.add_plain]; exact this)
        rw [hln] at h
        exact h
      have BL := Lib.hid L1.below
      unfold dgs at hcv
      clear L1 L2 L3 HH hal tn hln
      go_wp2
      first | rw [hcv] | erw [hcv]
      go_wp2
      go_ret2
      exact ⟨rfl, BL.out⟩
    · have hmI : (16 : Int) ≤ (m : Int) := by omega
      have AN : bits .and .u64 (m : Int) 15 = ((m % 16 : Nat) : Int) := by
        rw [show (15 : Int) = ((15 : Nat) : Int) from rfl, u64_and_nat m 15 (by
          obtain ⟨suf, f, _, hmu, _⟩ := HH.out
          have := HU.out
          omega) (by omega), show (15 : Nat) = 2 ^ 4 - 1 from rfl, Nat.and_two_pow_sub_one_eq_mod]
      have hdg : m % 16 < dgs.size := Nat.lt_of_lt_of_le (Nat.mod_lt _ (by omega)) (by decide)
      have NX := Lib.hid (hex_put (x := ((dgs[m % 16]).toNat : Int)) (by rw [dgs_at (m % 16) (Nat.mod_lt _ (by omega)) hdg]) hm (by omega) HH.out)
      clear HH
      go_wp2
      exact ⟨⟨m / 16, j - 1, by push_cast; rfl, by rw [show ((j - 1 : Nat) : Int) = (j : Int) - 1 by omega], NX⟩, by simp [intOf]; omega⟩

theorem fmt_hex (u : Nat) (hu : u < 18446744073709551616) (w : World) (hT : DbTab w) : Calls Tryd.prog 33 #[.int .u64 u, .int .i64 16] w fun e w' => e = .returned (.string ⟨(hexD u).toArray⟩) ∧ Below w.heap.size w w' := by
  have F := Lib.hid (hex_bits u hu w hT)
  have G : Calls Tryd.prog 42 #[.int .u64 u, .int .i64 16] w fun e w' => e = .returned (.string ⟨(hexD u).toArray⟩) ∧ Below w.heap.size w w' := by
    go_enter Tryd.func42, Tryd.ntmps42
    go_wp2_with (go_at_call 50; with_reducible refine F.out.mono ?_; rintro e1 w1 ⟨rfl, hb⟩)
    go_ret
    exact ⟨rfl, hb⟩
  have G := Lib.hid G
  clear F hT
  go_enter Tryd.func33, Tryd.ntmps33
  go_wp2_with (go_at_call 42; with_reducible refine G.out.mono ?_; rintro e1 w1 ⟨rfl, hb⟩)
  go_ret
  exact ⟨rfl, hb⟩

end Go.Proofs.YtfgdfhcefgblaaaDoor
