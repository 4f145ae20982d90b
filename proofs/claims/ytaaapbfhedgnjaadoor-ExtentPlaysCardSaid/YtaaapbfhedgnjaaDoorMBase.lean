/- Imports and small lemmas for the walks over package masks. -/
import Derived.Test.YtaaapbfhedgnjaaDoorBase
import Derived.Test.YtaaapbfhedgnjaaDoorMskB
import Derived.Test.YtaaapbfhedgnjaaDoorSep
import Derived.Test.YtaaapbfhedgnjaaDoorMkA
namespace Go.Proofs.YtaaapbfhedgnjaaDoor
open Go.ChangeShapes Go.WideShapes Go.ChangeAt Go.RowKit

theorem and127 (v : Int) (h0 : 0 ≤ v) (h1 : v < 9223372036854775808) : bits .and .i64 v 127 = v % 128 :=
  bits_mask .i64 63 (by decide) (fun n h0 h1 => by rw [IntKind.wrap_i64]; omega) 7 (by decide) v h0 h1

set_option maxHeartbeats 1000000 in
theorem ones_any (x : Nat) (hx : x < 18446744073709551616) (w : World) : Calls Tryd.prog 66 #[.int .u64 x] w fun e w' => e = .returned (.int .i64 (cnt x 64)) ∧ w = w' := by
  obtain ⟨a1, a2, b1, b2, u, e1, e2, e3, e4, e5, l1, l2, l3, l4, l5, l6, e6⟩ := ones_steps x
  have hu : u < 2 ^ 63 := by omega
  have m1 : bits .and .u64 ((x : Int) / 2) 6148914691236517205 = (a1 : Int) := by
    rw [← e1, show (x : Int) / 2 = ((x / 2 : Nat) : Int) by omega]; exact band _ 6148914691236517205 (by omega) (by decide)
  have m2 : bits .and .u64 (x : Int) 6148914691236517205 = (a2 : Int) := by rw [← e2]; exact band _ 6148914691236517205 (by omega) (by decide)
  have m3 : bits .and .u64 (((a1 : Int) + (a2 : Int)) / 4) 3689348814741910323 = (b1 : Int) := by
    rw [← e3, show ((a1 : Int) + (a2 : Int)) / 4 = (((a1 + a2) / 4 : Nat) : Int) by omega]; exact band _ 3689348814741910323 (by omega) (by decide)
  have m4 : bits .and .u64 ((a1 : Int) + (a2 : Int)) 3689348814741910323 = (b2 : Int) := by
    rw [← e4, show ((a1 : Int) + (a2 : Int)) = ((a1 + a2 : Nat) : Int) by omega]; exact band _ 3689348814741910323 (by omega) (by decide)
  have m5 : bits .and .u64 (((b1 : Int) + (b2 : Int)) / 16 + ((b1 : Int) + (b2 : Int))) 1085102592571150095 = (u : Int) := by
    rw [← e5, show ((b1 : Int) + (b2 : Int)) / 16 + ((b1 : Int) + (b2 : Int)) = (((b1 + b2) / 16 + (b1 + b2) : Nat) : Int) by omega]; exact band _ 1085102592571150095 (by omega) (by decide)
  clear e1 e2 e3 e4 e5
  have L1 : (u : Int) + (u : Int) / 256 < 4611686018427387904 := by omega
  have L2 : (u : Int) + (u : Int) / 256 + ((u : Int) + (u : Int) / 256) / 65536 < 4611686018427387904 := by omega
  have E6 := Lib.hid e6
  clear e6 l5 l6
  go_enter Tryd.func66, Tryd.ntmps66
  go_wp2
  go_ret
  refine ⟨ret_int ?_, rfl⟩
  rw [and127 _ (by omega) (by omega), ← E6.out]
  omega

end Go.Proofs.YtaaapbfhedgnjaaDoor
