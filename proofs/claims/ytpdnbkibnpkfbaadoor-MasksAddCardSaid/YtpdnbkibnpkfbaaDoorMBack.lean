/- The law MasksBack walked; MasksAdd. -/
import Derived.Test.YtpdnbkibnpkfbaaDoorMTab
namespace Go.Proofs.YtpdnbkibnpkfbaaDoor
open Go.RowKit

theorem back_any (x m : Nat) (hx : x < 18446744073709551616) (hm : m < 18446744073709551616) (w : World) (hT : Tab w) : Calls Tryd.prog 6 #[.int .u64 x, .int .u64 m] w fun e w' => e = .returned (.bool true) ∧ w = w' := by
  have ca := fun w => count_any m hm 0 64 w
  rw [cnt_all m hm] at ca
  have hc := cp_le m.testBit 64
  have ra := fun w => run_any 0 (cp m.testBit 64) w
  rw [runN_all _ hc] at ra
  have ps := pack_spread x m
  have sp := spread_pack x m hx
  have l1 := p64 _ hc
  have e1 := band x (2 ^ cp m.testBit 64 - 1) hx l1
  have e2 := band x m hx hm
  have s1 := fun w => spread_any x m hx hm w
  have s2 := fun w => pack_any (spreadN x m 64) m (spreadN_lt x m 64 (Nat.le_refl _)) hm w
  have s3 := fun w => pack_any x m hx hm w
  have s4 := fun w => spread_any (packN x m 64) m (packN_lt x m 64 (Nat.le_refl _)) hm w
  rw [ps] at s2
  rw [sp] at s4
  generalize 2 ^ cp m.testBit 64 - 1 = L at *
  generalize cp m.testBit 64 = c at *
  generalize spreadN x m 64 = S at *
  generalize packN x m 64 = K at *
  generalize x &&& L = z1 at *
  generalize x &&& m = z2 at *
  have CA := Lib.hid ca
  have RA := Lib.hid ra
  have S1 := Lib.hid s1
  have S2 := Lib.hid s2
  have S3 := Lib.hid s3
  have S4 := Lib.hid s4
  clear ca ra s1 s2 s3 s4 ps sp
  go_enter Tryd.func6, Tryd.ntmps6
  go_wp2_with (first | (go_at_call 11; refine (CA.out _).mono ?_; rintro e1 w1 ⟨rfl, rfl⟩) | (go_at_call 9; refine (RA.out _).mono ?_; rintro e1 w1 ⟨rfl, rfl⟩) | (go_at_call 24; (first | with_reducible refine (S1.out _).mono ?_ | with_reducible refine (S4.out _).mono ?_); rintro e1 w1 ⟨rfl, rfl⟩) | (go_at_call 22; (first | with_reducible refine (S2.out _).mono ?_ | with_reducible refine (S3.out _).mono ?_); rintro e1 w1 ⟨rfl, rfl⟩) | (go_at_call 17; refine (lives_any _ hT).mono ?_; rintro e1 w1 ⟨rfl, rfl⟩))
  go_ret
  exact ⟨rfl, rfl⟩

theorem back_law (x : Int) (h : (Lit.int .u64 x).wf = true) (m : Int) (hm : (Lit.int .u64 m).wf = true) (w : World) (hT : Tab w) : Calls Tryd.prog 6 #[.int .u64 x, .int .u64 m] w fun e w' => e = .returned (.bool true) ∧ Below w.heap.size w w' := by
  obtain ⟨n, rfl, hn⟩ := word h
  obtain ⟨k, rfl, hk⟩ := word hm
  exact same_below (back_any n k hn hk w hT)

end Go.Proofs.YtpdnbkibnpkfbaaDoor
