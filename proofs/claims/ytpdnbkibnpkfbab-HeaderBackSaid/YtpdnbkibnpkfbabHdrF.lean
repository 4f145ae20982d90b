/- The law HeaderPuts: the walk. -/
import Derived.Test.YtpdnbkibnpkfbabHdrE
namespace Go.Proofs.Ytpdnbkibnpkfbab
open Go.ChangeShapes Go.WideShapes Go.ChangeAt Go.RowKit

theorem hlives (W : World) : Calls Try.prog 28 #[] W fun e W' => e = .returned (.bool true) ∧ Below W.heap.size W W' := by
  have e1 : hw64 1 0 2 = 6556678101676457985 := by decide
  have hE : Eff 1 0 2 1 0 2 := ⟨.inl ⟨by unfold Hok; omega, rfl, rfl, rfl⟩⟩
  have hk : kindOf 1 0 2 1 = 3 := by decide
  go_enter Try.func28, Try.ntmps28
  go_wp2_with fail
  refine (put_ok 1 0 2 (by omega) (by omega) (by omega) (by omega) _).mono ?_
  rw [e1]
  rintro e w1 ⟨rfl, hb⟩
  have K1 := keep3 (B := W.heap.size) (b := W.heap.size) (W := W) (x := .int .i64 1) (y := .int .i64 0) (z := .int .i64 2) hb ⟨by simp, by simp, by simp, by simp, (Below.refl _ _).alloc (Nat.le_refl _) _⟩ (by simp) (by simp)
  obtain ⟨k0, k1, k2, kl, kb⟩ := K1
  clear hb
  go_wp2_with fail
  refine (size_ok 1 0 2 (by omega) (by omega) (by omega) (by omega) _).mono ?_
  rintro e w2 ⟨rfl, hb⟩
  have K1 := keep3 hb ⟨k0, k1, k2, kl, kb⟩ kl (by omega)
  clear k0 k1 k2 kl kb hb
  obtain ⟨k0, k1, k2, kl, kb⟩ := K1
  go_wp2_with fail
  refine (kind_any hE ⟨by omega, by omega, by omega⟩ 1 _).mono ?_
  rw [hk]
  rintro e w3 ⟨rfl, hb⟩
  have K1 := keep3 hb ⟨k0, k1, k2, kl, kb⟩ kl (by omega)
  go_wp2
  go_ret
  exact ⟨rfl, K1.2.2.2.2⟩

/-- both answers to one word -/
theorem take_any (x : Int) (h0 : 0 ≤ x) (h1 : x < 18446744073709551616) : ∃ a b c k : Int, (∀ W, Calls Try.prog 22 #[.int .u64 x] W fun e W' => e = .returned (.tuple #[hdr a b c, .int .i64 k]) ∧ Below W.heap.size W W') ∧
    (∀ W, Calls Try.prog 23 #[.int .u64 x] W fun e W' => e = .returned (.tuple #[hdr a b c, .int .i64 k]) ∧ Below W.heap.size W W') ∧ -9223372036854775808 ≤ k ∧ k ≤ 9223372036854775807 := by
  by_cases c1 : 255 < x % 256 + x / 256 % 256 + x / 65536 % 256
  · exact ⟨0, 0, 0, 16, take_big x h0 h1 c1, rtake_big x h0 h1 c1, by omega, by omega⟩
  by_cases c2 : hw64 (x % 256) (x / 256 % 256) (x / 65536 % 256) = x
  · exact ⟨_, _, _, 0, take_valid x h0 h1 (by omega) c2, rtake_valid x h0 h1 (by omega) c2, by omega, by omega⟩
  · exact ⟨0, 0, 0, 16, take_other x h0 h1 (by omega) c2, rtake_other x h0 h1 (by omega) c2, by omega, by omega⟩

end Go.Proofs.Ytpdnbkibnpkfbab
