/- The function Check of package header: what it returns; memory: new blocks only. -/
import Derived.Test.YtpdnbkibnpkfbabBase
namespace Go.Proofs.Ytpdnbkibnpkfbab
open Go.ChangeShapes Go.WideShapes Go.ChangeAt Go.RowKit

/-- a header's value -/
abbrev hdr (p f w : Int) : Value := .agg #[.int .i64 p, .int .i64 f, .int .i64 w]

theorem ix0 (p f w : Int) (W : World) : (Instr.index 61 (.agg #[.int .i64 p, .int .i64 f, .int .i64 w]) (.int .i64 0)).run Try.prog W = .ok (.int .i64 p) W := by kernel_rfl
theorem ix1 (p f w : Int) (W : World) : (Instr.index 61 (.agg #[.int .i64 p, .int .i64 f, .int .i64 w]) (.int .i64 1)).run Try.prog W = .ok (.int .i64 f) W := by kernel_rfl
theorem ix2 (p f w : Int) (W : World) : (Instr.index 61 (.agg #[.int .i64 p, .int .i64 f, .int .i64 w]) (.int .i64 2)).run Try.prog W = .ok (.int .i64 w) W := by kernel_rfl

theorem check_ok (p f w : Int) (hp : 0 ≤ p) (hf : 0 ≤ f) (hw : 0 ≤ w) (h : p + f + w ≤ 255) (W : World) :
    Calls Try.prog 24 #[hdr p f w] W fun e W' => e = .returned (.int .i64 0) ∧ Below W.heap.size W W' := by
  have i0 := ix0 p f w
  have i1 := ix1 p f w
  have i2 := ix2 p f w
  go_enter Try.func24, Try.ntmps24
  go_wp2
  refine wp_loop_rounds 4 ?_
  rw [rounds_succ]; go_wp2
  rw [rounds_succ]; go_wp2
  rw [rounds_succ]; go_wp2
  rw [rounds_succ]; go_wp2
  go_ret
  exact ⟨rfl, (Below.refl _ _).alloc (Nat.le_refl _) _⟩

theorem check_bad (p f w : Int) (h : ¬ (0 ≤ p ∧ 0 ≤ f ∧ 0 ≤ w ∧ p + f + w ≤ 255)) (wp : -9223372036854775808 ≤ p ∧ p ≤ 9223372036854775807) (wf : -9223372036854775808 ≤ f ∧ f ≤ 9223372036854775807) (ww : -9223372036854775808 ≤ w ∧ w ≤ 9223372036854775807) (W : World) :
    Calls Try.prog 24 #[hdr p f w] W fun e W' => e = .returned (.int .i64 15) ∧ Below W.heap.size W W' := by
  have i0 := ix0 p f w
  have i1 := ix1 p f w
  have i2 := ix2 p f w
  obtain ⟨wp1, wp2⟩ := wp
  obtain ⟨wf1, wf2⟩ := wf
  obtain ⟨ww1, ww2⟩ := ww
  by_cases hp0 : p < 0
  · go_enter Try.func24, Try.ntmps24
    go_wp2
    refine wp_loop_rounds 1 ?_
    rw [rounds_succ]; go_wp2
    go_ret
    exact ⟨rfl, (Below.refl _ _).alloc (Nat.le_refl _) _⟩
  by_cases hp1 : 255 < p
  · go_enter Try.func24, Try.ntmps24
    go_wp2
    refine wp_loop_rounds 1 ?_
    rw [rounds_succ]; go_wp2
    go_ret
    exact ⟨rfl, (Below.refl _ _).alloc (Nat.le_refl _) _⟩
  by_cases hf0 : f < 0
  · go_enter Try.func24, Try.ntmps24
    go_wp2
    refine wp_loop_rounds 2 ?_
    rw [rounds_succ]; go_wp2
    rw [rounds_succ]; go_wp2
    go_ret
    exact ⟨rfl, (Below.refl _ _).alloc (Nat.le_refl _) _⟩
  by_cases hf1 : 255 - p < f
  · go_enter Try.func24, Try.ntmps24
    go_wp2
    refine wp_loop_rounds 2 ?_
    rw [rounds_succ]; go_wp2
    rw [rounds_succ]; go_wp2
    go_ret
    exact ⟨rfl, (Below.refl _ _).alloc (Nat.le_refl _) _⟩
  by_cases hw0 : w < 0
  · go_enter Try.func24, Try.ntmps24
    go_wp2
    refine wp_loop_rounds 3 ?_
    rw [rounds_succ]; go_wp2
    rw [rounds_succ]; go_wp2
    rw [rounds_succ]; go_wp2
    go_ret
    exact ⟨rfl, (Below.refl _ _).alloc (Nat.le_refl _) _⟩
  have hw1 : 255 - (p + f) < w := by omega
  clear h
  go_enter Try.func24, Try.ntmps24
  go_wp2
  refine wp_loop_rounds 3 ?_
  rw [rounds_succ]; go_wp2
  rw [rounds_succ]; go_wp2
  rw [rounds_succ]; go_wp2
  go_ret
  exact ⟨rfl, (Below.refl _ _).alloc (Nat.le_refl _) _⟩

end Go.Proofs.Ytpdnbkibnpkfbab
