/- The table of root slots: All, Turn; the reference's Same. -/
import Derived.Test.YtpdnbkibnpkfbadRtC
import Derived.Shelf.Slices.Clone
namespace Go.Proofs.Ytpdnbkibnpkfbad
open Go.Shelf
open Go.ChangeShapes Go.WideShapes Go.ChangeAt Go.RowKit

def lays15_ren : Go.Shelf.Ren := ⟨fun | 15 => 45 | n => n, fun | 3 => 3 | 4 => 4 | 22 => 48 | n => n, fun | n => n⟩
theorem lays15 : Go.Proofs.Lays2.n15 Try.prog lays15_ren := {
  mixed := by kernel_rfl
  f15 := Try.func45.trans (congrArg some (by kernel_rfl))
  t3 := Try.underlying3
  a3 := Try.isAgg3
  z3 := Try.sizeOf3
  v3 := Try.zeroValue3
  t4 := Try.underlying4
  a4 := Try.isAgg4
  z4 := Try.sizeOf4
  v4 := Try.zeroValue4
  t22 := Try.underlying48
  a22 := Try.isAgg48
  z22 := Try.sizeOf48
  v22 := Try.zeroValue48
  i3 := infInt }

/-- what All leaves: a row of its own with the same numbers -/
def AllPost (w : World) (n : Nat) (xs : Nat → Int) (e : Ending) (w' : World) : Prop :=
  ∃ g cap, e = .returned (.slice (some ⟨g, 0, none⟩) n cap) ∧ n ≤ cap ∧ w.heap.size ≤ g ∧ (∀ i, i < n → w'.cell? ⟨g, i, none⟩ = some (.int .i64 (xs i))) ∧ (∀ i, w'.frozen? ⟨g, i, none⟩ = false) ∧ Below w.heap.size w w'

theorem clone_any {w : World} {b n : Nat} {xs : Nat → Int} (h : w.rowIs b 3 n (fun i => .int .i64 (xs i))) (hn : n ≤ 64) (h1 : 1 ≤ n) : Calls Try.prog 45 #[.slice (some ⟨b, 0, none⟩) n n] w (AllPost w n xs) := by
  refine (Any.slices_Clone_int lays15 b 0 n n ((List.range n).map xs) w (by simp) (by omega) ?_).mono ?_
  · intro j hj
    simp at hj
    simpa [List.getD, hj] using h.cell hj
  · rintro e w' ⟨v', rfl, hown, hne, hb⟩
    rcases hown.2 with ⟨rfl, hnil⟩ | ⟨g, cap, cur, rfl, hbg, hg, hnc, rest⟩
    · exact absurd rfl hne
    · refine ⟨g, cap, rfl, hnc, hbg, ?_, ?_, hb⟩
      · intro i hi
        have := hown.cells (g := g) rfl i (.int .i64 (xs i)) (by simp [hi])
        rw [Addr.add_lit, Nat.zero_add] at this
        exact this
      · intro i
        simp [World.frozen?, hg]

theorem all_any {w : World} {c b n : Nat} {xs : Nat → Int} (h : Rt w c b n xs) (hn : n ≤ 64) (h1 : 1 ≤ n) : Calls Try.prog 35 #[.pointer (some ⟨c, 0, none⟩)] w (AllPost w n xs) := by
  obtain ⟨c0, f0⟩ := cells1 h.1
  have CL := Lib.hid (clone_any h.2.1 hn h1)
  go_enter Try.func35, Try.ntmps35
  go_wp2_with (go_at_call 45; refine (CL.out).mono ?_; rintro e1 w1 ⟨g, cap, rfl, q1, q2, q3, q4, q5⟩)
  go_ret
  exact ⟨g, cap, rfl, q1, q2, q3, q4, q5⟩

theorem same_any {w : World} {g d n cap : Nat} {xs : Nat → Int} (h : Rw w d n xs) (hn : n ≤ 64) (hg : ∀ i, i < n → w.cell? ⟨g, i, none⟩ = some (.int .i64 (xs i))) : Calls Try.prog 36 #[.slice (some ⟨g, 0, none⟩) n cap, .slice (some ⟨d, 0, none⟩) n n] w fun e w' => e = .returned (.bool true) ∧ ∃ m, w' = w.drewN m := by
  have HG := Lib.hid hg
  have HR : Hid (∀ i, i < n → w.cell? ⟨d, i, none⟩ = some (.int .i64 (xs i))) := fun i hi => World.rowIs.cell h hi
  clear hg h
  go_enter Try.func36, Try.ntmps36
  go_wp2
  go_loopw [5] (fun k wr => ∃ i : Nat, i ≤ n ∧ k = .int .i64 i ∧ ∃ q, wr = w.drewN q) (fun k _ => n - (intOf k).toNat)
  case atStart => exact ⟨0, by omega, rfl, 0, rfl⟩
  case round =>
    obtain ⟨i, hi, rfl, q, rfl⟩ := hrel
    by_cases hlt : i < n
    · have c0 := HG.out i hlt
      have c1 := HR.out i hlt
      go_wp2
      go_quiet (fail)
      go_wp2
      go_roundw
      case rel => exact ⟨i + 1, by omega, by go_num, _, rfl⟩
      case measure => simp [intOf]; omega
    · go_wp2
      go_ret
      exact ⟨rfl, _, rfl⟩

/-- what an address turns to -/
def turnedV (a b : Int) : Int := a % 4294967296 * 3 - b % 18446744073709551616 % 100

theorem turned_any (a b : Int) (w : World) : Calls Try.prog 32 #[.int .i64 a, .int .i64 b] w fun e w' => e = .returned (.int .i64 (turnedV a b)) ∧ w = w' := by
  unfold turnedV
  obtain ⟨u, hu, hb⟩ : ∃ u, IntKind.u64.wrap b = u ∧ b % 18446744073709551616 = u := ⟨_, rfl, (IntKind.wrap_u64 b).symm⟩
  rw [hb]
  have h1 : 0 ≤ a % 4294967296 ∧ a % 4294967296 < 4294967296 := by omega
  have h2 : 0 ≤ u ∧ u < 18446744073709551616 := by omega
  have h3 : 0 ≤ u % 100 ∧ u % 100 < 100 := by omega
  clear hb
  go_enter Try.func32, Try.ntmps32
  go_wp2
  go_ret
  exact ⟨rfl, rfl⟩

end Go.Proofs.Ytpdnbkibnpkfbad
