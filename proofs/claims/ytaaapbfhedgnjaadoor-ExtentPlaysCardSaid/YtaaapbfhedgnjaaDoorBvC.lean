/- A vector of bits (layer 11): New. -/
import Derived.Test.YtaaapbfhedgnjaaDoorBvB
namespace Go.Proofs.YtaaapbfhedgnjaaDoor.BV
open Go.ChangeShapes Go.WideShapes Go.ChangeAt Go.RowKit

theorem infU64F : (Tryd.prog.info? 66).map (fun i => (i.zero, i.size, i.bytes)) = some (some (.int .u64 0), 1, 8) := by kernel_rfl

theorem bv_words (n : Nat) (h : n ≤ 1048576) (w : World) : Calls Tryd.prog 63 #[.int .i64 n] w fun e w' => e = .returned (.int .i64 ((n + 63) / 64 : Nat)) ∧ w = w' := by
  have q : ((n : Int) + 63).tdiv 64 = (((n + 63) / 64 : Nat) : Int) := by rw [Int.tdiv_eq_ediv_of_nonneg (by omega)]; omega
  have W0 : IntKind.i64.wrap ((n : Int) + 64) = (n : Int) + 64 := IntWalk.i64_in _ (by omega)
  have W1 : IntKind.i64.wrap ((n : Int) + 64 - 1) = (n : Int) + 63 := by rw [show (n : Int) + 64 - 1 = (n : Int) + 63 by omega]; exact IntWalk.i64_in _ (by omega)
  go_enter Tryd.func63, Tryd.ntmps63
  go_wp2
  go_ret
  exact ⟨ret_int (by omega), rfl⟩

/-- n bits that are 0 -/
def newB (n : Nat) : Bits := ⟨n, fun _ => false⟩

theorem newB_ok (n : Nat) (h1 : 1 ≤ n) (h2 : n ≤ 1048576) : (newB n).ok := ⟨h1, h2, fun _ _ => rfl⟩

theorem ob_zero (n : Nat) : ob (fun _ => false) n = 0 := by
  induction n with
  | zero => rfl
  | succ n ih => unfold ob; rw [if_neg (by simp), ih]

theorem wd_zero (i : Nat) : wd (fun _ => false) i = 0 := ob_zero 64
theorem us_zero' (i : Nat) : us (fun _ => false) i = 0 := by
  unfold us
  rw [show (fun j => wd (fun _ => false) (64 * i + j) != 0) = fun _ => false from funext fun j => by rw [wd_zero]; rfl]
  exact ob_zero 64

theorem rowz {b n : Nat} {f : Nat → Nat} (hf : ∀ i, f i = 0) : row b 66 n (fun _ => .int .u64 0) = row b 66 n (fun i => .int .u64 (f i : Nat)) := by
  congr 1
  funext i
  rw [hf]; rfl

theorem bv_new_fin {w0 w : World} {S : Nat → Prop} {n x y : Nat} {c : Asn} (h : At (row x 66 (newB n).nw (fun _ => .int .u64 0) * row y 66 (newB n).nu (fun _ => .int .u64 0)) w0 S w) :
    At (bvA w.heap.size (newB n)) w0 S ((w.alloc (.cells #[.slice (some ⟨x, 0, none⟩) (newB n).nw (newB n).nw, .slice (some ⟨y, 0, none⟩) (newB n).nu (newB n).nu, .int .i64 n] 84)).drew) := by
  have h1 := (h.alloc (.cells #[.slice (some ⟨x, 0, none⟩) (newB n).nw (newB n).nw, .slice (some ⟨y, 0, none⟩) (newB n).nu (newB n).nu, .int .i64 n] 84)).drew
  rw [rowz (f := wd (newB n).b) wd_zero, rowz (f := us (newB n).b) us_zero'] at h1
  refine bvA_of (bw := ⟨x, (newB n).nw, (newB n).nw, fun _ => .tuple #[]⟩) (bu := ⟨y, (newB n).nu, (newB n).nu, fun _ => .tuple #[]⟩) ?_
  have h2 := At.impl (h1.re (B := row x 66 (newB n).nw (fun i => .int .u64 (wd (newB n).b i : Nat)) * (row y 66 (newB n).nu (fun i => .int .u64 (us (newB n).b i : Nat)) * blk w.heap.size (.cells #[.slice (some ⟨x, 0, none⟩) (newB n).nw (newB n).nw, .slice (some ⟨y, 0, none⟩) (newB n).nu (newB n).nu, .int .i64 n] 84 (0, 0)))) (by ac_rfl)) (fun S => lrow_of (cap := (newB n).nw) _ S)
  have h3 := At.impl (h2.re (B := row y 66 (newB n).nu (fun i => .int .u64 (us (newB n).b i : Nat)) * (lrow ⟨x, (newB n).nw, (newB n).nw, fun _ => .tuple #[]⟩ 66 (newB n).nw (fun i => .int .u64 (wd (newB n).b i : Nat)) * blk w.heap.size (.cells #[.slice (some ⟨x, 0, none⟩) (newB n).nw (newB n).nw, .slice (some ⟨y, 0, none⟩) (newB n).nu (newB n).nu, .int .i64 n] 84 (0, 0)))) (by ac_rfl)) (fun S => lrow_of (cap := (newB n).nu) _ S)
  exact h3.re (by unfold bvX bvC; show _ = blk w.heap.size (.cells #[.slice (some ⟨x, 0, none⟩) (newB n).nw (newB n).nw, .slice (some ⟨y, 0, none⟩) (newB n).nu (newB n).nu, .int .i64 n] 84 (0, 0)) * _; ac_rfl)

theorem bv_new_a {w0 w : World} {S : Nat → Prop} (n : Nat) (h : At (pur True) w0 S w) : At (bvA (w.heap.size + 1 + 1) (newB n)) w0 S
    ((((w.alloc (.cells (madeCells #[.int .u64 0] (newB n).nw) 66)).alloc (.cells (madeCells #[.int .u64 0] (newB n).nu) 66)).alloc (.cells #[.slice (some ⟨w.heap.size, 0, none⟩) (newB n).nw (newB n).nw, .slice (some ⟨w.heap.size + 1, 0, none⟩) (newB n).nu (newB n).nu, .int .i64 n] 84)).drew) := by
  have h1 := (h.made (.int .u64 0) (newB n).nw 66).made (.int .u64 0) (newB n).nu 66
  simp only [World.size_alloc] at h1
  have h2 := (h1.re (B := (row w.heap.size 66 (newB n).nw (fun _ => .int .u64 0) * row (w.heap.size + 1) 66 (newB n).nu (fun _ => .int .u64 0)) * pur True) (by ac_rfl)).nounit
  have h3 := bv_new_fin (c := pur True) h2
  simp only [World.size_alloc] at h3
  exact h3

theorem bv_new_b {w0 w : World} {S : Nat → Prop} (n : Nat) (h : At (pur True) w0 S w) : At (bvA (w.heap.size + 1 + 1) (newB n)) w0 S
    ((((w.alloc (.cells (madeCells #[.int .u64 0] (newB n).nu) 66)).alloc (.cells (madeCells #[.int .u64 0] (newB n).nw) 66)).alloc (.cells #[.slice (some ⟨w.heap.size + 1, 0, none⟩) (newB n).nw (newB n).nw, .slice (some ⟨w.heap.size, 0, none⟩) (newB n).nu (newB n).nu, .int .i64 n] 84)).drew) := by
  have h1 := (h.made (.int .u64 0) (newB n).nu 66).made (.int .u64 0) (newB n).nw 66
  simp only [World.size_alloc] at h1
  have h2 := (h1.re (B := (row (w.heap.size + 1) 66 (newB n).nw (fun _ => .int .u64 0) * row w.heap.size 66 (newB n).nu (fun _ => .int .u64 0)) * pur True) (by ac_rfl)).nounit
  have h3 := bv_new_fin (c := pur True) h2
  simp only [World.size_alloc] at h3
  exact h3

theorem bv_new_bad (n : Int) (h : n < 1 ∨ 1048576 < n) (w : World) : Calls Tryd.prog 43 #[.int .i64 n] w fun e w' => e = .returned (.tuple #[.pointer none, .int .i64 5]) ∧ w = w' := by
  by_cases h1 : n < 1
  · clear h
    go_enter Tryd.func43, Tryd.ntmps43
    go_wp2
    go_ret2
    exact ⟨rfl, rfl⟩
  · have h2 : 1048576 < n := by omega
    clear h
    go_enter Tryd.func43, Tryd.ntmps43
    go_wp2
    go_ret2
    exact ⟨rfl, rfl⟩

theorem bv_new_ok (n : Nat) (h1 : 1 ≤ n) (h2 : n ≤ 1048576) : Tri Tryd.prog 43 #[.int .i64 n] (pur True) (fun c : Nat => .tuple #[.pointer (some ⟨c, 0, none⟩), .int .i64 0]) (fun c => bvA c (newB n)) := by
  intro w S h
  have hw : (newB n).nw = (n + 63) / 64 := rfl
  have hu : (newB n).nu = ((newB n).nw + 63) / 64 := rfl
  have PW1 := bv_words n h2 w
  have PW2 := fun w => bv_words (newB n).nw (by rw [hw]; omega) w
  rw [← hw] at PW1
  rw [← hu] at PW2
  have PW1 := Lib.hid PW1
  have PW2 := Lib.hid PW2
  have nb1 : (newB n).nw ≤ 16384 := by rw [hw]; omega
  have nb2 : (newB n).nu ≤ 256 := by rw [hu]; omega
  have MK1 := fun w => run_make_row' (P := Tryd.prog) 74 66 (.int .u64 0) 8 Tryd.underlying74 infU64F rfl .i64 .i64 (newB n).nw (by omega) (by omega) w
  have MK2 := fun w => run_make_row' (P := Tryd.prog) 74 66 (.int .u64 0) 8 Tryd.underlying74 infU64F rfl .i64 .i64 (newB n).nu (by omega) (by omega) w
  have H0 := At.refl h
  have FA := Lib.hid (bv_new_a n H0)
  have FB := Lib.hid (bv_new_b n H0)
  generalize (newB n).nw = N at *
  generalize (newB n).nu = M at *
  clear h H0 hw hu
  go_enter Tryd.func43, Tryd.ntmps43
  go_wp2_with (go_at_call 63; with_reducible refine PW1.out.mono ?_; rintro e1 w1 ⟨rfl, rfl⟩)
  go_region_with (go_at_call 63; with_reducible refine (PW2.out _).mono ?_; rintro e1 w1 ⟨rfl, rfl⟩)
  all_goals go_wp2
  all_goals go_ret2
  all_goals first | exact ⟨_, rfl, FA.out⟩ | exact ⟨_, rfl, FB.out⟩

end Go.Proofs.YtaaapbfhedgnjaaDoor.BV
