/- The reference's answers for layer 14: May, Size, Put, Take. -/
import Derived.Test.YtpdnbkibnpkfbabHdrD
namespace Go.Proofs.Ytpdnbkibnpkfbab
open Go.ChangeShapes Go.WideShapes Go.ChangeAt Go.RowKit

theorem may_ok (p f w : Int) (hp : 0 ≤ p) (hf : 0 ≤ f) (hw : 0 ≤ w) (h : p + f + w ≤ 255) (W : World) :
    Calls Try.prog 25 #[hdr p f w] W fun e W' => e = .returned (.bool true) ∧ Below W.heap.size W W' := by
  go_enter Try.func25, Try.ntmps25
  go_wp2
  go_ret
  exact ⟨rfl, (by repeat (first | exact Below.refl _ _ | refine below_drewN ?_ _ | refine Below.drew ?_ | refine Below.alloc ?_ (by first | omega | (simp; done) | (simp; omega)) _ | refine Below.setCell ?_ (by first | omega | (simp; done) | (simp; omega)) _ | refine Below.step ?_ (by assumption) (by first | omega | (simp; done) | (simp; omega))))⟩

theorem may_bad (p f w : Int) (h : ¬ Hok p f w) (W : World) :
    Calls Try.prog 25 #[hdr p f w] W fun e W' => e = .returned (.bool false) ∧ Below W.heap.size W W' := by
  unfold Hok at h
  have h7 : p < 0 ∨ (0 ≤ p ∧ f < 0) ∨ (0 ≤ p ∧ 0 ≤ f ∧ w < 0) ∨ (0 ≤ p ∧ 0 ≤ f ∧ 0 ≤ w ∧ 255 < p) ∨ (0 ≤ p ∧ p ≤ 255 ∧ 0 ≤ f ∧ 0 ≤ w ∧ 255 < f) ∨ (0 ≤ p ∧ p ≤ 255 ∧ 0 ≤ f ∧ f ≤ 255 ∧ 0 ≤ w ∧ 255 < w) ∨ (0 ≤ p ∧ p ≤ 255 ∧ 0 ≤ f ∧ f ≤ 255 ∧ 0 ≤ w ∧ w ≤ 255 ∧ 255 < p + f + w) := by omega
  clear h
  rcases h7 with h1 | ⟨h1, h2⟩ | ⟨h1, h2, h3⟩ | ⟨h1, h2, h3, h4⟩ | ⟨h1, h2, h3, h4, h5⟩ | ⟨h1, h2, h3, h4, h5, h6⟩ | ⟨h1, h2, h3, h4, h5, h6, h7⟩
  all_goals
    go_enter Try.func25, Try.ntmps25
    go_wp2
    go_ret
    exact ⟨by first | rfl | (simp; omega), (by repeat (first | exact Below.refl _ _ | refine below_drewN ?_ _ | refine Below.drew ?_ | refine Below.alloc ?_ (by first | omega | (simp; done) | (simp; omega)) _ | refine Below.setCell ?_ (by first | omega | (simp; done) | (simp; omega)) _ | refine Below.step ?_ (by assumption) (by first | omega | (simp; done) | (simp; omega))))⟩

theorem rsize_ok (p f w : Int) (hp : 0 ≤ p) (hf : 0 ≤ f) (hw : 0 ≤ w) (h : p + f + w ≤ 255) (W : World) :
    Calls Try.prog 27 #[hdr p f w] W fun e W' => e = .returned (.int .i64 (1 + p + f + w)) ∧ Below W.heap.size W W' := by
  go_enter Try.func27, Try.ntmps27
  go_wp2_with (go_at_call 25; refine (may_ok p f w hp hf hw h _).mono ?_; rintro e w1 ⟨rfl, hb⟩; obtain ⟨hc, hz⟩ := bcell hb; have hs := hb.size; try simp at hs hc hz)
  go_ret
  exact ⟨by simp; omega, (by repeat (first | exact Below.refl _ _ | refine below_drewN ?_ _ | refine Below.drew ?_ | refine Below.alloc ?_ (by first | omega | (simp; done) | (simp; omega)) _ | refine Below.setCell ?_ (by first | omega | (simp; done) | (simp; omega)) _ | refine Below.step ?_ (by assumption) (by first | omega | (simp; done) | (simp; omega))))⟩

theorem rsize_bad (p f w : Int) (h : ¬ Hok p f w) (W : World) :
    Calls Try.prog 27 #[hdr p f w] W fun e W' => e = .returned (.int .i64 0) ∧ Below W.heap.size W W' := by
  have H := Lib.hid h
  clear h
  go_enter Try.func27, Try.ntmps27
  go_wp2_with (go_at_call 25; refine (may_bad p f w H.out _).mono ?_; rintro e w1 ⟨rfl, hb⟩; obtain ⟨hc, hz⟩ := bcell hb; have hs := hb.size; try simp at hs hc hz)
  go_ret
  exact ⟨rfl, (by repeat (first | exact Below.refl _ _ | refine below_drewN ?_ _ | refine Below.drew ?_ | refine Below.alloc ?_ (by first | omega | (simp; done) | (simp; omega)) _ | refine Below.setCell ?_ (by first | omega | (simp; done) | (simp; omega)) _ | refine Below.step ?_ (by assumption) (by first | omega | (simp; done) | (simp; omega))))⟩

theorem rput_ok (p f w : Int) (hp : 0 ≤ p) (hf : 0 ≤ f) (hw : 0 ≤ w) (h : p + f + w ≤ 255) (W : World) :
    Calls Try.prog 21 #[hdr p f w] W fun e W' => e = .returned (.tuple #[.int .u64 (hw64 p f w), .int .i64 0]) ∧ Below W.heap.size W W' := by
  go_enter Try.func21, Try.ntmps21
  go_wp2_with (go_at_call 25; refine (may_ok p f w hp hf hw h _).mono ?_; rintro e w1 ⟨rfl, hb⟩; obtain ⟨hc, hz⟩ := bcell hb; have hs := hb.size; try simp at hs hc hz)
  go_ret2
  exact ⟨by simp [hw64]; omega, (by repeat (first | exact Below.refl _ _ | refine below_drewN ?_ _ | refine Below.drew ?_ | refine Below.alloc ?_ (by first | omega | (simp; done) | (simp; omega)) _ | refine Below.setCell ?_ (by first | omega | (simp; done) | (simp; omega)) _ | refine Below.step ?_ (by assumption) (by first | omega | (simp; done) | (simp; omega))))⟩

theorem rput_bad (p f w : Int) (h : ¬ Hok p f w) (W : World) :
    Calls Try.prog 21 #[hdr p f w] W fun e W' => e = .returned (.tuple #[.int .u64 0, .int .i64 15]) ∧ Below W.heap.size W W' := by
  have H := Lib.hid h
  clear h
  go_enter Try.func21, Try.ntmps21
  go_wp2_with (go_at_call 25; refine (may_bad p f w H.out _).mono ?_; rintro e w1 ⟨rfl, hb⟩; obtain ⟨hc, hz⟩ := bcell hb; have hs := hb.size; try simp at hs hc hz)
  go_ret2
  exact ⟨rfl, (by repeat (first | exact Below.refl _ _ | refine below_drewN ?_ _ | refine Below.drew ?_ | refine Below.alloc ?_ (by first | omega | (simp; done) | (simp; omega)) _ | refine Below.setCell ?_ (by first | omega | (simp; done) | (simp; omega)) _ | refine Below.step ?_ (by assumption) (by first | omega | (simp; done) | (simp; omega))))⟩

theorem rtake_valid (x : Int) (h0 : 0 ≤ x) (h1 : x < 18446744073709551616) (h : x % 256 + x / 256 % 256 + x / 65536 % 256 ≤ 255) (he : hw64 (x % 256) (x / 256 % 256) (x / 65536 % 256) = x) (W : World) :
    Calls Try.prog 23 #[.int .u64 x] W fun e W' => e = .returned (.tuple #[hdr (x % 256) (x / 256 % 256) (x / 65536 % 256), .int .i64 0]) ∧ Below W.heap.size W W' := by
  have H : Hid ((hw64 (x % 256) (x / 256 % 256) (x / 65536 % 256) != x) = false) := by show _ = _; rw [bne_eq_false_iff_eq]; exact he
  clear he
  have b1 : 0 ≤ x % 256 := by omega
  have b2 : 0 ≤ x / 256 % 256 := by omega
  have b3 : 0 ≤ x / 65536 % 256 := by omega
  go_enter Try.func23, Try.ntmps23
  go_wp2_with fail
  refine (rput_ok (x % 256) (x / 256 % 256) (x / 65536 % 256) b1 b2 b3 h _).mono ?_
  rintro e w1 ⟨rfl, hb⟩; obtain ⟨hc, hz⟩ := bcell hb; have hs := hb.size; try simp at hs hc hz
  have H' := H.out
  go_wp2
  have k0 := hc W.heap.size 0 (by omega)
  have k1 := hc W.heap.size 1 (by omega)
  have k2 := hc W.heap.size 2 (by omega)
  simp at k0 k1 k2
  refine bodyPost_ret (v := .tuple #[hdr (x % 256) (x / 256 % 256) (x / 65536 % 256), .int .i64 0]) (by simp [results, Try.results23, go_sem, k0, k1, k2]) rfl ⟨rfl, (by repeat (first | exact Below.refl _ _ | refine below_drewN ?_ _ | refine Below.drew ?_ | refine Below.alloc ?_ (by first | omega | (simp; done) | (simp; omega)) _ | refine Below.setCell ?_ (by first | omega | (simp; done) | (simp; omega)) _ | refine Below.step ?_ (by assumption) (by first | omega | (simp; done) | (simp; omega))))⟩

theorem rtake_big (x : Int) (h0 : 0 ≤ x) (h1 : x < 18446744073709551616) (h : 255 < x % 256 + x / 256 % 256 + x / 65536 % 256) (W : World) :
    Calls Try.prog 23 #[.int .u64 x] W fun e W' => e = .returned (.tuple #[hdr 0 0 0, .int .i64 16]) ∧ Below W.heap.size W W' := by
  have nk : ¬ Hok (x % 256) (x / 256 % 256) (x / 65536 % 256) := by unfold Hok; omega
  have NK := Lib.hid nk
  clear nk
  go_enter Try.func23, Try.ntmps23
  go_wp2_with fail
  refine (rput_bad (x % 256) (x / 256 % 256) (x / 65536 % 256) NK.out _).mono ?_
  rintro e w1 ⟨rfl, hb⟩; obtain ⟨hc, hz⟩ := bcell hb; have hs := hb.size; try simp at hs hc hz
  go_wp2
  have k0 := hc W.heap.size 0 (by omega)
  have k1 := hc W.heap.size 1 (by omega)
  have k2 := hc W.heap.size 2 (by omega)
  simp at k0 k1 k2
  refine bodyPost_ret (v := .tuple #[hdr 0 0 0, .int .i64 16]) (by simp [results, Try.results23, go_sem, k0, k1, k2]) rfl ⟨rfl, (by repeat (first | exact Below.refl _ _ | refine below_drewN ?_ _ | refine Below.drew ?_ | refine Below.alloc ?_ (by first | omega | (simp; done) | (simp; omega)) _ | refine Below.setCell ?_ (by first | omega | (simp; done) | (simp; omega)) _ | refine Below.step ?_ (by assumption) (by first | omega | (simp; done) | (simp; omega))))⟩

theorem rtake_other (x : Int) (h0 : 0 ≤ x) (h1 : x < 18446744073709551616) (h : x % 256 + x / 256 % 256 + x / 65536 % 256 ≤ 255) (he : hw64 (x % 256) (x / 256 % 256) (x / 65536 % 256) ≠ x) (W : World) :
    Calls Try.prog 23 #[.int .u64 x] W fun e W' => e = .returned (.tuple #[hdr 0 0 0, .int .i64 16]) ∧ Below W.heap.size W W' := by
  have H : Hid ((hw64 (x % 256) (x / 256 % 256) (x / 65536 % 256) != x) = true) := by show _ = _; rw [bne_iff_ne]; exact he
  clear he
  have b1 : 0 ≤ x % 256 := by omega
  have b2 : 0 ≤ x / 256 % 256 := by omega
  have b3 : 0 ≤ x / 65536 % 256 := by omega
  go_enter Try.func23, Try.ntmps23
  go_wp2_with fail
  refine (rput_ok (x % 256) (x / 256 % 256) (x / 65536 % 256) b1 b2 b3 h _).mono ?_
  rintro e w1 ⟨rfl, hb⟩; obtain ⟨hc, hz⟩ := bcell hb; have hs := hb.size; try simp at hs hc hz
  have H' := H.out
  go_wp2
  have k0 := hc W.heap.size 0 (by omega)
  have k1 := hc W.heap.size 1 (by omega)
  have k2 := hc W.heap.size 2 (by omega)
  simp at k0 k1 k2
  refine bodyPost_ret (v := .tuple #[hdr 0 0 0, .int .i64 16]) (by simp [results, Try.results23, go_sem, k0, k1, k2]) rfl ⟨rfl, (by repeat (first | exact Below.refl _ _ | refine below_drewN ?_ _ | refine Below.drew ?_ | refine Below.alloc ?_ (by first | omega | (simp; done) | (simp; omega)) _ | refine Below.setCell ?_ (by first | omega | (simp; done) | (simp; omega)) _ | refine Below.step ?_ (by assumption) (by first | omega | (simp; done) | (simp; omega))))⟩

end Go.Proofs.Ytpdnbkibnpkfbab
