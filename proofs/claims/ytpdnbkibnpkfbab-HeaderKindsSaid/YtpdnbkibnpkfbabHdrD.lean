/- Take of package header. -/
import Derived.Test.YtpdnbkibnpkfbabHdrC
namespace Go.Proofs.Ytpdnbkibnpkfbab
open Go.ChangeShapes Go.WideShapes Go.ChangeAt Go.RowKit

theorem hw64_wf (p f w : Int) (hp : 0 ≤ p) (hf : 0 ≤ f) (hw : 0 ≤ w) (h : p + f + w ≤ 255) : 0 ≤ hw64 p f w ∧ hw64 p f w < 18446744073709551616 := by unfold hw64; omega

theorem low8 (x : Int) (h0 : 0 ≤ x) (h1 : x < 18446744073709551616) : bits BinOp.and IntKind.u64 x 255 = x % 256 := by go_bits2

theorem take_valid (x : Int) (h0 : 0 ≤ x) (h1 : x < 18446744073709551616) (h : x % 256 + x / 256 % 256 + x / 65536 % 256 ≤ 255) (he : hw64 (x % 256) (x / 256 % 256) (x / 65536 % 256) = x) (W : World) :
    Calls Try.prog 22 #[.int .u64 x] W fun e W' => e = .returned (.tuple #[hdr (x % 256) (x / 256 % 256) (x / 65536 % 256), .int .i64 0]) ∧ Below W.heap.size W W' := by
  have H : Hid ((hw64 (x % 256) (x / 256 % 256) (x / 65536 % 256) != x) = false) := by show _ = _; rw [bne_eq_false_iff_eq]; exact he
  clear he
  have b1 : 0 ≤ x % 256 := by omega
  have b2 : 0 ≤ x / 256 % 256 := by omega
  have b3 : 0 ≤ x / 65536 % 256 := by omega
  have a1 := low8 x h0 h1
  have a2 := low8 (x / 256) (by omega) (by omega)
  have a3 := low8 (x / 65536) (by omega) (by omega)
  go_enter Try.func22, Try.ntmps22
  go_wp2_with fail
  refine (put_ok (x % 256) (x / 256 % 256) (x / 65536 % 256) b1 b2 b3 h _).mono ?_
  rintro e w1 ⟨rfl, hb⟩; obtain ⟨hc, hz⟩ := bcell hb; have hs := hb.size; try simp at hs hc hz
  have H' := H.out
  go_wp2
  have k0 := hc W.heap.size 0 (by omega)
  have k1 := hc W.heap.size 1 (by omega)
  have k2 := hc W.heap.size 2 (by omega)
  simp at k0 k1 k2
  refine bodyPost_ret (v := .tuple #[hdr (x % 256) (x / 256 % 256) (x / 65536 % 256), .int .i64 0]) (by simp [results, Try.results22, go_sem, k0, k1, k2]) rfl ⟨rfl, (by repeat (first | exact Below.refl _ _ | refine below_drewN ?_ _ | refine Below.drew ?_ | refine Below.alloc ?_ (by first | omega | (simp; done) | (simp; omega)) _ | refine Below.setCell ?_ (by first | omega | (simp; done) | (simp; omega)) _ | refine Below.step ?_ (by assumption) (by first | omega | (simp; done) | (simp; omega))))⟩

/-- no valid header has this word: the parts are too great -/
theorem take_big (x : Int) (h0 : 0 ≤ x) (h1 : x < 18446744073709551616) (h : 255 < x % 256 + x / 256 % 256 + x / 65536 % 256) (W : World) :
    Calls Try.prog 22 #[.int .u64 x] W fun e W' => e = .returned (.tuple #[hdr 0 0 0, .int .i64 16]) ∧ Below W.heap.size W W' := by
  have nk : ¬ Hok (x % 256) (x / 256 % 256) (x / 65536 % 256) := by unfold Hok; omega
  have NK := Lib.hid nk
  have HWx : HW (x % 256) (x / 256 % 256) (x / 65536 % 256) := ⟨by omega, by omega, by omega⟩
  clear nk
  have a1 := low8 x h0 h1
  have a2 := low8 (x / 256) (by omega) (by omega)
  have a3 := low8 (x / 65536) (by omega) (by omega)
  go_enter Try.func22, Try.ntmps22
  go_wp2_with fail
  refine (put_bad (x % 256) (x / 256 % 256) (x / 65536 % 256) NK.out HWx _).mono ?_
  rintro e w1 ⟨rfl, hb⟩; obtain ⟨hc, hz⟩ := bcell hb; have hs := hb.size; try simp at hs hc hz
  go_wp2
  have k0 := hc W.heap.size 0 (by omega)
  have k1 := hc W.heap.size 1 (by omega)
  have k2 := hc W.heap.size 2 (by omega)
  simp at k0 k1 k2
  refine bodyPost_ret (v := .tuple #[hdr 0 0 0, .int .i64 16]) (by simp [results, Try.results22, go_sem, k0, k1, k2]) rfl ⟨rfl, (by repeat (first | exact Below.refl _ _ | refine below_drewN ?_ _ | refine Below.drew ?_ | refine Below.alloc ?_ (by first | omega | (simp; done) | (simp; omega)) _ | refine Below.setCell ?_ (by first | omega | (simp; done) | (simp; omega)) _ | refine Below.step ?_ (by assumption) (by first | omega | (simp; done) | (simp; omega))))⟩

/-- the word that its parts would have is another -/
theorem take_other (x : Int) (h0 : 0 ≤ x) (h1 : x < 18446744073709551616) (h : x % 256 + x / 256 % 256 + x / 65536 % 256 ≤ 255) (he : hw64 (x % 256) (x / 256 % 256) (x / 65536 % 256) ≠ x) (W : World) :
    Calls Try.prog 22 #[.int .u64 x] W fun e W' => e = .returned (.tuple #[hdr 0 0 0, .int .i64 16]) ∧ Below W.heap.size W W' := by
  have H : Hid ((hw64 (x % 256) (x / 256 % 256) (x / 65536 % 256) != x) = true) := by show _ = _; rw [bne_iff_ne]; exact he
  clear he
  have b1 : 0 ≤ x % 256 := by omega
  have b2 : 0 ≤ x / 256 % 256 := by omega
  have b3 : 0 ≤ x / 65536 % 256 := by omega
  have a1 := low8 x h0 h1
  have a2 := low8 (x / 256) (by omega) (by omega)
  have a3 := low8 (x / 65536) (by omega) (by omega)
  go_enter Try.func22, Try.ntmps22
  go_wp2_with fail
  refine (put_ok (x % 256) (x / 256 % 256) (x / 65536 % 256) b1 b2 b3 h _).mono ?_
  rintro e w1 ⟨rfl, hb⟩; obtain ⟨hc, hz⟩ := bcell hb; have hs := hb.size; try simp at hs hc hz
  have H' := H.out
  go_wp2
  have k0 := hc W.heap.size 0 (by omega)
  have k1 := hc W.heap.size 1 (by omega)
  have k2 := hc W.heap.size 2 (by omega)
  simp at k0 k1 k2
  refine bodyPost_ret (v := .tuple #[hdr 0 0 0, .int .i64 16]) (by simp [results, Try.results22, go_sem, k0, k1, k2]) rfl ⟨rfl, (by repeat (first | exact Below.refl _ _ | refine below_drewN ?_ _ | refine Below.drew ?_ | refine Below.alloc ?_ (by first | omega | (simp; done) | (simp; omega)) _ | refine Below.setCell ?_ (by first | omega | (simp; done) | (simp; omega)) _ | refine Below.step ?_ (by assumption) (by first | omega | (simp; done) | (simp; omega))))⟩

end Go.Proofs.Ytpdnbkibnpkfbab
