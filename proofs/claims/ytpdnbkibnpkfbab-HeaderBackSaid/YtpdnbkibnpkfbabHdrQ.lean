/- The law HeaderBack at a header that may not be, and over its opened arguments. -/
import Derived.Test.YtpdnbkibnpkfbabHdrP
namespace Go.Proofs.Ytpdnbkibnpkfbab
open Go.ChangeShapes Go.WideShapes Go.ChangeAt Go.RowKit

set_option maxHeartbeats 3000000 in
theorem back_bad (p f w : Int) (hn : ¬ Hok p f w) (hV : HW p f w) (x : Int) (h0 : 0 ≤ x) (h1 : x < 18446744073709551616) (W : World) :
    Calls Try.prog 8 #[hdr p f w, .int .u64 x] W fun e W' => e = .returned (.bool true) ∧ Below W.heap.size W W' := by
  have HN := Lib.hid hn
  clear hn
  have H : x % 256 + x / 256 % 256 + x / 65536 % 256 ≤ 255 ∧ hw64 (x % 256) (x / 256 % 256) (x / 65536 % 256) = x ∨ Hid (∀ W, Calls Try.prog 22 #[.int .u64 x] W fun e W' => e = .returned (.tuple #[hdr 0 0 0, .int .i64 16]) ∧ Below W.heap.size W W') := by
    by_cases c1 : 255 < x % 256 + x / 256 % 256 + x / 65536 % 256
    · exact .inr (take_big x h0 h1 c1)
    by_cases c2 : hw64 (x % 256) (x / 256 % 256) (x / 65536 % 256) = x
    · exact .inl ⟨by omega, c2⟩
    · exact .inr (take_other x h0 h1 (by omega) c2)
  rcases H with ⟨c1, c2⟩ | H
  · have H : Hid ((hw64 (x % 256) (x / 256 % 256) (x / 65536 % 256) != x) = false) := by show _ = _; rw [bne_eq_false_iff_eq]; exact c2
    have T := Lib.hid (take_valid x h0 h1 c1 c2)
    have b1 : 0 ≤ x % 256 := by omega
    have b2 : 0 ≤ x / 256 % 256 := by omega
    have b3 : 0 ≤ x / 65536 % 256 := by omega
    clear c2
    go_enter Try.func8, Try.ntmps8
    go_wp2_with fail
    refine (T.out _).mono ?_
    rintro e w1 ⟨rfl, hb⟩
    obtain ⟨k0, k1, k2, kl, kb⟩ := keep3 (B := W.heap.size) (b := W.heap.size) (W := W) (x := .int .i64 p) (y := .int .i64 f) (z := .int .i64 w) hb ⟨by simp, by simp, by simp, by simp, (Below.refl _ _).alloc (Nat.le_refl _) _⟩ (by simp) (by simp)
    clear hb
    go_wp2_with fail
    refine (put_ok (x % 256) (x / 256 % 256) (x / 65536 % 256) b1 b2 b3 c1 _).mono ?_
    rintro e w2 ⟨rfl, hb⟩
    have K1 := keep3 hb (B := W.heap.size) (b := W.heap.size) (W := W) (x := .int .i64 p) (y := .int .i64 f) (z := .int .i64 w) ⟨by rw [World.cell?_alloc_past _ _ _ kl]; exact k0, by rw [World.cell?_alloc_past _ _ _ kl]; exact k1, by rw [World.cell?_alloc_past _ _ _ kl]; exact k2, by simp; omega, kb.alloc (by omega) _⟩ (by simp; omega) (by simp; omega)
    clear k0 k1 k2 kl kb hb T b1 b2 b3 c1
    obtain ⟨k0, k1, k2, kl, kb⟩ := K1
    have H' := H.out
    clear H
    go_wp2_with fail
    clear H'
    refine (put_bad p f w HN.out hV _).mono ?_
    rintro e w3 ⟨rfl, hb⟩
    have K1 := keep3 hb ⟨k0, k1, k2, kl, kb⟩ kl (by omega)
    clear k0 k1 k2 kl kb hb
    obtain ⟨k0, k1, k2, kl, kb⟩ := K1
    go_wp2_with fail
    refine (size_bad p f w HN.out hV _).mono ?_
    rintro e w4 ⟨rfl, hb⟩
    have K1 := keep3 hb ⟨k0, k1, k2, kl, kb⟩ kl (by omega)
    clear k0 k1 k2 kl kb hb
    obtain ⟨k0, k1, k2, kl, kb⟩ := K1
    go_wp2_with fail
    refine (hlives _).mono ?_
    rintro e w5 ⟨rfl, hb⟩
    have K1 := keep3 hb ⟨k0, k1, k2, kl, kb⟩ kl (by omega)
    go_wp2
    go_ret
    exact ⟨rfl, K1.2.2.2.2⟩
  · go_enter Try.func8, Try.ntmps8
    go_wp2_with fail
    refine (H.out _).mono ?_
    rintro e w2 ⟨rfl, hb⟩
    obtain ⟨k0, k1, k2, kl, kb⟩ := keep3 (B := W.heap.size) (b := W.heap.size) (W := W) (x := .int .i64 p) (y := .int .i64 f) (z := .int .i64 w) hb ⟨by simp, by simp, by simp, by simp, (Below.refl _ _).alloc (Nat.le_refl _) _⟩ (by simp) (by simp)
    clear hb H
    go_wp2_with fail
    refine (put_bad p f w HN.out hV _).mono ?_
    rintro e w3 ⟨rfl, hb⟩
    have K1 := keep3 hb (B := W.heap.size) (b := W.heap.size) (W := W) (x := .int .i64 p) (y := .int .i64 f) (z := .int .i64 w) ⟨by rw [World.cell?_alloc_past _ _ _ kl]; exact k0, by rw [World.cell?_alloc_past _ _ _ kl]; exact k1, by rw [World.cell?_alloc_past _ _ _ kl]; exact k2, by simp; omega, kb.alloc (by omega) _⟩ (by simp; omega) (by simp; omega)
    clear k0 k1 k2 kl kb hb
    obtain ⟨k0, k1, k2, kl, kb⟩ := K1
    go_wp2_with fail
    refine (size_bad p f w HN.out hV _).mono ?_
    rintro e w4 ⟨rfl, hb⟩
    have K1 := keep3 hb ⟨k0, k1, k2, kl, kb⟩ kl (by omega)
    clear k0 k1 k2 kl kb hb
    obtain ⟨k0, k1, k2, kl, kb⟩ := K1
    go_wp2_with fail
    refine (hlives _).mono ?_
    rintro e w5 ⟨rfl, hb⟩
    have K1 := keep3 hb ⟨k0, k1, k2, kl, kb⟩ kl (by omega)
    go_wp2
    go_ret
    exact ⟨rfl, K1.2.2.2.2⟩

theorem back_any (p f w x : Int) (wp : (Lit.int .i64 p).wf = true) (wf : (Lit.int .i64 f).wf = true) (ww : (Lit.int .i64 w).wf = true) (wx : (Lit.int .u64 x).wf = true) (W : World) :
    Calls Try.prog 8 #[hdr p f w, .int .u64 x] W fun e W' => e = .returned (.bool true) ∧ Below W.heap.size W W' := by
  have hx := wf_u64 wx
  by_cases h : Hok p f w
  · exact back_ok p f w h.1 h.2.1 h.2.2.1 h.2.2.2 x hx.1 hx.2 W
  · exact back_bad p f w h ⟨wf_i64 wp, wf_i64 wf, wf_i64 ww⟩ x hx.1 hx.2 W

end Go.Proofs.Ytpdnbkibnpkfbab
