/- The law HeaderPuts: the walk. -/
import Derived.Test.YtpdnbkibnpkfbabHdrF
namespace Go.Proofs.Ytpdnbkibnpkfbab
open Go.ChangeShapes Go.WideShapes Go.ChangeAt Go.RowKit

theorem hdr_eql (a b c : Int) (W : World) : (_root_.Go.binOp .eql 41 (.agg #[.int .i64 a, .int .i64 b, .int .i64 c]) (.agg #[.int .i64 a, .int .i64 b, .int .i64 c])).run Try.prog W = .ok (.bool true) W := by
  have f1 : Try.prog.underlying 41 = some (.struct (Try.prog.fieldsOf 41)) := by kernel_rfl
  have f2 : Try.prog.stoodInHeld 41 = false := by kernel_rfl
  rw [run_eql_struct, run_equalIn_agg W 9999 _ _ _ f1 f2]
  simp [go_sem]

theorem hdr_guard (x y : Operand) (a b c : Int) (W : World) : (_root_.Go.eqGuard .eql 41 x y (.agg #[.int .i64 a, .int .i64 b, .int .i64 c]) (.agg #[.int .i64 a, .int .i64 b, .int .i64 c])).run Try.prog W = .ok () W :=
  run_eqGuard_agg W _ _ _ _ _ _ (by kernel_rfl)

theorem keep33 {B b c d n : Nat} {x y z x' y' z' x2 y2 z2 : Value} {W w0 w1 : World} (hb : Below n w0 w1)
    (h : (w0.cell? ⟨b, 0, none⟩ = some x ∧ w0.cell? ⟨b, 1, none⟩ = some y ∧ w0.cell? ⟨b, 2, none⟩ = some z) ∧ (w0.cell? ⟨c, 0, none⟩ = some x' ∧ w0.cell? ⟨c, 1, none⟩ = some y' ∧ w0.cell? ⟨c, 2, none⟩ = some z') ∧
      (w0.cell? ⟨d, 0, none⟩ = some x2 ∧ w0.cell? ⟨d, 1, none⟩ = some y2 ∧ w0.cell? ⟨d, 2, none⟩ = some z2) ∧ (b < w0.heap.size ∧ c < w0.heap.size ∧ d < w0.heap.size) ∧ Below B W w0) (hn : b < n ∧ c < n ∧ d < n) (hB : B ≤ n) :
    (w1.cell? ⟨b, 0, none⟩ = some x ∧ w1.cell? ⟨b, 1, none⟩ = some y ∧ w1.cell? ⟨b, 2, none⟩ = some z) ∧ (w1.cell? ⟨c, 0, none⟩ = some x' ∧ w1.cell? ⟨c, 1, none⟩ = some y' ∧ w1.cell? ⟨c, 2, none⟩ = some z') ∧
      (w1.cell? ⟨d, 0, none⟩ = some x2 ∧ w1.cell? ⟨d, 1, none⟩ = some y2 ∧ w1.cell? ⟨d, 2, none⟩ = some z2) ∧ (b < w1.heap.size ∧ c < w1.heap.size ∧ d < w1.heap.size) ∧ Below B W w1 := by
  obtain ⟨⟨a1, a2, a3⟩, ⟨b1, b2, b3⟩, ⟨c1, c2, c3⟩, ⟨s1, s2, s3⟩, hB0⟩ := h
  obtain ⟨n1, n2, n3⟩ := hn
  have g := fun (q : Nat) (o : Nat) (hq : q < n) => hb.cell (p := ⟨q, o, none⟩) hq
  exact ⟨⟨(g _ _ n1).trans a1, (g _ _ n1).trans a2, (g _ _ n1).trans a3⟩, ⟨(g _ _ n2).trans b1, (g _ _ n2).trans b2, (g _ _ n2).trans b3⟩, ⟨(g _ _ n3).trans c1, (g _ _ n3).trans c2, (g _ _ n3).trans c3⟩,
    ⟨Nat.lt_of_lt_of_le s1 hb.size, Nat.lt_of_lt_of_le s2 hb.size, Nat.lt_of_lt_of_le s3 hb.size⟩, hB0.trans (hb.mono hB)⟩

set_option maxHeartbeats 2000000 in
theorem puts_ok (p f w : Int) (hp : 0 ≤ p) (hf : 0 ≤ f) (hw : 0 ≤ w) (h : p + f + w ≤ 255) (x : Int) (h0 : 0 ≤ x) (h1 : x < 18446744073709551616) (W : World) :
    Calls Try.prog 6 #[hdr p f w, .int .u64 x] W fun e W' => e = .returned (.bool true) ∧ Below W.heap.size W W' := by
  obtain ⟨a, b, c, k, T1, T2, k1, k2⟩ := take_any x h0 h1
  have H1 := Lib.hid T1
  have H2 := Lib.hid T2
  clear T1 T2
  have f1 := hdr_eql a b c
  have f2 := fun (x y : Operand) (W : World) => hdr_guard x y a b c W
  go_enter Try.func6, Try.ntmps6
  go_wp2_with fail
  refine (put_ok p f w hp hf hw h _).mono ?_
  rintro e w1 ⟨rfl, hb⟩
  have K1 := keep3 (B := W.heap.size) (b := W.heap.size) (W := W) (x := .int .i64 p) (y := .int .i64 f) (z := .int .i64 w) hb ⟨by simp, by simp, by simp, by simp, (Below.refl _ _).alloc (Nat.le_refl _) _⟩ (by simp) (by simp)
  obtain ⟨k0, k1, k2, kl, kb⟩ := K1
  clear hb
  go_wp2_with fail
  refine (rput_ok p f w hp hf hw h _).mono ?_
  rintro e w2 ⟨rfl, hb⟩
  have K1 := keep3 hb ⟨k0, k1, k2, kl, kb⟩ kl (by omega)
  clear k0 k1 k2 kl kb hb
  obtain ⟨k0, k1, k2, kl, kb⟩ := K1
  go_wp2_with fail
  refine (H1.out _).mono ?_
  rintro e w3 ⟨rfl, hb⟩
  have K1 := keep3 hb ⟨k0, k1, k2, kl, kb⟩ kl (by omega)
  clear k0 k1 k2 kl kb hb
  obtain ⟨k0, k1, k2, kl, kb⟩ := K1
  go_wp2_with fail
  refine (H2.out _).mono ?_
  rintro e w4 ⟨rfl, hb⟩
  obtain ⟨q0, q1, q2, ql, qb⟩ := keep3 (B := W.heap.size) (b := w3.heap.size) (W := W) (x := .int .i64 a) (y := .int .i64 b) (z := .int .i64 c) hb ⟨by simp, by simp, by simp, by simp, kb.alloc (by omega) _⟩ (by simp) (by simp; omega)
  have K1 := keep3 hb (B := W.heap.size) (b := W.heap.size) (W := W) (x := .int .i64 p) (y := .int .i64 f) (z := .int .i64 w) ⟨by rw [World.cell?_alloc_past _ _ _ kl]; exact k0, by rw [World.cell?_alloc_past _ _ _ kl]; exact k1, by rw [World.cell?_alloc_past _ _ _ kl]; exact k2, by simp; omega, kb.alloc (by omega) _⟩ (by simp; omega) (by simp; omega)
  clear k0 k1 k2 kl kb hb
  obtain ⟨k0, k1, k2, kl, kb⟩ := K1
  go_wp2_with fail
  have start : ∀ o : Obj, o = .cells #[.int .i64 a, .int .i64 b, .int .i64 c] 41 → ((w4.alloc o).drew.cell? ⟨W.heap.size, 0, none⟩ = some (.int .i64 p) ∧ (w4.alloc o).drew.cell? ⟨W.heap.size, 1, none⟩ = some (.int .i64 f) ∧ (w4.alloc o).drew.cell? ⟨W.heap.size, 2, none⟩ = some (.int .i64 w)) ∧
      ((w4.alloc o).drew.cell? ⟨w3.heap.size, 0, none⟩ = some (.int .i64 a) ∧ (w4.alloc o).drew.cell? ⟨w3.heap.size, 1, none⟩ = some (.int .i64 b) ∧ (w4.alloc o).drew.cell? ⟨w3.heap.size, 2, none⟩ = some (.int .i64 c)) ∧
      ((w4.alloc o).drew.cell? ⟨w4.heap.size, 0, none⟩ = some (.int .i64 a) ∧ (w4.alloc o).drew.cell? ⟨w4.heap.size, 1, none⟩ = some (.int .i64 b) ∧ (w4.alloc o).drew.cell? ⟨w4.heap.size, 2, none⟩ = some (.int .i64 c)) ∧
      (W.heap.size < (w4.alloc o).drew.heap.size ∧ w3.heap.size < (w4.alloc o).drew.heap.size ∧ w4.heap.size < (w4.alloc o).drew.heap.size) ∧ Below W.heap.size W (w4.alloc o).drew := by
    intro o ho
    subst ho
    exact ⟨⟨(World.cell?_alloc_past _ _ _ kl).trans k0, (World.cell?_alloc_past _ _ _ kl).trans k1, (World.cell?_alloc_past _ _ _ kl).trans k2⟩, ⟨(World.cell?_alloc_past _ _ _ ql).trans q0, (World.cell?_alloc_past _ _ _ ql).trans q1, (World.cell?_alloc_past _ _ _ ql).trans q2⟩, ⟨by simp, by simp, by simp⟩, ⟨by simp; omega, by simp; omega, by simp⟩, (kb.alloc (by omega) _).drew⟩
  have START := Lib.hid start
  clear start
  refine region_class (fun w' => (w'.cell? ⟨W.heap.size, 0, none⟩ = some (.int .i64 p) ∧ w'.cell? ⟨W.heap.size, 1, none⟩ = some (.int .i64 f) ∧ w'.cell? ⟨W.heap.size, 2, none⟩ = some (.int .i64 w)) ∧
      (w'.cell? ⟨w3.heap.size, 0, none⟩ = some (.int .i64 a) ∧ w'.cell? ⟨w3.heap.size, 1, none⟩ = some (.int .i64 b) ∧ w'.cell? ⟨w3.heap.size, 2, none⟩ = some (.int .i64 c)) ∧
      (w'.cell? ⟨w4.heap.size, 0, none⟩ = some (.int .i64 a) ∧ w'.cell? ⟨w4.heap.size, 1, none⟩ = some (.int .i64 b) ∧ w'.cell? ⟨w4.heap.size, 2, none⟩ = some (.int .i64 c)) ∧
      (W.heap.size < w'.heap.size ∧ w3.heap.size < w'.heap.size ∧ w4.heap.size < w'.heap.size) ∧ Below W.heap.size W w') (by kernel_rfl) (by kernel_rfl) (START.out _ rfl) ?_
  repeat (first | go_big_quiet_skip | (go_big_quiet_want; first | (go_big_quiet_op; go_big_quiet_on) | (apply quiet_upon; (focus (intro wx hx; obtain ⟨⟨x0, x1, x2⟩, ⟨x3, x4, x5⟩, ⟨x6, x7, x8⟩, xs, xb⟩ := hx; go_simp; first | rfl | (go_at_call 24; refine (check_ok p f w hp hf hw h _).mono ?_; rintro e w1 ⟨rfl, hb⟩; exact ⟨rfl, keep33 hb ⟨⟨x0, x1, x2⟩, ⟨x3, x4, x5⟩, ⟨x6, x7, x8⟩, xs, xb⟩ xs (by omega)⟩) | (go_at_call 25; refine (may_ok p f w hp hf hw h _).mono ?_; rintro e w1 ⟨rfl, hb⟩; exact ⟨rfl, keep33 hb ⟨⟨x0, x1, x2⟩, ⟨x3, x4, x5⟩, ⟨x6, x7, x8⟩, xs, xb⟩ xs (by omega)⟩) | (go_at_call 26; refine (size_ok p f w hp hf hw h _).mono ?_; rintro e w1 ⟨rfl, hb⟩; exact ⟨rfl, keep33 hb ⟨⟨x0, x1, x2⟩, ⟨x3, x4, x5⟩, ⟨x6, x7, x8⟩, xs, xb⟩ xs (by omega)⟩) | (go_at_call 27; refine (rsize_ok p f w hp hf hw h _).mono ?_; rintro e w1 ⟨rfl, hb⟩; exact ⟨rfl, keep33 hb ⟨⟨x0, x1, x2⟩, ⟨x3, x4, x5⟩, ⟨x6, x7, x8⟩, xs, xb⟩ xs (by omega)⟩) | (go_at_call 28; refine (hlives _).mono ?_; rintro e w1 ⟨rfl, hb⟩; exact ⟨rfl, keep33 hb ⟨⟨x0, x1, x2⟩, ⟨x3, x4, x5⟩, ⟨x6, x7, x8⟩, xs, xb⟩ xs (by omega)⟩))); (try simp only [Act.put, List.setIfInBounds_toArray, List.set_cons_zero, List.set_cons_succ]); go_big_quiet_on)))
  refine wpQuiet_nil ?_
  intro wz hz
  go_wp2
  go_ret
  exact ⟨rfl, hz.2.2.2.2⟩

end Go.Proofs.Ytpdnbkibnpkfbab
