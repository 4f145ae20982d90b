/- The law HeaderBack at a valid header: the walk. -/
import Derived.Test.YtpdnbkibnpkfbabHdrO
namespace Go.Proofs.Ytpdnbkibnpkfbab
open Go.ChangeShapes Go.WideShapes Go.ChangeAt Go.RowKit

set_option maxHeartbeats 3000000 in
theorem back_ok (p f w : Int) (hp : 0 ≤ p) (hf : 0 ≤ f) (hw : 0 ≤ w) (h : p + f + w ≤ 255) (x : Int) (h0 : 0 ≤ x) (h1 : x < 18446744073709551616) (W : World) :
    Calls Try.prog 8 #[hdr p f w, .int .u64 x] W fun e W' => e = .returned (.bool true) ∧ Below W.heap.size W W' := by
  have hE : Eff p f w p f w := ⟨.inl ⟨⟨hp, hf, hw, h⟩, rfl, rfl, rfl⟩⟩
  have hV : HW p f w := ⟨by omega, by omega, by omega⟩
  have neq1 := hdr_neq p f w
  have neq2 := fun (x y : Operand) (W : World) => hdr_guardn x y p f w W
  have H : x % 256 + x / 256 % 256 + x / 65536 % 256 ≤ 255 ∧ hw64 (x % 256) (x / 256 % 256) (x / 65536 % 256) = x ∨ Hid (∀ W, Calls Try.prog 22 #[.int .u64 x] W fun e W' => e = .returned (.tuple #[hdr 0 0 0, .int .i64 16]) ∧ Below W.heap.size W W') := by
    by_cases c1 : 255 < x % 256 + x / 256 % 256 + x / 65536 % 256
    · exact .inr (take_big x h0 h1 c1)
    by_cases c2 : hw64 (x % 256) (x / 256 % 256) (x / 65536 % 256) = x
    · exact .inl ⟨by omega, c2⟩
    · exact .inr (take_other x h0 h1 (by omega) c2)
  rcases H with ⟨c1, c2⟩ | H
  · have H : Hid ((hw64 (x % 256) (x / 256 % 256) (x / 65536 % 256) != x) = false) := by show _ = _; rw [bne_eq_false_iff_eq]; exact c2
    have T := Lib.hid (take_valid x h0 h1 c1 c2)
    have b1 : 0 ≤ x % 256 := by omega
    have b2 : 0 ≤ x / 256 % 256 := by omega
    have b3 : 0 ≤ x / 65536 % 256 := by omega
    clear c2
    go_enter Try.func8, Try.ntmps8
    go_wp2_with fail
    refine (T.out _).mono ?_
    rintro e w1 ⟨rfl, hb⟩
    obtain ⟨k0, k1, k2, kl, kb⟩ := keep3 (B := W.heap.size) (b := W.heap.size) (W := W) (x := .int .i64 p) (y := .int .i64 f) (z := .int .i64 w) hb ⟨by simp, by simp, by simp, by simp, (Below.refl _ _).alloc (Nat.le_refl _) _⟩ (by simp) (by simp)
    clear hb
    go_wp2_with fail
    refine (put_ok (x % 256) (x / 256 % 256) (x / 65536 % 256) b1 b2 b3 c1 _).mono ?_
    rintro e w2 ⟨rfl, hb⟩
    have K1 := keep3 hb (B := W.heap.size) (b := W.heap.size) (W := W) (x := .int .i64 p) (y := .int .i64 f) (z := .int .i64 w) ⟨by rw [World.cell?_alloc_past _ _ _ kl]; exact k0, by rw [World.cell?_alloc_past _ _ _ kl]; exact k1, by rw [World.cell?_alloc_past _ _ _ kl]; exact k2, by simp; omega, kb.alloc (by omega) _⟩ (by simp; omega) (by simp; omega)
    clear k0 k1 k2 kl kb hb T b1 b2 b3 c1
    obtain ⟨k0, k1, k2, kl, kb⟩ := K1
    have H' := H.out
    clear H
    go_wp2_with fail
    clear H'
    refine (put_ok p f w hp hf hw h _).mono ?_
    rintro e w3 ⟨rfl, hb⟩
    have K1 := keep3 hb (B := W.heap.size) (b := W.heap.size) (W := W) (x := .int .i64 p) (y := .int .i64 f) (z := .int .i64 w) ⟨by first | exact k0 | (rw [World.cell?_alloc_past _ _ _ kl]; exact k0), by first | exact k1 | (rw [World.cell?_alloc_past _ _ _ kl]; exact k1), by first | exact k2 | (rw [World.cell?_alloc_past _ _ _ kl]; exact k2), by first | exact kl | (simp; omega), by first | exact kb | exact kb.alloc (by omega) _⟩ (by first | exact kl | (simp; omega)) (by first | omega | (simp; omega))
    clear k0 k1 k2 kl kb hb
    obtain ⟨k0, k1, k2, kl, kb⟩ := K1
    go_wp2_with fail
    refine (take_of p f w hp hf hw h _).mono ?_
    rintro e w4 ⟨rfl, hb⟩
    have K1 := keep3 hb ⟨k0, k1, k2, kl, kb⟩ kl (by omega)
    clear k0 k1 k2 kl kb hb
    obtain ⟨k0, k1, k2, kl, kb⟩ := K1
    go_wp2
    have q0 : (w4.alloc (.cells #[.int .i64 p, .int .i64 f, .int .i64 w] 41)).cell? ⟨W.heap.size, 0, none⟩ = some (.int .i64 p) := by rw [World.cell?_alloc_past _ _ _ kl]; exact k0
    have q1 : (w4.alloc (.cells #[.int .i64 p, .int .i64 f, .int .i64 w] 41)).cell? ⟨W.heap.size, 1, none⟩ = some (.int .i64 f) := by rw [World.cell?_alloc_past _ _ _ kl]; exact k1
    have q2 : (w4.alloc (.cells #[.int .i64 p, .int .i64 f, .int .i64 w] 41)).cell? ⟨W.heap.size, 2, none⟩ = some (.int .i64 w) := by rw [World.cell?_alloc_past _ _ _ kl]; exact k2
    have ql : W.heap.size < (w4.alloc (.cells #[.int .i64 p, .int .i64 f, .int .i64 w] 41)).heap.size := by simp; omega
    have qb : Below W.heap.size W (w4.alloc (.cells #[.int .i64 p, .int .i64 f, .int .i64 w] 41)) := kb.alloc (by omega) _
    clear k0 k1 k2 kl kb
    go_loopw [13, 14] (fun n k wr => ∃ kind : Nat, 1 ≤ kind ∧ kind ≤ 4 ∧ k = .int .i64 kind ∧ n = .int .i64 (startOf p f w kind) ∧ wr.cell? ⟨W.heap.size, 0, none⟩ = some (.int .i64 p) ∧ wr.cell? ⟨W.heap.size, 1, none⟩ = some (.int .i64 f) ∧ wr.cell? ⟨W.heap.size, 2, none⟩ = some (.int .i64 w) ∧ W.heap.size < wr.heap.size ∧ Below W.heap.size W wr) (fun _ k _ => 4 - (intOf k).toNat)
    case atStart => exact ⟨1, by omega, by omega, rfl, rfl, q0, q1, q2, ql, qb⟩
    case round =>
      clear q0 q1 q2 ql qb
      obtain ⟨kind, hk1, hk4, rfl, rfl, q0, q1, q2, ql, qb⟩ := hrel
      obtain ⟨s1, s2⟩ := startOf_bd (kind : Int) hp hf hw h
      by_cases hlt : kind ≤ 3
      · obtain ⟨c1, c2⟩ := countOf_bd (kind : Int) hp hf hw h
        have fb := firstOf_bd (p := p) (f := f) (w := w) (kind : Int) hp hf hw
        obtain ⟨fb1, fb2⟩ := fb
        go_wp2_with fail
        refine (first_any hE hV kind _).mono ?_
        rintro e w5 ⟨rfl, hb⟩
        have K1 := keep3 hb ⟨q0, q1, q2, ql, qb⟩ ql (by omega)
        clear q0 q1 q2 ql qb hb
        obtain ⟨q0, q1, q2, ql, qb⟩ := K1
        go_wp2_with fail
        refine (count_any hE hV kind _).mono ?_
        rintro e w6 ⟨rfl, hb⟩
        have K1 := keep3 hb ⟨q0, q1, q2, ql, qb⟩ ql (by omega)
        clear q0 q1 q2 ql qb hb
        obtain ⟨q0, q1, q2, ql, qb⟩ := K1
        go_wp2
        go_loopw [13, 75] (fun n i wr => ∃ j : Nat, (j : Int) ≤ countOf p f w kind ∧ i = .int .i64 j ∧ n = .int .i64 (startOf p f w kind + j) ∧ wr.cell? ⟨W.heap.size, 0, none⟩ = some (.int .i64 p) ∧ wr.cell? ⟨W.heap.size, 1, none⟩ = some (.int .i64 f) ∧ wr.cell? ⟨W.heap.size, 2, none⟩ = some (.int .i64 w) ∧ W.heap.size < wr.heap.size ∧ Below W.heap.size W wr) (fun _ i _ => (countOf p f w kind).toNat - (intOf i).toNat)
        case atStart => exact ⟨0, c1, rfl, by simp, q0, q1, q2, ql, qb⟩
        case round =>
          clear q0 q1 q2 ql qb
          obtain ⟨j, hj, rfl, rfl, q0, q1, q2, ql, qb⟩ := hrel
          by_cases hji : (j : Int) < countOf p f w kind
          · have hs := kind_seg hp hf hw kind j (by omega) (by omega) (by omega) hji
            have S1 := Lib.hid hs
            have hkb : (kindOf p f w (firstOf p f kind + j) != (kind : Int)) = false := by rw [bne_eq_false_iff_eq]; exact hs
            clear hs
            go_wp2_with fail
            refine (kind_any hE hV _ _).mono ?_
            rintro e w7 ⟨rfl, hb⟩
            have K1 := keep3 hb ⟨q0, q1, q2, ql, qb⟩ ql (by omega)
            clear q0 q1 q2 ql qb hb
            obtain ⟨q0, q1, q2, ql, qb⟩ := K1
            go_wp2
            go_roundw
            case rel => exact ⟨j + 1, by omega, by go_num, by simp; omega, q0, q1, q2, ql, qb⟩
            case measure => simp [intOf]; omega
          · have hje : Hid ((j : Int) = countOf p f w kind) := by show _ = _; omega
            go_wp2
            go_roundw
            case rel => exact ⟨kind + 1, by omega, by omega, by go_num, by rw [hje.out]; simp [startOf_next p f w kind (by omega) (by omega)], q0, q1, q2, ql, qb⟩
            case measure => simp [intOf]; omega
      · obtain rfl : kind = 4 := by omega
        have e4 : startOf p f w ((4 : Nat) : Int) = 1 + p + f + w := by simp [startOf]; omega
        rw [e4]
        clear e4 s1 s2 hlt hk1 hk4
        have z1 : kindOf p f w (1 + p + f + w - 1) = 0 := by unfold kindOf; rw [if_pos (.inr (by omega))]
        have z2 : kindOf p f w (-1) = 0 := by unfold kindOf; rw [if_pos (.inl (by omega))]
        have Z1 := Lib.hid z1
        have Z2 := Lib.hid z2
        clear z1 z2
        go_wp2_with fail
        refine (size_ok p f w hp hf hw h _).mono ?_
        rintro e w5 ⟨rfl, hb⟩
        have K1 := keep3 hb ⟨q0, q1, q2, ql, qb⟩ ql (by omega)
        clear q0 q1 q2 ql qb hb
        obtain ⟨q0, q1, q2, ql, qb⟩ := K1
        go_wp2_with fail
        refine (kind_any hE hV _ _).mono ?_
        rw [Z1.out]
        rintro e w6 ⟨rfl, hb⟩
        have K1 := keep3 hb ⟨q0, q1, q2, ql, qb⟩ ql (by omega)
        clear q0 q1 q2 ql qb hb
        obtain ⟨q0, q1, q2, ql, qb⟩ := K1
        go_wp2_with fail
        refine (kind_any hE hV _ _).mono ?_
        rw [Z2.out]
        rintro e w7 ⟨rfl, hb⟩
        have K1 := keep3 hb ⟨q0, q1, q2, ql, qb⟩ ql (by omega)
        clear q0 q1 q2 ql qb hb
        obtain ⟨q0, q1, q2, ql, qb⟩ := K1
        go_wp2_with fail
        refine (hlives _).mono ?_
        rintro e w8 ⟨rfl, hb⟩
        have K1 := keep3 hb ⟨q0, q1, q2, ql, qb⟩ ql (by omega)
        go_wp2
        go_ret
        exact ⟨rfl, K1.2.2.2.2⟩
  · go_enter Try.func8, Try.ntmps8
    go_wp2_with fail
    refine (H.out _).mono ?_
    rintro e w2 ⟨rfl, hb⟩
    obtain ⟨k0, k1, k2, kl, kb⟩ := keep3 (B := W.heap.size) (b := W.heap.size) (W := W) (x := .int .i64 p) (y := .int .i64 f) (z := .int .i64 w) hb ⟨by simp, by simp, by simp, by simp, (Below.refl _ _).alloc (Nat.le_refl _) _⟩ (by simp) (by simp)
    clear hb H
    go_wp2_with fail
    refine (put_ok p f w hp hf hw h _).mono ?_
    rintro e w3 ⟨rfl, hb⟩
    have K1 := keep3 hb (B := W.heap.size) (b := W.heap.size) (W := W) (x := .int .i64 p) (y := .int .i64 f) (z := .int .i64 w) ⟨by first | exact k0 | (rw [World.cell?_alloc_past _ _ _ kl]; exact k0), by first | exact k1 | (rw [World.cell?_alloc_past _ _ _ kl]; exact k1), by first | exact k2 | (rw [World.cell?_alloc_past _ _ _ kl]; exact k2), by first | exact kl | (simp; omega), by first | exact kb | exact kb.alloc (by omega) _⟩ (by first | exact kl | (simp; omega)) (by first | omega | (simp; omega))
    clear k0 k1 k2 kl kb hb
    obtain ⟨k0, k1, k2, kl, kb⟩ := K1
    go_wp2_with fail
    refine (take_of p f w hp hf hw h _).mono ?_
    rintro e w4 ⟨rfl, hb⟩
    have K1 := keep3 hb ⟨k0, k1, k2, kl, kb⟩ kl (by omega)
    clear k0 k1 k2 kl kb hb
    obtain ⟨k0, k1, k2, kl, kb⟩ := K1
    go_wp2
    have q0 : (w4.alloc (.cells #[.int .i64 p, .int .i64 f, .int .i64 w] 41)).cell? ⟨W.heap.size, 0, none⟩ = some (.int .i64 p) := by rw [World.cell?_alloc_past _ _ _ kl]; exact k0
    have q1 : (w4.alloc (.cells #[.int .i64 p, .int .i64 f, .int .i64 w] 41)).cell? ⟨W.heap.size, 1, none⟩ = some (.int .i64 f) := by rw [World.cell?_alloc_past _ _ _ kl]; exact k1
    have q2 : (w4.alloc (.cells #[.int .i64 p, .int .i64 f, .int .i64 w] 41)).cell? ⟨W.heap.size, 2, none⟩ = some (.int .i64 w) := by rw [World.cell?_alloc_past _ _ _ kl]; exact k2
    have ql : W.heap.size < (w4.alloc (.cells #[.int .i64 p, .int .i64 f, .int .i64 w] 41)).heap.size := by simp; omega
    have qb : Below W.heap.size W (w4.alloc (.cells #[.int .i64 p, .int .i64 f, .int .i64 w] 41)) := kb.alloc (by omega) _
    clear k0 k1 k2 kl kb
    go_loopw [13, 14] (fun n k wr => ∃ kind : Nat, 1 ≤ kind ∧ kind ≤ 4 ∧ k = .int .i64 kind ∧ n = .int .i64 (startOf p f w kind) ∧ wr.cell? ⟨W.heap.size, 0, none⟩ = some (.int .i64 p) ∧ wr.cell? ⟨W.heap.size, 1, none⟩ = some (.int .i64 f) ∧ wr.cell? ⟨W.heap.size, 2, none⟩ = some (.int .i64 w) ∧ W.heap.size < wr.heap.size ∧ Below W.heap.size W wr) (fun _ k _ => 4 - (intOf k).toNat)
    case atStart => exact ⟨1, by omega, by omega, rfl, rfl, q0, q1, q2, ql, qb⟩
    case round =>
      clear q0 q1 q2 ql qb
      obtain ⟨kind, hk1, hk4, rfl, rfl, q0, q1, q2, ql, qb⟩ := hrel
      obtain ⟨s1, s2⟩ := startOf_bd (kind : Int) hp hf hw h
      by_cases hlt : kind ≤ 3
      · obtain ⟨c1, c2⟩ := countOf_bd (kind : Int) hp hf hw h
        have fb := firstOf_bd (p := p) (f := f) (w := w) (kind : Int) hp hf hw
        obtain ⟨fb1, fb2⟩ := fb
        go_wp2_with fail
        refine (first_any hE hV kind _).mono ?_
        rintro e w5 ⟨rfl, hb⟩
        have K1 := keep3 hb ⟨q0, q1, q2, ql, qb⟩ ql (by omega)
        clear q0 q1 q2 ql qb hb
        obtain ⟨q0, q1, q2, ql, qb⟩ := K1
        go_wp2_with fail
        refine (count_any hE hV kind _).mono ?_
        rintro e w6 ⟨rfl, hb⟩
        have K1 := keep3 hb ⟨q0, q1, q2, ql, qb⟩ ql (by omega)
        clear q0 q1 q2 ql qb hb
        obtain ⟨q0, q1, q2, ql, qb⟩ := K1
        go_wp2
        go_loopw [13, 75] (fun n i wr => ∃ j : Nat, (j : Int) ≤ countOf p f w kind ∧ i = .int .i64 j ∧ n = .int .i64 (startOf p f w kind + j) ∧ wr.cell? ⟨W.heap.size, 0, none⟩ = some (.int .i64 p) ∧ wr.cell? ⟨W.heap.size, 1, none⟩ = some (.int .i64 f) ∧ wr.cell? ⟨W.heap.size, 2, none⟩ = some (.int .i64 w) ∧ W.heap.size < wr.heap.size ∧ Below W.heap.size W wr) (fun _ i _ => (countOf p f w kind).toNat - (intOf i).toNat)
        case atStart => exact ⟨0, c1, rfl, by simp, q0, q1, q2, ql, qb⟩
        case round =>
          clear q0 q1 q2 ql qb
          obtain ⟨j, hj, rfl, rfl, q0, q1, q2, ql, qb⟩ := hrel
          by_cases hji : (j : Int) < countOf p f w kind
          · have hs := kind_seg hp hf hw kind j (by omega) (by omega) (by omega) hji
            have S1 := Lib.hid hs
            have hkb : (kindOf p f w (firstOf p f kind + j) != (kind : Int)) = false := by rw [bne_eq_false_iff_eq]; exact hs
            clear hs
            go_wp2_with fail
            refine (kind_any hE hV _ _).mono ?_
            rintro e w7 ⟨rfl, hb⟩
            have K1 := keep3 hb ⟨q0, q1, q2, ql, qb⟩ ql (by omega)
            clear q0 q1 q2 ql qb hb
            obtain ⟨q0, q1, q2, ql, qb⟩ := K1
            go_wp2
            go_roundw
            case rel => exact ⟨j + 1, by omega, by go_num, by simp; omega, q0, q1, q2, ql, qb⟩
            case measure => simp [intOf]; omega
          · have hje : Hid ((j : Int) = countOf p f w kind) := by show _ = _; omega
            go_wp2
            go_roundw
            case rel => exact ⟨kind + 1, by omega, by omega, by go_num, by rw [hje.out]; simp [startOf_next p f w kind (by omega) (by omega)], q0, q1, q2, ql, qb⟩
            case measure => simp [intOf]; omega
      · obtain rfl : kind = 4 := by omega
        have e4 : startOf p f w ((4 : Nat) : Int) = 1 + p + f + w := by simp [startOf]; omega
        rw [e4]
        clear e4 s1 s2 hlt hk1 hk4
        have z1 : kindOf p f w (1 + p + f + w - 1) = 0 := by unfold kindOf; rw [if_pos (.inr (by omega))]
        have z2 : kindOf p f w (-1) = 0 := by unfold kindOf; rw [if_pos (.inl (by omega))]
        have Z1 := Lib.hid z1
        have Z2 := Lib.hid z2
        clear z1 z2
        go_wp2_with fail
        refine (size_ok p f w hp hf hw h _).mono ?_
        rintro e w5 ⟨rfl, hb⟩
        have K1 := keep3 hb ⟨q0, q1, q2, ql, qb⟩ ql (by omega)
        clear q0 q1 q2 ql qb hb
        obtain ⟨q0, q1, q2, ql, qb⟩ := K1
        go_wp2_with fail
        refine (kind_any hE hV _ _).mono ?_
        rw [Z1.out]
        rintro e w6 ⟨rfl, hb⟩
        have K1 := keep3 hb ⟨q0, q1, q2, ql, qb⟩ ql (by omega)
        clear q0 q1 q2 ql qb hb
        obtain ⟨q0, q1, q2, ql, qb⟩ := K1
        go_wp2_with fail
        refine (kind_any hE hV _ _).mono ?_
        rw [Z2.out]
        rintro e w7 ⟨rfl, hb⟩
        have K1 := keep3 hb ⟨q0, q1, q2, ql, qb⟩ ql (by omega)
        clear q0 q1 q2 ql qb hb
        obtain ⟨q0, q1, q2, ql, qb⟩ := K1
        go_wp2_with fail
        refine (hlives _).mono ?_
        rintro e w8 ⟨rfl, hb⟩
        have K1 := keep3 hb ⟨q0, q1, q2, ql, qb⟩ ql (by omega)
        go_wp2
        go_ret
        exact ⟨rfl, K1.2.2.2.2⟩

end Go.Proofs.Ytpdnbkibnpkfbab
