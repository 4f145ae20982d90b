/- The law StackTurns: the walk. -/
import Derived.Test.YtpdnbkibnpkfbabStkD
import Derived.Test.YtpdnbkibnpkfbabArgs
namespace Go.Proofs.Ytpdnbkibnpkfbab
open Go.ChangeShapes Go.WideShapes Go.ChangeAt Go.RowKit

theorem take_step (zs : List Int) (k : Nat) (h : k < zs.length) : zs.take (k + 1) = zs.take k ++ [zs.getD k 0] := by
  rw [List.take_succ_eq_append_getElem h]; simp [List.getD, h]

/-- the stack in a world of the walk -/
def TurnRel (W wr : World) (b : Nat) (xs : List Int) (room : Int) (lost : Bool) : Prop :=
  ∃ g high, Stk 58 wr b g xs room high lost ∧ 0 ≤ high ∧ high ≤ 5000 ∧ W.heap.size ≤ b ∧ (∀ k, g = some k → W.heap.size ≤ k) ∧ Fr (fun _ => False) W wr

theorem TurnRel.below {W wr : World} {b : Nat} {xs : List Int} {room : Int} {lost : Bool} (h : TurnRel W wr b xs room lost) : Below W.heap.size W wr := by
  obtain ⟨g, high, _, _, _, _, _, hf⟩ := h
  exact hf.below (Nat.le_refl _) (fun _ _ h => h)

/-- a call of Push that fits -/
theorem turn_push {W wr : World} {b : Nat} {xs : List Int} {room : Int} {lost : Bool} (h : TurnRel W wr b xs room lost) (hr : (xs.length : Int) < room) (hl : room ≤ 256) (a : Int) :
    Calls Try.prog 15 #[.pointer (some ⟨b, 0, none⟩), .int .i64 a] wr fun e w' => e = .returned (.bool true) ∧ TurnRel W w' b (xs ++ [a]) room lost := by
  obtain ⟨g, high, hs, h0, h1, hb, hg, hf⟩ := h
  refine (push_room hs hr (by omega) ⟨h0, h1⟩ a).mono ?_
  rintro e w' ⟨rfl, g', hs', hw', hf'⟩
  refine ⟨rfl, some g', mx high (xs.length + 1), hs', by unfold mx; split <;> omega, by unfold mx; split <;> omega, hb, fun k hk => ?_, hf.trans hf' (fun q hq h => ?_)⟩
  · cases hk
    rcases hw' with h | h
    · exact hg _ h
    · have := hf.size; omega
  · rcases h with h | h
    · omega
    · have := hg _ h; omega

theorem turn_full {W wr : World} {b : Nat} {xs : List Int} {room : Int} {lost : Bool} (h : TurnRel W wr b xs room lost) (hr : (xs.length : Int) = room) (a : Int) :
    Calls Try.prog 15 #[.pointer (some ⟨b, 0, none⟩), .int .i64 a] wr fun e w' => e = .returned (.bool false) ∧ TurnRel W w' b xs room true := by
  obtain ⟨g, high, hs, h0, h1, hb, hg, hf⟩ := h
  refine (push_full hs hr a).mono ?_
  rintro e w' ⟨rfl, hs', hf'⟩
  exact ⟨rfl, g, high, hs', h0, h1, hb, hg, hf.trans hf' (fun q hq h => by omega)⟩

theorem turn_pop {W wr : World} {b : Nat} {ys : List Int} {a room : Int} {lost : Bool} (h : TurnRel W wr b (ys ++ [a]) room lost) (hl : ys.length ≤ 5000) :
    Calls Try.prog 12 #[.pointer (some ⟨b, 0, none⟩)] wr fun e w' => e = .returned (.tuple #[.int .i64 a, .bool true]) ∧ TurnRel W w' b ys room lost := by
  obtain ⟨g, high, hs, h0, h1, hb, hg, hf⟩ := h
  refine (pop_some hs hl).mono ?_
  rintro e w' ⟨rfl, g', hs', hw', hf'⟩
  refine ⟨rfl, g', high, hs', h0, h1, hb, fun k hk => ?_, hf.trans hf' (fun q hq h => by omega)⟩
  rcases hw' k hk with h | h
  · exact hg _ h
  · have := hf.size; omega

theorem turn_end {W wr : World} {b : Nat} {room : Int} {lost : Bool} (h : TurnRel W wr b [] room lost) :
    Calls Try.prog 12 #[.pointer (some ⟨b, 0, none⟩)] wr fun e w' => e = .returned (.tuple #[.int .i64 0, .bool false]) ∧ wr = w' := by
  obtain ⟨g, high, hs, h0, h1, hb, hg, hf⟩ := h
  exact pop_none hs

theorem turn_lost {W wr : World} {b : Nat} {xs : List Int} {room : Int} {lost : Bool} (h : TurnRel W wr b xs room lost) :
    Calls Try.prog 19 #[.pointer (some ⟨b, 0, none⟩)] wr fun e w' => e = .returned (.bool lost) ∧ wr = w' := by
  obtain ⟨g, high, hs, h0, h1, hb, hg, hf⟩ := h
  exact lost_any hs

theorem turns_long (r : Int) (a : Option Addr) (len cap : Nat) (h : 500 < len) (hm : len ≤ 9223372036854775807) (W : World) :
    Calls Try.prog 4 #[.int .u8 r, .slice a len cap] W fun e W' => e = .returned (.bool true) ∧ Below W.heap.size W W' := by
  go_enter Try.func4, Try.ntmps4
  go_wp2_with (go_at_call 11; refine (slives _).mono ?_; rintro e w1 ⟨rfl, hb⟩)
  go_ret
  exact ⟨rfl, hb⟩

/-- New, as the law calls it -/
theorem turn_new (R : Nat) (hR : R < 256) (W : World) : Calls Try.prog 9 #[.int .i64 ((R : Int) + 1)] W fun e W' => ∃ b, e = .returned (.tuple #[.pointer (some ⟨b, 0, none⟩), .int .i64 0]) ∧ TurnRel W W' b [] ((R : Int) + 1) false := by
  have N := new_ok (R + 1) (by omega) (by omega) W
  rw [show ((R + 1 : Nat) : Int) = (R : Int) + 1 from by omega] at N
  refine N.mono ?_
  rintro e w' ⟨b, g, rfl, hs, hb, hg, hf⟩
  rw [show ((R + 1 : Nat) : Int) = (R : Int) + 1 from by omega] at hs
  exact ⟨b, rfl, some g, 0, hs, by omega, by omega, hb, fun k hk => by cases hk; exact hg, hf⟩

set_option maxHeartbeats 4000000 in
theorem turns_short (R : Nat) (hR : R < 256) (a : Option Addr) (len cap : Nat) (zs : List Int) (h : len ≤ 500) (W : World) (hrow : IntRow .i64 W a len cap zs) :
    Calls Try.prog 4 #[.int .u8 R, .slice a len cap] W fun e W' => e = .returned (.bool true) ∧ Below W.heap.size W W' := by
  have HR := Lib.hid hrow
  have TN := Lib.hid (turn_new R hR W)
  have hcl : len ≤ cap := hrow.lc
  have hcm : cap ≤ 9223372036854775807 := by have := hrow.cm; unfold maxLen at this; omega
  clear hrow
  have cell : Hid (∀ wr, Below W.heap.size W wr → ∀ j, j < len → ∃ q off, a = some ⟨q, off, none⟩ ∧ wr.cell? ⟨q, off + j, none⟩ = some (.int .i64 (zs.getD j 0))) := by
    intro wr hb j hj
    obtain ⟨q, off, ha, hq, hc⟩ := HR.out.at_ j hj
    exact ⟨q, off, ha, (hb.cell (p := ⟨q, off + j, none⟩) hq).trans hc⟩
  have ZL : Hid (zs.length = len) := HR.out.length
  clear HR
  go_enter Try.func4, Try.ntmps4
  go_wp2_with fail
  refine (TN.out).mono ?_
  rintro e w1 ⟨b, rfl, hs⟩
  clear TN
  go_wp2
  go_loopw [7, 30] (fun n i wr => ∃ k : Nat, k ≤ len ∧ i = .int .i64 k ∧ n = .int .i64 (min k (R + 1) : Nat) ∧ TurnRel W wr b (zs.take (min k (R + 1))) ((R : Int) + 1) (decide (R + 1 < k))) (fun _ i _ => len - (intOf i).toNat)
  case atStart => exact ⟨0, Nat.zero_le _, rfl, by simp, by simpa using hs⟩
  case round =>
    clear hs
    obtain ⟨k, hk, rfl, rfl, hs⟩ := hrel
    have hzl := ZL.out
    by_cases hlt : k < len
    · obtain ⟨q, off, rfl, hc⟩ := cell.out wr hs.below k hlt
      have hltI : (k : Int) < (len : Int) := by omega
      by_cases hr : k < R + 1
      · have e1 : min k (R + 1) = k := by omega
        have e2 : min (k + 1) (R + 1) = k + 1 := by omega
        rw [e1] at hs ⊢
        have hd : decide (R + 1 < k) = false := by simp; omega
        have hd2 : decide (R + 1 < k + 1) = false := by simp; omega
        rw [hd] at hs
        have P := Lib.hid (turn_push hs (by simp; omega) (by omega) (zs.getD k 0))
        have E : Hid (zs.take k ++ [zs.getD k 0] = zs.take (k + 1)) := (take_step zs k (by omega)).symm
        clear hs hzl e1 hd
        go_wp2_with (go_at_call 15; refine (P.out).mono ?_; rintro e w2 ⟨rfl, hs⟩)
        go_roundw
        case rel => exact ⟨k + 1, by omega, by go_num, by rw [e2]; go_num, by rw [e2, hd2, ← E.out]; exact hs⟩
        case measure => simp [intOf]; omega
      · have e1 : min k (R + 1) = R + 1 := by omega
        have e2 : min (k + 1) (R + 1) = R + 1 := by omega
        rw [e1] at hs ⊢
        have hd2 : decide (R + 1 < k + 1) = true := by simp; omega
        have P := Lib.hid (turn_full hs (by simp; omega) (zs.getD k 0))
        clear hs hzl e1
        go_wp2_with (go_at_call 15; refine (P.out).mono ?_; rintro e w2 ⟨rfl, hs⟩)
        go_roundw
        case rel => exact ⟨k + 1, by omega, by go_num, by rw [e2]; go_num, by rw [e2, hd2]; exact hs⟩
        case measure => simp [intOf]; omega
    · obtain rfl : len = k := by omega
      clear hlt hk
      by_cases hr : len ≤ R + 1
      · have e1 : min len (R + 1) = len := by omega
        have hd : decide (R + 1 < len) = false := by simp; omega
        rw [hd, e1] at hs
        rw [e1]
        clear e1 hd
        have hrI : (len : Int) ≤ (R : Int) + 1 := by omega
        have LO := Lib.hid (turn_lost hs)
        go_wp2_with (go_at_call 19; refine (LO.out).mono ?_; rintro e w2 ⟨rfl, rfl⟩)
        clear LO
        obtain ⟨wo, rfl⟩ : ∃ wo : World, wo = wr := ⟨_, rfl⟩
        go_loopw [10] (fun i wr => ∃ j : Nat, j ≤ len ∧ i = .int .i64 ((j : Int) - 1) ∧ TurnRel W wr b (zs.take j) ((R : Int) + 1) false) (fun i _ => (intOf i + 1).toNat)
        case atStart => exact ⟨len, Nat.le_refl _, by go_num, hs⟩
        case round =>
          clear hs
          obtain ⟨j, hj, rfl, hs⟩ := hrel
          cases j with
          | zero =>
            have TE := Lib.hid (turn_end (by simpa using hs))
            have SL := Lib.hid (slives wr)
            have hB := hs.below
            clear hs
            go_wp2_with (first | (go_at_call 12; refine (TE.out).mono ?_; rintro e w2 ⟨rfl, rfl⟩) | (go_at_call 11; refine (SL.out).mono ?_; rintro e w3 ⟨rfl, hb3⟩))
            go_ret
            exact ⟨rfl, hB.trans (hb3.mono hB.size)⟩
          | succ j =>
            obtain ⟨q, off, rfl, hc⟩ := cell.out wr hs.below j (by omega)
            rw [take_step zs j (by omega)] at hs
            have PO := Lib.hid (turn_pop hs (by simp; omega))
            have CE : Hid (∀ w2, Below W.heap.size W w2 → w2.cell? ⟨q, off + j, none⟩ = some (.int .i64 (zs.getD j 0))) := by
              intro w2 hb2
              obtain ⟨q', off', ha, hc'⟩ := cell.out w2 hb2 j (by omega)
              cases ha
              exact hc'
            have i1 : ((j : Int) + 1 - 1).toNat = j := by omega
            have i2 : (j : Int) < (len : Int) := by omega
            clear hs hc
            go_wp2_with (go_at_call 12; refine (PO.out).mono ?_; rintro e w2 ⟨rfl, hs⟩; have hc := CE.out w2 hs.below)
            go_roundw
            case rel => exact ⟨j, by omega, by go_num, hs⟩
            case measure => first | (simp [intOf]; done) | (simp [intOf]; omega)
      · have e1 : min len (R + 1) = R + 1 := by omega
        have hd : decide (R + 1 < len) = true := by simp; omega
        rw [hd, e1] at hs
        rw [e1]
        clear e1 hd
        have hrI : (R : Int) + 1 < (len : Int) := by omega
        have LO := Lib.hid (turn_lost hs)
        go_wp2_with (go_at_call 19; refine (LO.out).mono ?_; rintro e w2 ⟨rfl, rfl⟩)
        clear LO
        obtain ⟨wo, rfl⟩ : ∃ wo : World, wo = wr := ⟨_, rfl⟩
        go_loopw [10] (fun i wr => ∃ j : Nat, j ≤ (R + 1) ∧ i = .int .i64 ((j : Int) - 1) ∧ TurnRel W wr b (zs.take j) ((R : Int) + 1) true) (fun i _ => (intOf i + 1).toNat)
        case atStart => exact ⟨(R + 1), Nat.le_refl _, by go_num, hs⟩
        case round =>
          clear hs
          obtain ⟨j, hj, rfl, hs⟩ := hrel
          cases j with
          | zero =>
            have TE := Lib.hid (turn_end (by simpa using hs))
            have SL := Lib.hid (slives wr)
            have hB := hs.below
            clear hs
            go_wp2_with (first | (go_at_call 12; refine (TE.out).mono ?_; rintro e w2 ⟨rfl, rfl⟩) | (go_at_call 11; refine (SL.out).mono ?_; rintro e w3 ⟨rfl, hb3⟩))
            go_ret
            exact ⟨rfl, hB.trans (hb3.mono hB.size)⟩
          | succ j =>
            obtain ⟨q, off, rfl, hc⟩ := cell.out wr hs.below j (by omega)
            rw [take_step zs j (by omega)] at hs
            have PO := Lib.hid (turn_pop hs (by simp; omega))
            have CE : Hid (∀ w2, Below W.heap.size W w2 → w2.cell? ⟨q, off + j, none⟩ = some (.int .i64 (zs.getD j 0))) := by
              intro w2 hb2
              obtain ⟨q', off', ha, hc'⟩ := cell.out w2 hb2 j (by omega)
              cases ha
              exact hc'
            have i1 : ((j : Int) + 1 - 1).toNat = j := by omega
            have i2 : (j : Int) < (len : Int) := by omega
            clear hs hc
            go_wp2_with (go_at_call 12; refine (PO.out).mono ?_; rintro e w2 ⟨rfl, hs⟩; have hc := CE.out w2 hs.below)
            go_roundw
            case rel => exact ⟨j, by omega, by go_num, hs⟩
            case measure => first | (simp [intOf]; done) | (simp [intOf]; omega)

theorem turns_any (r : Int) (wr : (Lit.int .u8 r).wf = true) (a : Option Addr) (len cap : Nat) (zs : List Int) (W : World) (hrow : IntRow .i64 W a len cap zs) :
    Calls Try.prog 4 #[.int .u8 r, .slice a len cap] W fun e W' => e = .returned (.bool true) ∧ Below W.heap.size W W' := by
  have hr := bounds_u8 wr
  obtain ⟨R, rfl⟩ := Int.eq_ofNat_of_zero_le hr.1
  by_cases h : len ≤ 500
  · exact turns_short R (by omega) a len cap zs h W hrow
  · exact turns_long R a len cap (by omega) (by have := hrow.cm; have := hrow.lc; unfold maxLen at *; omega) W

end Go.Proofs.Ytpdnbkibnpkfbab
