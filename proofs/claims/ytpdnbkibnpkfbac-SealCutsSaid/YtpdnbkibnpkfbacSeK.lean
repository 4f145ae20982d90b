/- Layer 6: the law SealCuts, walked. -/
import Derived.Test.YtpdnbkibnpkfbacSeL
import Derived.Test.YtpdnbkibnpkfbacStrArg
namespace Go.Proofs.Ytpdnbkibnpkfbac
open Go.ChangeShapes Go.WideShapes Go.ChangeAt Go.RowKit

theorem StrRow.keep {W w : World} {a : Option Addr} {ps : List ByteArray} (h : StrRow W a ps) (hb : Below W.heap.size W w) : StrRow w a ps := by
  intro j hj
  obtain ⟨q, off, ha, hq, hc⟩ := h j hj
  exact ⟨q, off, ha, by have := hb.size; omega, Below.cellq hb q _ _ hq hc⟩

theorem cuts_long (a : Option Addr) (len cap : Nat) (h : 50 < len) (hm : len ≤ 9223372036854775807) (w : World) : Calls Try.prog 4 #[.slice a len cap] w fun e w' => e = .returned (.bool true) ∧ Below w.heap.size w w' := by
  have L := Lib.hid (se_lives w)
  go_enter Try.func4, Try.ntmps4
  go_wp2_with (go_at_call 9; refine L.out.mono ?_; rintro e1 w1 ⟨rfl, hb⟩)
  go_ret
  exact ⟨rfl, hb⟩

theorem cat_le (ps : List ByteArray) (k : Nat) (hk : k < ps.length) : ∀ x : ByteArray, x.data.toList = catB (ps.take k) → (x ++ ps.getD k default).data.toList = catB (ps.take (k + 1)) := by
  intro x hx
  rw [catB_snoc ps k hk, ← hx, ByteArray.data_append, Array.toList_append]

set_option maxHeartbeats 2000000 in
theorem cuts_any (a : Option Addr) (cap : Nat) (ps : List ByteArray) (hl : ps.length ≤ 50) (hps : ∀ j, (ps.getD j default).size ≤ maxLen) (w : World) (hrow : StrRow w a ps) : Calls Try.prog 4 #[.slice a ps.length cap] w fun e w' => e = .returned (.bool true) ∧ Below w.heap.size w w' := by
  have L := Lib.hid se_lives
  have HR := Lib.hid hrow
  have HP := Lib.hid hps
  have C0 : Hid (∀ w1 : World, Calls Try.prog 12 #[.slice none 0 0] w1 fun e w' => e = .returned (.int .u32 0) ∧ Below w1.heap.size w1 w') := by
    intro w1
    have := s_of [] none 0 (by simp) (fun j => Nat.zero_le _) w1 (fun j hj => absurd hj (by simp))
    rw [show 4294967295 - Crc.run 4294967295 (catB []) = 0 by exact of_nil []] at this
    exact this
  clear hrow hps
  go_enter Try.func4, Try.ntmps4
  go_wp2_with (go_at_call 12; refine (C0.out _).mono ?_; rintro e1 w1 ⟨rfl, hb0⟩)
  go_loopw [3, 4, 14] (fun al su i wr => ∃ (k : Nat) (x : ByteArray), k ≤ ps.length ∧ i = .int .i64 k ∧ al = .string x ∧ x.size ≤ 500 * k ∧ Hid (x.data.toList = catB (ps.take k)) ∧ su = .int .u32 ((4294967295 - Crc.run 4294967295 (catB (ps.take k)) : Nat) : Int) ∧ Below w.heap.size w wr) (fun _ _ i _ => ps.length - (intOf i).toNat)
  case atStart => exact ⟨0, ⟨#[]⟩, Nat.zero_le _, rfl, rfl, Nat.zero_le _, Lib.hid rfl, by rw [of_nil]; rfl, hb0⟩
  case round =>
    obtain ⟨k, x, hk, rfl, rfl, hx, HX, rfl, hbel⟩ := hrel
    have r0 := Crc.run_lt 4294967295 (catB (ps.take k)) (by decide)
    have szr := hbel.size
    by_cases hlt : k < ps.length
    · obtain ⟨q, off, rfl, hq, hc⟩ := HR.out k hlt
      have cc := Below.cellq hbel q _ _ hq hc
      have HS : Hid (Crc.run 4294967295 (catB (ps.take (k + 1))) = Crc.run (Crc.run 4294967295 (catB (ps.take k))) (ps.getD k default).data.toList) := Lib.hid (by rw [catB_snoc ps k hlt, Crc.run_append])
      have HX2 : Hid ((x ++ ps.getD k default).data.toList = catB (ps.take (k + 1))) := Lib.hid (cat_le ps k hlt x HX.out)
      have hp := HP.out k
      unfold maxLen at hp
      generalize ps.getD k default = p at *
      generalize Crc.run 4294967295 (catB (ps.take k)) = r at *
      have C := s_more (4294967295 - r) (by omega) p (by unfold maxLen; omega) wr
      rw [show 4294967295 - (4294967295 - r) = r by omega] at C
      have CH := Lib.hid C
      have BH := Lib.hid hbel
      have hltI : (k : Int) < (ps.length : Int) := by omega
      clear C hbel hc hq HX
      by_cases h5 : 500 < p.size
      · have LW := Lib.hid (L.out wr)
        go_wp2_with (go_at_call 9; refine LW.out.mono ?_; rintro e w2 ⟨rfl, hb2⟩)
        go_ret
        exact ⟨rfl, Below.step BH.out hb2 szr⟩
      · have hxp : (x ++ p).size ≤ 500 * (k + 1) := by rw [ByteArray.size_append]; omega
        have HXP := Lib.hid hxp
        clear hxp
        go_wp2_with (go_at_call 14; refine CH.out.mono ?_; rintro e w2 ⟨rfl, hb2⟩)
        go_roundw
        case rel => exact ⟨k + 1, x ++ p, by omega, by go_num, rfl, HXP.out, HX2, by rw [HS.out], Below.step BH.out hb2 szr⟩
        case measure => simp [intOf]; omega
    · obtain rfl : k = ps.length := by omega
      have e : ps.take ps.length = ps := List.take_length
      have hX := HX.out
      rw [e] at hX ⊢
      have O1 := Lib.hid (s_of ps a cap (by omega) HP.out wr (HR.out.keep hbel))
      have R1 := fun w' => r_of x (by unfold maxLen; omega) w'
      rw [hX] at R1
      have R2 := Lib.hid R1
      have BH := Lib.hid hbel
      generalize 4294967295 - Crc.run 4294967295 (catB ps) = q0 at *
      clear hbel HX hX e R1
      go_wp2_with fail
      refine O1.out.mono ?_
      rintro e1 w2 ⟨rfl, hb2⟩
      go_wp2_with fail
      refine (R2.out _).mono ?_
      rintro e1 w3 ⟨rfl, rfl⟩
      go_wp2_with fail
      refine (R2.out _).mono ?_
      rintro e1 w3 ⟨rfl, rfl⟩
      go_wp2_with fail
      refine (L.out _).mono ?_
      rintro e1 w3 ⟨rfl, hb3⟩
      go_wp2
      go_ret
      have z2 := hb2.size
      exact ⟨rfl, Below.step (Below.step BH.out hb2 szr) hb3 (by omega)⟩

theorem cuts_law (a : Option Addr) (cap : Nat) (ps : List ByteArray) (hl : ps.length ≤ 9223372036854775807) (hps : ∀ j, (ps.getD j default).size ≤ maxLen) (w : World) (hrow : StrRow w a ps) : Calls Try.prog 4 #[.slice a ps.length cap] w fun e w' => e = .returned (.bool true) ∧ Below w.heap.size w w' := by
  by_cases h : 50 < ps.length
  · exact cuts_long a _ cap h hl w
  · exact cuts_any a cap ps (by omega) hps w hrow

end Go.Proofs.Ytpdnbkibnpkfbac
