/- Layer 6: the law SealFinds, walked. -/
import Derived.Test.YtpdnbkibnpkfbacSeF
namespace Go.Proofs.Ytpdnbkibnpkfbac
open Go.ChangeShapes Go.WideShapes Go.ChangeAt Go.RowKit

theorem finds_long (s : ByteArray) (a x : Int) (h : 5000 < s.size) (h1 : s.size ≤ 140737488351232) (w : World) : Calls Try.prog 5 #[.string s, .int .i64 a, .int .u32 x] w fun e w' => e = .returned (.bool true) ∧ Below w.heap.size w w' := by
  have L := Lib.hid (se_lives w)
  go_enter Try.func5, Try.ntmps5
  go_wp2_with (go_at_call 9; refine L.out.mono ?_; rintro e1 w1 ⟨rfl, hb⟩)
  go_ret
  exact ⟨rfl, hb⟩

theorem opE_seal (s : ByteArray) : opE ⟨(sealL s.data.toList).toArray⟩ = 0 := by
  unfold opE
  have e : (⟨(sealL s.data.toList).toArray⟩ : ByteArray).size = s.size + 4 := by
    show (sealL s.data.toList).toArray.size = _
    rw [List.size_toArray, Crc.sealL_len]; simp
  rw [if_neg (by omega)]
  have b : opB (sealL s.data.toList) = true := by
    unfold opB
    rw [Crc.seal_take]; simp
  show (if opB (sealL s.data.toList) = true then (0 : Int) else 10) = 0
  rw [if_pos b]

theorem opS_seal (s : ByteArray) : opS ⟨(sealL s.data.toList).toArray⟩ = s := by
  unfold opS
  have e : (⟨(sealL s.data.toList).toArray⟩ : ByteArray).size = s.size + 4 := by
    show (sealL s.data.toList).toArray.size = _
    rw [List.size_toArray, Crc.sealL_len]; simp
  rw [if_neg (by omega)]
  have b : opB (sealL s.data.toList) = true := by
    unfold opB
    rw [Crc.seal_take]; simp
  show (if opB (sealL s.data.toList) = true then _ else _) = s
  rw [if_pos b, cut_str, e]
  have := Crc.seal_take s.data.toList
  rw [Crc.sealL_len, Nat.add_sub_cancel] at this
  rw [Nat.add_sub_cancel]
  show (⟨((sealL s.data.toList).take s.size).toArray⟩ : ByteArray) = s
  rw [show s.size = s.data.toList.length by simp, this]

theorem opE_turn (s : ByteArray) (p w0 : Nat) (hp : p ≤ s.size) (hw : w0 < 4294967296) : (opE ⟨(Crc.turnL (sealL s.data.toList) p w0).toArray⟩ == 0) = (w0 == 0) := by
  have hL := Crc.sealL_len s.data.toList
  have hn : s.data.toList.length = s.size := by simp
  have hlen : (Crc.turnL (sealL s.data.toList) p w0).length = s.size + 4 := by
    unfold Crc.turnL
    rw [List.length_append, List.length_append, Crc.x4_len, List.length_take, List.length_drop, hL]; omega
  have e : (⟨(Crc.turnL (sealL s.data.toList) p w0).toArray⟩ : ByteArray).size = s.size + 4 := by
    show (Crc.turnL (sealL s.data.toList) p w0).toArray.size = _
    rw [List.size_toArray, hlen]
  have T := Crc.turn_iff s.data.toList p w0 (by omega) hw
  unfold opE
  rw [if_neg (by omega)]
  show ((if opB (Crc.turnL (sealL s.data.toList) p w0) = true then (0 : Int) else 10) == 0) = _
  unfold opB
  generalize Crc.turnL (sealL s.data.toList) p w0 = t at *
  by_cases c : w0 = 0
  · rw [if_pos (by simpa using T.2 c)]; simp [c]
  · rw [if_neg (by intro h; exact c (T.1 (by simpa using h)))]; simp [c]

theorem place_nat (a : Int) (n : Nat) (hn : n ≤ 5000) : ∃ p : Nat, p ≤ n ∧ wrap64 ((IntKind.u64.wrap a).tmod (n + 1)) = p := by
  have h0 : ∃ m : Nat, IntKind.u64.wrap a = m := by
    refine ⟨(IntKind.u64.wrap a).toNat, ?_⟩
    have : 0 ≤ IntKind.u64.wrap a := by unfold IntKind.wrap; simp [IntKind.bits, IntKind.signed]; omega
    omega
  obtain ⟨m, hm⟩ := h0
  rw [hm]
  have : (m : Int).tmod ((n : Int) + 1) = ((m % (n + 1) : Nat) : Int) := by
    rw [Int.tmod_eq_emod_of_nonneg (by omega)]; rfl
  rw [this]
  have hlt := Nat.mod_lt m (show 0 < n + 1 by omega)
  refine ⟨m % (n + 1), by omega, ?_⟩
  generalize m % (n + 1) = q at *
  unfold wrap64
  omega

set_option maxHeartbeats 1000000 in
theorem finds_any (s : ByteArray) (a : Int) (x : Nat) (hx : x < 4294967296) (h : s.size ≤ 5000) (w : World) : Calls Try.prog 5 #[.string s, .int .i64 a, .int .u32 x] w fun e w' => e = .returned (.bool true) ∧ Below w.heap.size w w' := by
  have S1 := Lib.hid (s_seal s (by omega))
  have hz : (⟨(sealL s.data.toList).toArray⟩ : ByteArray).size = s.size + 4 := by
    show (sealL s.data.toList).toArray.size = _
    rw [List.size_toArray, Crc.sealL_len]; simp
  have O1 := s_open_any ⟨(sealL s.data.toList).toArray⟩ (by omega)
  rw [opE_seal, opS_seal] at O1
  have O1 := Lib.hid O1
  have L := Lib.hid se_lives
  have TU0 : ∀ p, p ≤ s.size → ∀ w : World, Calls Try.prog 18 #[.string ⟨(sealL s.data.toList).toArray⟩, .int .i64 p, .int .u32 x] w fun e w' => e = .returned (.string ⟨(Crc.turnL (sealL s.data.toList) p x).toArray⟩) ∧ Below w.heap.size w w' :=
    fun p (hp : p ≤ s.size) => r_turn ⟨(sealL s.data.toList).toArray⟩ p x (by omega) (by omega) hx
  have TU := Lib.hid TU0
  clear TU0
  have EQ := Lib.hid (fun p (hp : p ≤ s.size) => opE_turn s p x hp hx)
  have O2 := Lib.hid (fun p (hp : p ≤ s.size) => s_open_any ⟨(Crc.turnL (sealL s.data.toList) p x).toArray⟩ (by
    show (Crc.turnL (sealL s.data.toList) p x).toArray.size ≤ _
    rw [List.size_toArray]
    have hL := Crc.sealL_len s.data.toList
    have hn : s.data.toList.length = s.size := by simp
    unfold Crc.turnL
    rw [List.length_append, List.length_append, Crc.x4_len, List.length_take, List.length_drop, hL]; omega))
  generalize (⟨(sealL s.data.toList).toArray⟩ : ByteArray) = t at *
  go_enter Try.func5, Try.ntmps5
  go_wp2_with fail
  refine (S1.out _).mono ?_
  rintro e w1 ⟨rfl, b1⟩
  go_wp2_with fail
  refine (O1.out _).mono ?_
  rintro e w2 ⟨rfl, b2⟩
  go_wp2_with fail
  obtain ⟨p, hp, ep⟩ := place_nat a s.size h
  rw [ep]
  have E2 := Lib.hid (EQ.out p hp)
  refine (TU.out p hp _).mono ?_
  rintro e w3 ⟨rfl, b3⟩
  have O3 := Lib.hid (O2.out p hp)
  clear O2 TU EQ
  generalize Crc.turnL (sealL s.data.toList) p x = tt at *
  generalize (⟨tt.toArray⟩ : ByteArray) = tb at *
  generalize opE tb = er at *
  generalize opS tb = sr at *
  go_wp2_with fail
  refine (O3.out _).mono ?_
  rintro e w4 ⟨rfl, b4⟩
  have ER : er = 0 ↔ (x : Int) = 0 := by
    have := E2.out
    rw [Bool.eq_iff_iff] at this
    simp only [beq_iff_eq] at this
    omega
  have z1 := b1.size
  have z2 := b2.size
  have z3 := b3.size
  have z4 := b4.size
  by_cases c : (x : Int) = 0
  · have c2 := ER.2 c
    subst c2
    rw [c] at *
    clear ER E2
    go_wp2_with fail
    refine (L.out _).mono ?_
    rintro e w5 ⟨rfl, b5⟩
    go_wp2
    go_ret
    exact ⟨rfl, Below.step (Below.step (Below.step (Below.step b1 b2 z1) b3 (by omega)) b4 (by omega)) b5 (by omega)⟩
  · have c2 : ¬ er = 0 := fun h => c (ER.1 h)
    have EE : (er == 0) = ((x : Int) == 0) := by rw [beq_eq_false_iff_ne.2 c, beq_eq_false_iff_ne.2 c2]
    clear ER E2
    go_wp2_with fail
    · refine (L.out _).mono ?_
      rintro e w5 ⟨rfl, b5⟩
      go_wp2
      go_ret
      exact ⟨rfl, Below.step (Below.step (Below.step (Below.step b1 b2 z1) b3 (by omega)) b4 (by omega)) b5 (by omega)⟩

theorem finds_law (s : ByteArray) (a x : Int) (hx : (Lit.int .u32 x).wf = true) (h1 : s.size ≤ 140737488351232) (w : World) : Calls Try.prog 5 #[.string s, .int .i64 a, .int .u32 x] w fun e w' => e = .returned (.bool true) ∧ Below w.heap.size w w' := by
  have hb := bounds_u32 hx
  obtain ⟨n, rfl⟩ := Int.eq_ofNat_of_zero_le hb.1
  by_cases h : 5000 < s.size
  · exact finds_long s a n h h1 w
  · exact finds_any s a n (by omega) (by omega) w

end Go.Proofs.Ytpdnbkibnpkfbac
