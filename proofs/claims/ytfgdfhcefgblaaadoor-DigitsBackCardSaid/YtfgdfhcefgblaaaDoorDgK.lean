/- Digits (layer 4): the law DigitsBack. -/
import Derived.Test.YtfgdfhcefgblaaaDoorDgJ
namespace Go.Proofs.YtfgdfhcefgblaaaDoor
open Go.ChangeShapes Go.WideShapes Go.ChangeAt Go.RowKit

theorem pD_ng {n : Nat} : ngB (pD 10 n) = false := by
  have h := pD_all (B := 10) (by decide) (by decide) n
  have hp := pD_pos (B := 10) n
  cases e : pD 10 n with
  | nil => rw [e] at hp; simp at hp
  | cons c r =>
    rw [e, List.all_cons, Bool.and_eq_true] at h
    have h1 := h.1
    unfold ngB
    refine decide_eq_false fun h45 => ?_
    have h45 : c.toNat = 45 := h45
    unfold isD dv at h1
    rw [h45] at h1
    exact absurd h1 (by decide)

theorem pI_back (n : Int) (h0 : -9223372036854775808 ≤ n) (h1 : n ≤ 9223372036854775807) : riE (pI n) = 0 ∧ riV (pI n) = n := by
  by_cases h : n < 0
  · have e : pI n = 45 :: pD 10 n.natAbs := by unfold pI; rw [if_pos h]
    have g : ngB (pI n) = true := by rw [e]; rfl
    have b : bdy (pI n) = pD 10 n.natAbs := by unfold bdy; rw [g, if_pos rfl, e]; rfl
    obtain ⟨r1, r2⟩ := pD_rd (B := 10) (by decide) (by decide) n.natAbs (by omega)
    have E : riE (pI n) = 0 := by
      unfold riE
      rw [b, r1, r2, g, if_neg (by omega), if_pos rfl, if_neg (by omega)]
    refine ⟨E, ?_⟩
    unfold riV
    rw [E, if_pos rfl, g, if_pos rfl, b, r2]
    omega
  · have e : pI n = pD 10 n.toNat := by unfold pI; rw [if_neg h]
    have g : ngB (pI n) = false := by rw [e]; exact pD_ng
    have b : bdy (pI n) = pD 10 n.toNat := by unfold bdy; rw [g, e]; rfl
    obtain ⟨r1, r2⟩ := pD_rd (B := 10) (by decide) (by decide) n.toNat (by omega)
    have E : riE (pI n) = 0 := by
      unfold riE
      rw [b, r1, r2, g, if_neg (by simp)]
      rw [if_neg (by simp; omega)]
    refine ⟨E, ?_⟩
    unfold riV
    rw [E, if_pos rfl, g, b, r2]
    simp; omega

theorem ri_pI {l : List UInt8} (h : riE l = 0) : pI (riV l) = l ∧ -9223372036854775808 ≤ riV l ∧ riV l ≤ 9223372036854775807 := by
  have WY := ri_ways l
  have RB := rd_back (B := 10) (l := bdy l) (by decide) (by decide)
  rcases WY with ⟨_, _, e, _⟩ | ⟨_, _, e, _⟩ | ⟨_, _, _, e, _⟩ | ⟨_, _, _, e, _⟩ | ⟨hE, hg, hz, hb, _, hV⟩ | ⟨_, _, _, e, _⟩ | ⟨hE, hg, hb, _, hV⟩
  · omega
  · omega
  · omega
  · omega
  · obtain ⟨r1, r2⟩ := RB hE
    refine ⟨?_, by omega, by omega⟩
    rw [hV]
    unfold pI
    rw [if_pos (by omega), show (-((rdV 10 (bdy l) : Nat) : Int)).natAbs = rdV 10 (bdy l) by omega, r1]
    unfold bdy
    rw [hg, if_pos rfl]
    cases l with
    | nil => cases hg
    | cons c r =>
      have h45 : c.toNat = 45 := by unfold ngB at hg; exact of_decide_eq_true hg
      rw [show c = 45 from UInt8.toNat_inj.1 h45]; rfl
  · omega
  · obtain ⟨r1, r2⟩ := RB hE
    refine ⟨?_, by omega, by omega⟩
    rw [hV]
    unfold pI
    rw [if_neg (by omega), Int.toNat_natCast, r1]
    unfold bdy
    rw [hg]; rfl

/-- a call that answers with a text, the tables above -/
abbrev Tells (f : Nat) (v : Value) (t : ByteArray) (w : World) : Prop := ∀ w', Below w.heap.size w w' → Calls Tryd.prog f #[v] w' fun e w'' => e = .returned (.string t) ∧ Below w.heap.size w w''

theorem tells_of {f : Nat} {v : Value} {t : ByteArray} {w : World} (hT : Tab w) (h : ∀ w', Tab w' → Calls Tryd.prog f #[v] w' fun e w'' => e = .returned (.string t) ∧ Below w'.heap.size w' w'') : Hid (Tells f v t w) :=
  Lib.hid fun w' hb => (h w' ⟨tab_grow hT.1 hb, db_grow hT.2 hb⟩).mono fun e w'' ⟨h1, h2⟩ => ⟨h1, hb.trans (h2.mono hb.size)⟩

theorem text_of {s : ByteArray} {l : List UInt8} (h : l = s.data.toList) : (⟨l.toArray⟩ : ByteArray) = s := by
  apply ByteArray.ext
  rw [h]

set_option maxRecDepth 100000 in
set_option maxHeartbeats 4000000 in
theorem dback_law (n : Nat) (hn : n < 18446744073709551616) (m : Int) (hm0 : -9223372036854775808 ≤ m) (hm1 : m ≤ 9223372036854775807) (s : ByteArray) (hss : s.size ≤ maxLen) (w : World) (hT : Tab w) : Calls Tryd.prog 4 #[.int .u64 n, .int .i64 m, .string s] w fun e w' => e = .returned (.bool true) ∧ Below w.heap.size w w' := by
  have L := Lib.hid (fun w' (hb : Below w.heap.size w w') => (dlives w' (tab_grow hT.1 hb)).mono fun e w'' (h : _ ∧ _) => (⟨h.1, hb.trans (h.2.mono hb.size)⟩ : _ ∧ Below w.heap.size w w''))
  unfold maxLen at hss
  have HB := Below.refl w.heap.size w
  by_cases h : 300 < s.size
  · have hI : (300 : Int) < (s.size : Int) := by omega
    clear h hT
    go_enter Tryd.func4, Tryd.ntmps4
    go_wp2_with (go_at_call 7; refine (L.out _ (by assumption)).mono ?_; rintro e1 w2 ⟨rfl, hb⟩)
    go_ret
    exact ⟨rfl, hb⟩
  · have hI : ¬ (300 : Int) < (s.size : Int) := by omega
    have P10 : Hid (Tells 14 (.int .u64 n) ⟨(pD 10 n).toArray⟩ w) := tells_of hT fun w' ht => dg_put n hn w' ht.1
    have PI : Hid (Tells 15 (.int .i64 m) ⟨(pI m).toArray⟩ w) := tells_of hT fun w' ht => by
      have := dg_putint m hm0 hm1 w' ht.1
      rw [itoa_pI] at this; exact this
    have P16 : Hid (Tells 16 (.int .u64 n) ⟨(pD 16 n).toArray⟩ w) := tells_of hT fun w' ht => dg_puthex n hn w' ht.2
    have Q10 := Lib.hid (fun w => r4_Put n hn w)
    have QI := Lib.hid (fun w => r4_putint m hm0 hm1 w)
    have Q16 := Lib.hid (fun w => r4_PutHex n hn w)
    have z10 : (pD 10 n).length ≤ 64 := pD_bits (by decide) 63 _ (by have : (2 : Nat) ^ (63 + 1) = 18446744073709551616 := by decide
                                                                     omega)
    have z16 : (pD 16 n).length ≤ 64 := pD_bits (by decide) 63 _ (by have : (2 : Nat) ^ (63 + 1) = 18446744073709551616 := by decide
                                                                     omega)
    have zI : (pI m).length ≤ 65 := by
      unfold pI
      split
      · have := pD_bits (B := 10) (by decide) 63 m.natAbs (by have : (2 : Nat) ^ (63 + 1) = 18446744073709551616 := by decide
                                                              omega)
        simp; omega
      · have := pD_bits (B := 10) (by decide) 63 m.toNat (by have : (2 : Nat) ^ (63 + 1) = 18446744073709551616 := by decide
                                                             omega)
        omega
    have B10 := fun w => dg_read ⟨(pD 10 n).toArray⟩ (by show (pD 10 n).toArray.size ≤ 1000000; simp; omega) w
    have BI := fun w => dg_readint ⟨(pI m).toArray⟩ (by show (pI m).toArray.size ≤ 1000000; simp; omega) w
    have B16 := fun w => dg_readhex ⟨(pD 16 n).toArray⟩ (by show (pD 16 n).toArray.size ≤ 1000000; simp; omega) w
    have e10 := pD_rd (B := 10) (by decide) (by decide) n hn
    have e16 := pD_rd (B := 16) (by decide) (by decide) n hn
    have eI := pI_back m hm0 hm1
    dsimp only at B10 BI B16
    rw [e10.1, e10.2] at B10
    rw [e16.1, e16.2] at B16
    rw [eI.1, eI.2] at BI
    have A1 := fun w => dg_read s (by omega) w
    have A3 := fun w => dg_readint s (by omega) w
    have A5 := fun w => dg_readhex s (by omega) w
    have R1 : ((rdE 10 s.data.toList : Int) == 0) = false ∨ rdE 10 s.data.toList = 0 ∧ Hid (Tells 14 (.int .u64 (rdV 10 s.data.toList)) s w) := by
      by_cases h : rdE 10 s.data.toList = 0
      · right
        obtain ⟨r1, r2⟩ := rd_back (by decide) (by decide) h
        refine ⟨h, tells_of hT fun w' ht => ?_⟩
        have := dg_put _ r2 w' ht.1
        rw [text_of r1] at this; exact this
      · left; exact beq_eq_false_iff_ne.2 (by omega)
    have R3 : ((riE s.data.toList : Int) == 0) = false ∨ riE s.data.toList = 0 ∧ Hid (Tells 15 (.int .i64 (riV s.data.toList)) s w) := by
      by_cases h : riE s.data.toList = 0
      · right
        obtain ⟨r1, r2, r3⟩ := ri_pI h
        refine ⟨h, tells_of hT fun w' ht => ?_⟩
        have := dg_putint _ r2 r3 w' ht.1
        rw [itoa_pI, text_of r1] at this; exact this
      · left; exact beq_eq_false_iff_ne.2 (by omega)
    have R5 : ((rdE 16 s.data.toList : Int) == 0) = false ∧ ((rdE 16 s.data.toList : Int) != 0) = true ∨ rdE 16 s.data.toList = 0 ∧ Hid (Tells 16 (.int .u64 (rdV 16 s.data.toList)) s w) := by
      by_cases h : rdE 16 s.data.toList = 0
      · right
        obtain ⟨r1, r2⟩ := rd_back (by decide) (by decide) h
        refine ⟨h, tells_of hT fun w' ht => ?_⟩
        have := dg_puthex _ r2 w' ht.2
        rw [text_of r1] at this; exact this
      · left; exact ⟨beq_eq_false_iff_ne.2 (by omega), bne_iff_ne.2 (by omega)⟩
    generalize rdV 10 s.data.toList = v1 at *
    generalize rdE 10 s.data.toList = e1 at *
    generalize riV s.data.toList = v2 at *
    generalize riE s.data.toList = e2 at *
    generalize rdV 16 s.data.toList = v3 at *
    generalize rdE 16 s.data.toList = e3 at *
    clear z10 z16 zI e10 e16 eI hT
    generalize (⟨(pD 10 n).toArray⟩ : ByteArray) = t1 at *
    generalize (⟨(pD 16 n).toArray⟩ : ByteArray) = t3 at *
    generalize (⟨(pI m).toArray⟩ : ByteArray) = t2 at *
    have A1 := Lib.hid A1
    have A3 := Lib.hid A3
    have A5 := Lib.hid A5
    have B10 := Lib.hid B10
    have BI := Lib.hid BI
    have B16 := Lib.hid B16
    clear h
    rcases R1 with R1 | ⟨rfl, R1⟩ <;> rcases R3 with R3 | ⟨rfl, R3⟩ <;> rcases R5 with ⟨R5, R5b⟩ | ⟨rfl, R5⟩
    all_goals
      go_enter Tryd.func4, Tryd.ntmps4
      go_wp2_with (first
        | (go_at_call 14; with_reducible refine (P10.out _ (by assumption)).mono ?_; rintro e9 w9 ⟨rfl, hb⟩)
        | (go_at_call 14; with_reducible refine (R1.out _ (by assumption)).mono ?_; rintro e9 w9 ⟨rfl, hb⟩)
        | (go_at_call 15; with_reducible refine (PI.out _ (by assumption)).mono ?_; rintro e9 w9 ⟨rfl, hb⟩)
        | (go_at_call 15; with_reducible refine (R3.out _ (by assumption)).mono ?_; rintro e9 w9 ⟨rfl, hb⟩)
        | (go_at_call 16; with_reducible refine (P16.out _ (by assumption)).mono ?_; rintro e9 w9 ⟨rfl, hb⟩)
        | (go_at_call 16; with_reducible refine (R5.out _ (by assumption)).mono ?_; rintro e9 w9 ⟨rfl, hb⟩)
        | (go_at_call 17; with_reducible refine (Q10.out _).mono ?_; rintro e9 w9 ⟨rfl, rfl⟩)
        | (go_at_call 18; with_reducible refine (QI.out _).mono ?_; rintro e9 w9 ⟨rfl, rfl⟩)
        | (go_at_call 19; with_reducible refine (Q16.out _).mono ?_; rintro e9 w9 ⟨rfl, rfl⟩)
        | (go_at_call 8; with_reducible refine (B10.out _).mono ?_; rintro e9 w9 ⟨rfl, rfl⟩)
        | (go_at_call 8; with_reducible refine (A1.out _).mono ?_; rintro e9 w9 ⟨rfl, rfl⟩)
        | (go_at_call 10; with_reducible refine (BI.out _).mono ?_; rintro e9 w9 ⟨rfl, rfl⟩)
        | (go_at_call 10; with_reducible refine (A3.out _).mono ?_; rintro e9 w9 ⟨rfl, rfl⟩)
        | (go_at_call 12; with_reducible refine (B16.out _).mono ?_; rintro e9 w9 ⟨rfl, rfl⟩)
        | (go_at_call 12; with_reducible refine (A5.out _).mono ?_; rintro e9 w9 ⟨rfl, rfl⟩)
        | (go_at_call 7; with_reducible refine (L.out _ (by assumption)).mono ?_; rintro e9 w9 ⟨rfl, hb⟩))
      go_ret
      exact ⟨rfl, by assumption⟩

theorem wfu {n : Int} (h : (Lit.int .u64 n).wf = true) : 0 ≤ n ∧ n < 18446744073709551616 := by
  simp [Lit.wf, IntKind.min, IntKind.max, IntKind.signed, IntKind.bits] at h
  omega
theorem wfi {n : Int} (h : (Lit.int .i64 n).wf = true) : -9223372036854775808 ≤ n ∧ n ≤ 9223372036854775807 := by
  simp [Lit.wf, IntKind.min, IntKind.max, IntKind.signed, IntKind.bits] at h
  omega

theorem dback (n m : Int) (wn : (Lit.int .u64 n).wf = true) (wm : (Lit.int .i64 m).wf = true) (s : ByteArray) (hss : s.size ≤ maxLen) (w : World) (hT : Tab w) : Calls Tryd.prog 4 #[.int .u64 n, .int .i64 m, .string s] w fun e w' => e = .returned (.bool true) ∧ Below w.heap.size w w' := by
  obtain ⟨n0, n1⟩ := wfu wn
  obtain ⟨m0, m1⟩ := wfi wm
  obtain ⟨k, rfl⟩ := Int.eq_ofNat_of_zero_le n0
  exact dback_law k (by omega) m m0 m1 s hss w hT

end Go.Proofs.YtfgdfhcefgblaaaDoor
