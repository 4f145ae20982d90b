/- A vector of bits (layer 11): Last. -/
import Derived.Test.YtaaapbfhedgnjaaDoorBvI
namespace Go.Proofs.YtaaapbfhedgnjaaDoor.BV
open Go.ChangeShapes Go.WideShapes Go.ChangeAt Go.RowKit

theorem last_bad (x : Nat) (hx : x < 18446744073709551616) (bl : Nat) (h : Lib.bitLen (x &&& runN 0 bl) = 0) (w : World) : Calls Tryd.prog 71 #[.int .u64 x, .int .i64 bl] w fun e w' => e = .returned (.int .i64 (-1)) ∧ w = w' := by
  have := last_any x hx bl w
  rw [h] at this
  exact this

theorem last_good (x : Nat) (hx : x < 18446744073709551616) (bl c : Nat) (h : Lib.bitLen (x &&& runN 0 bl) = c + 1) (w : World) : Calls Tryd.prog 71 #[.int .u64 x, .int .i64 bl] w fun e w' => e = .returned (.int .i64 c) ∧ w = w' := by
  have := last_any x hx bl w
  rw [h, show ((c + 1 : Nat) : Int) - 1 = (c : Int) by omega] at this
  exact this

set_option maxRecDepth 100000 in
theorem bv_lastUsed {p : Nat} {v : Bits} (hv : v.ok) (a : Nat) (ha : a < v.nw) (w : World) (S : Nat → Prop) (h : (bvA p v).holds w S) :
    Calls Tryd.prog 72 #[.pointer (some ⟨p, 0, none⟩), .int .i64 a] w fun e w' => e = .returned (oV (lsF (fun j => wd v.b j != 0) a)) ∧ w = w' := by
  obtain ⟨bw, bu, hX, R⟩ := bv_open (At.refl h)
  have c1 := R.c1
  have RU := Lib.hid (fun i (hi : i < v.nu) => R.ru.cell hi)
  have hnw : v.nw ≤ 16384 := by have := hv.n2; unfold Bits.nw; omega
  have hnu : v.nu ≤ 256 := by unfold Bits.nu; omega
  have hau : a < 64 * v.nu := by unfold Bits.nu; omega
  have q1 : (a : Int).tmod 64 = ((a % 64 : Nat) : Int) := by rw [Int.tmod_eq_emod_of_nonneg (by omega)]; rfl
  have q2 : (a : Int).tdiv 64 = ((a / 64 : Nat) : Int) := by rw [Int.tdiv_eq_ediv_of_nonneg (by omega)]; rfl
  have W1 : IntKind.i64.wrap ((a % 64 : Nat) : Int) = ((a % 64 : Nat) : Int) := IntWalk.i64_in _ (by omega)
  have W2 : IntKind.i64.wrap ((a / 64 : Nat) : Int) = ((a / 64 : Nat) : Int) := IntWalk.i64_in _ (by omega)
  have START : Hid (∃ (bl i : Nat), ((a % 64 : Nat) : Int) = (bl : Int) ∧ ((a / 64 : Nat) : Int) = (i : Int) - 1 ∧ bl ≤ 64 ∧ i ≤ v.nu ∧ 64 * i + bl ≤ a + 64 ∧ ∀ k, k < a → 64 * i + bl ≤ k + 64 → (wd v.b k != 0) = false) := Lib.hid ⟨a % 64, a / 64 + 1, rfl, by omega, by omega, by omega, by omega, fun k h1 h2 => by omega⟩
  obtain ⟨V, hV⟩ : ∃ V, oV (lsF (fun j => wd v.b j != 0) a) = V := ⟨_, rfl⟩
  rw [hV]
  have HV := Lib.hid hV
  generalize a % 64 = a1 at *
  generalize a / 64 = a2 at *
  clear h hX R hv hV hau ha hnw
  go_enter Tryd.func72, Tryd.ntmps72
  go_wp2_with fail
  go_loopw [6, 7] (fun u z wr => ∃ (bl i : Nat), u = .int .i64 bl ∧ z = .int .i64 ((i : Int) - 1) ∧ bl ≤ 64 ∧ i ≤ v.nu ∧ wr = w ∧ Hid (64 * i + bl ≤ a + 64 ∧ ∀ k, k < a → 64 * i + bl ≤ k + 64 → (wd v.b k != 0) = false)) (fun _ z _ => (intOf z + 1).toNat)
  case atStart =>
    obtain ⟨bl, i, e1, e2, h1, h2, h3⟩ := START.out
    exact ⟨bl, i, by rw [e1], by rw [e2], h1, h2, rfl, Lib.hid h3⟩
  case round =>
    clear START
    obtain ⟨bl, i1, rfl, rfl, hbl, hi, rfl, HB⟩ := hrel
    by_cases hz : i1 = 0
    · subst hz
      have FIN : Hid (lsF (fun j => wd v.b j != 0) a = none) := Lib.hid (lsF_none _ fun k h2 => HB.out.2 k h2 (by omega))
      go_wp2_with fail
      go_ret2
      refine ⟨?_, rfl⟩
      rw [← HV.out, FIN.out]
      rfl
    · obtain ⟨i, rfl⟩ : ∃ i, i1 = i + 1 := ⟨i1 - 1, by omega⟩
      rw [show ((i + 1 : Nat) : Int) - 1 = (i : Int) by omega]
      have hlt : i < v.nu := by omega
      have hltI : (i : Int) < (v.nu : Int) := by omega
      have cu := RU.out i hlt
      have D := ls_word (us v.b i) bl (us_lt _ _) hbl
      have BIT := Lib.hid (fun j hj => us_bit v.b i j hj)
      rcases D with ⟨d1, d2⟩ | ⟨c, d1, d2, d3, d4⟩
      · have N := Lib.hid (last_bad (us v.b i) (us_lt _ _) bl d1 wr)
        clear d1
        generalize us v.b i = U at *
        have GO : Hid (64 * i + 64 ≤ a + 64 ∧ ∀ k, k < a → 64 * i + 64 ≤ k + 64 → (wd v.b k != 0) = false) := Lib.hid ⟨by have := HB.out.1; omega, fun k h1 h2 => by
          by_cases e : 64 * (i + 1) + bl ≤ k + 64
          · exact HB.out.2 k h1 e
          · have := BIT.out (k - 64 * i) (by omega)
            rw [d2 _ (by omega), show 64 * i + (k - 64 * i) = k by omega] at this
            exact this.symm⟩
        clear d2 BIT HB hz hlt
        go_wp2_with (go_at_call 71; with_reducible refine N.out.mono ?_; rintro e1 w1 ⟨rfl, rfl⟩)
        exact ⟨⟨64, i, by go_num, by go_num, by omega, by omega, by trivial, GO⟩, by first | (simp [intOf]; done) | (simp [intOf]; omega)⟩
      · have N := Lib.hid (last_good (us v.b i) (us_lt _ _) bl c d1 wr)
        clear d1
        generalize us v.b i = U at *
        have FIN : Hid (lsF (fun j => wd v.b j != 0) a = some (64 * i + c)) := Lib.hid (by
          have e0 := HB.out.1
          refine lsF_some _ (by omega) ?_ fun k h1 h2 => ?_
          · show (wd v.b (64 * i + c) != 0) = true
            rw [← BIT.out c (by omega)]; exact d3
          · by_cases e : 64 * (i + 1) + bl ≤ k + 64
            · exact HB.out.2 k h2 e
            · have := BIT.out (k - 64 * i) (by omega)
              rw [d4 _ (by omega) (by omega), show 64 * i + (k - 64 * i) = k by omega] at this
              exact this.symm)
        have hcI : (c : Int) < 64 := by omega
        clear d2 d3 d4 BIT HB hz hlt
        go_wp2_with (go_at_call 71; with_reducible refine N.out.mono ?_; rintro e1 w1 ⟨rfl, rfl⟩)
        go_ret2
        refine ⟨?_, rfl⟩
        rw [← HV.out, FIN.out]
        unfold oV
        simp
        omega

set_option maxRecDepth 100000 in
theorem bv_last {p : Nat} {v : Bits} (hv : v.ok) (x : Int) (w : World) (S : Nat → Prop) (h : (bvA p v).holds w S) :
    Calls Tryd.prog 60 #[.pointer (some ⟨p, 0, none⟩), .int .i64 x] w fun e w' => e = .returned (oV (lsF v.b (min x v.n).toNat)) ∧ w = w' := by
  have LEN := Lib.hid (bv_len (v := v) w S h)
  have n2 := hv.n2
  by_cases hpos : min x (v.n : Int) ≤ 0
  · obtain ⟨V, hV⟩ : ∃ V, oV (lsF v.b (min x (v.n : Int)).toNat) = V := ⟨_, rfl⟩
    rw [hV]
    have FIN : Hid (V = oV none) := Lib.hid (by rw [← hV, show (min x (v.n : Int)).toNat = 0 by omega]; rfl)
    clear h hV hv
    go_enter Tryd.func60, Tryd.ntmps60
    go_wp2_with (go_at_call 46; with_reducible refine LEN.out.mono ?_; rintro e1 w1 ⟨rfl, rfl⟩)
    go_ret2
    refine ⟨?_, rfl⟩
    rw [FIN.out]
    rfl
  · obtain ⟨t0, ht0⟩ : ∃ t0 : Nat, min x (v.n : Int) = (t0 : Int) := ⟨(min x (v.n : Int)).toNat, by omega⟩
    rw [ht0, Int.toNat_natCast]
    have htn : t0 ≤ v.n := by omega
    have ht1 : 1 ≤ t0 := by omega
    clear hpos
    have e0 : 64 * ((t0 - 1) / 64) + (t0 - 64 * ((t0 - 1) / 64)) = t0 := by omega
    have e1 : t0 - 64 * ((t0 - 1) / 64) ≤ 64 := by omega
    obtain ⟨V, hV⟩ : ∃ V, oV (lsF v.b t0) = V := ⟨_, rfl⟩
    rw [hV]
    have HV := Lib.hid hV
    clear hV
    obtain ⟨bw, bu, hX, R⟩ := bv_open (At.refl h)
    have c0 := R.c0
    have hb0 : (t0 - 1) / 64 < v.nw := nw_of (by omega)
    have cw := R.rw.cell hb0
    have RW := Lib.hid (fun i (hi : i < v.nw) => R.rw.cell hi)
    have hnw : v.nw ≤ 16384 := by unfold Bits.nw; omega
    have W0 : IntKind.i64.wrap ((t0 : Int) - 1) = ((t0 - 1 : Nat) : Int) := by rw [show (t0 : Int) - 1 = ((t0 - 1 : Nat) : Int) by omega]; exact IntWalk.i64_in _ (by omega)
    have q2 : ((t0 - 1 : Nat) : Int).tdiv 64 = (((t0 - 1) / 64 : Nat) : Int) := by rw [Int.tdiv_eq_ediv_of_nonneg (by omega)]; rfl
    have q3 : ((t0 - 1 : Nat) : Int) / 64 = (((t0 - 1) / 64 : Nat) : Int) := rfl
    have W2 : IntKind.i64.wrap (((t0 - 1) / 64 : Nat) : Int) = (((t0 - 1) / 64 : Nat) : Int) := IntWalk.i64_in _ (by omega)
    have W3 : IntKind.i64.wrap ((t0 : Int) - (((t0 - 1) / 64 : Nat) : Int) * 64) = ((t0 - 64 * ((t0 - 1) / 64) : Nat) : Int) := by
      rw [show (t0 : Int) - (((t0 - 1) / 64 : Nat) : Int) * 64 = ((t0 - 64 * ((t0 - 1) / 64) : Nat) : Int) by omega]; exact IntWalk.i64_in _ (by omega)
    have D := ls_word (wd v.b ((t0 - 1) / 64)) (t0 - 64 * ((t0 - 1) / 64)) (wd_lt _ _) (by omega)
    have BIT := fun j hj => wd_bit v.b ((t0 - 1) / 64) j hj
    have LB := last_bad (wd v.b ((t0 - 1) / 64)) (wd_lt _ _) (t0 - 64 * ((t0 - 1) / 64))
    have LG := last_good (wd v.b ((t0 - 1) / 64)) (wd_lt _ _) (t0 - 64 * ((t0 - 1) / 64))
    have NU := Lib.hid (bv_lastUsed hv ((t0 - 1) / 64) hb0 w S h)
    have hb0I : (((t0 - 1) / 64 : Nat) : Int) < (v.nw : Int) := by omega
    have htI : (1 : Int) ≤ (t0 : Int) := by omega
    have htI2 : (t0 : Int) ≤ 1048576 := by omega
    generalize wd v.b ((t0 - 1) / 64) = U at *
    generalize hk : t0 - 64 * ((t0 - 1) / 64) = k0 at *
    generalize (t0 - 1) / 64 = b0 at *
    generalize hm : t0 - 1 = m0 at *
    clear hk hm
    have KQ2 := Lib.hid q2
    have KW0 := Lib.hid W0
    have KW2 := Lib.hid W2
    have KW3 := Lib.hid W3
    have KQ3 := Lib.hid q3
    clear q2 q3 W0 W2 W3
    rcases D with ⟨d1, d2⟩ | ⟨c, d1, d2, d3, d4⟩
    · have N := Lib.hid (LB d1 w)
      have LOW : ∀ k, 64 * b0 ≤ k → k < t0 → v.b k = false := fun k h1 h2 => by
        have := BIT (k - 64 * b0) (by omega)
        rw [d2 _ (by omega), show 64 * b0 + (k - 64 * b0) = k by omega] at this
        exact this.symm
      have LOW := Lib.hid LOW
      rcases lsF_is (p := fun j => wd v.b j != 0) b0 with ⟨f1, f2⟩ | ⟨r, f1, f3, f4, f5⟩
      · rw [f1] at NU
        have NU : Hid (Calls Tryd.prog 72 #[.pointer (some ⟨p, 0, none⟩), .int .i64 b0] w fun e w' => e = .returned (.tuple #[.int .i64 0, .bool false]) ∧ w = w') := NU
        have FIN : Hid (lsF v.b t0 = none) := Lib.hid (lsF_none _ fun k h2 => by
          by_cases g : 64 * b0 ≤ k
          · exact LOW.out k g h2
          · have := f2 (k / 64) (by omega)
            have z : wd v.b (k / 64) = 0 := by simpa using this
            have := wd_none z (k % 64) (Nat.mod_lt _ (by decide))
            rw [show 64 * (k / 64) + k % 64 = k by omega] at this
            exact this)
        clear d1 d2 BIT h hX R hv f1 f2 htn ht1 hb0 e0 e1 LOW LB LG
        have q2 := KQ2.out
        have q3 := KQ3.out
        have W0 := KW0.out
        have W2 := KW2.out
        have W3 := KW3.out
        clear KQ2 KQ3 KW0 KW2 KW3
        go_enter Tryd.func60, Tryd.ntmps60
        go_wp2_with (first | (go_at_call 46; with_reducible refine LEN.out.mono ?_; rintro e1 w1 ⟨rfl, rfl⟩) | (go_at_call 71; with_reducible refine N.out.mono ?_; rintro e1 w1 ⟨rfl, rfl⟩) | (go_at_call 72; with_reducible refine NU.out.mono ?_; rintro e1 w1 ⟨rfl, rfl⟩))
        go_ret2
        refine ⟨?_, rfl⟩
        rw [← HV.out, FIN.out]
        rfl
      · rw [f1] at NU
        have NU : Hid (Calls Tryd.prog 72 #[.pointer (some ⟨p, 0, none⟩), .int .i64 b0] w fun e w' => e = .returned (.tuple #[.int .i64 (r : Nat), .bool true]) ∧ w = w') := NU
        have hr : wd v.b r ≠ 0 := by simpa using f4
        have hrw := nw_lt hv hr
        have cr := RW.out r hrw
        have D2 := ls_word (wd v.b r) 64 (wd_lt _ _) (Nat.le_refl _)
        have BIT2 := fun j hj => wd_bit v.b r j hj
        obtain ⟨j2, hj2, hj3⟩ := wd_some hr
        rcases D2 with ⟨g1, g2⟩ | ⟨c, g1, g2, g3, g4⟩
        · exfalso
          have := g2 j2 hj2
          rw [BIT2 j2 hj2, hj3] at this; cases this
        have N2 := Lib.hid (last_good (wd v.b r) (wd_lt v.b _) 64 c g1 w)
        have N2 : Hid (Calls Tryd.prog 71 #[.int .u64 (wd v.b r : Nat), .int .i64 64] w fun e w' => e = .returned (.int .i64 c) ∧ w = w') := N2
        have FIN : Hid (lsF v.b t0 = some (64 * r + c)) := Lib.hid (by
          have hb : v.b (64 * r + c) = true := by rw [← BIT2 c g2]; exact g3
          refine lsF_some _ (by omega) hb fun k h1 h2 => ?_
          by_cases g : 64 * b0 ≤ k
          · exact LOW.out k g h2
          · by_cases g' : 64 * r + 64 ≤ k
            · have := f5 (k / 64) (by omega) (by omega)
              have z : wd v.b (k / 64) = 0 := by simpa using this
              have := wd_none z (k % 64) (Nat.mod_lt _ (by decide))
              rw [show 64 * (k / 64) + k % 64 = k by omega] at this
              exact this
            · have := BIT2 (k - 64 * r) (by omega)
              rw [g4 _ (by omega) (by omega), show 64 * r + (k - 64 * r) = k by omega] at this
              exact this.symm)
        have hrI : (r : Int) < (v.nw : Int) := by omega
        have hcI : (c : Int) < 64 := by omega
        generalize wd v.b r = U2 at *
        clear d1 d2 BIT h hX R hv f1 f3 f4 f5 htn ht1 hb0 e0 e1 LOW hr hrw BIT2 hj2 hj3 g1 g2 g3 g4 LB LG
        have q2 := KQ2.out
        have q3 := KQ3.out
        have W0 := KW0.out
        have W2 := KW2.out
        have W3 := KW3.out
        clear KQ2 KQ3 KW0 KW2 KW3
        go_enter Tryd.func60, Tryd.ntmps60
        go_wp2_with (first | (go_at_call 46; with_reducible refine LEN.out.mono ?_; rintro e1 w1 ⟨rfl, rfl⟩) | (go_at_call 71; with_reducible refine N.out.mono ?_; rintro e1 w1 ⟨rfl, rfl⟩) | (go_at_call 71; with_reducible refine N2.out.mono ?_; rintro e1 w1 ⟨rfl, rfl⟩) | (go_at_call 72; with_reducible refine NU.out.mono ?_; rintro e1 w1 ⟨rfl, rfl⟩))
        go_ret2
        refine ⟨?_, rfl⟩
        rw [← HV.out, FIN.out]
        unfold oV
        simp
        omega
    · have N := Lib.hid (LG c d1 w)
      have hb : v.b (64 * b0 + c) = true := by rw [← BIT c (by omega)]; exact d3
      have FIN : Hid (lsF v.b t0 = some (64 * b0 + c)) := Lib.hid (by
        refine lsF_some _ (by omega) hb fun k h1 h2 => ?_
        have := BIT (k - 64 * b0) (by omega)
        rw [d4 _ (by omega) (by omega), show 64 * b0 + (k - 64 * b0) = k by omega] at this
        exact this.symm)
      have hcI : (c : Int) < 64 := by omega
      clear d1 d2 d3 d4 BIT h hX R hv htn ht1 hb0 e0 e1 hb NU LB LG
      have q2 := KQ2.out
      have q3 := KQ3.out
      have W0 := KW0.out
      have W2 := KW2.out
      have W3 := KW3.out
      clear KQ2 KQ3 KW0 KW2 KW3
      go_enter Tryd.func60, Tryd.ntmps60
      go_wp2_with (first | (go_at_call 46; with_reducible refine LEN.out.mono ?_; rintro e1 w1 ⟨rfl, rfl⟩) | (go_at_call 71; with_reducible refine N.out.mono ?_; rintro e1 w1 ⟨rfl, rfl⟩))
      go_ret2
      refine ⟨?_, rfl⟩
      rw [← HV.out, FIN.out]
      unfold oV
      simp
      omega

end Go.Proofs.YtaaapbfhedgnjaaDoor.BV
