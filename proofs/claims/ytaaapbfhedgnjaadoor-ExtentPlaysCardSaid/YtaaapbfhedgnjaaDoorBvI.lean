/- A vector of bits (layer 11): Next. -/
import Derived.Test.YtaaapbfhedgnjaaDoorBvH
import Derived.Test.YtaaapbfhedgnjaaDoorBvB
namespace Go.Proofs.YtaaapbfhedgnjaaDoor.BV
open Go.ChangeShapes Go.WideShapes Go.ChangeAt Go.RowKit

set_option maxRecDepth 100000 in
theorem bv_nextUsed {p : Nat} {v : Bits} (hv : v.ok) (a : Nat) (ha : a ≤ v.nw) (w : World) (hT : Tab w) (S : Nat → Prop) (h : (bvA p v).holds w S) :
    Calls Tryd.prog 74 #[.pointer (some ⟨p, 0, none⟩), .int .i64 a] w fun e w' => e = .returned (oV (nxF (fun j => wd v.b j != 0) a (64 * v.nu - a))) ∧ w = w' := by
  obtain ⟨bw, bu, hX, R⟩ := bv_open (At.refl h)
  have c1 := R.c1
  have RU := Lib.hid (fun i (hi : i < v.nu) => R.ru.cell hi)
  have hnw : v.nw ≤ 16384 := by have := hv.n2; unfold Bits.nw; omega
  have hnu : v.nu ≤ 256 := by unfold Bits.nu; omega
  have hau : a ≤ 64 * v.nu := by unfold Bits.nu; omega
  have q1 : (a : Int).tmod 64 = ((a % 64 : Nat) : Int) := by rw [Int.tmod_eq_emod_of_nonneg (by omega)]; rfl
  have q2 : (a : Int).tdiv 64 = ((a / 64 : Nat) : Int) := by rw [Int.tdiv_eq_ediv_of_nonneg (by omega)]; rfl
  have W1 : IntKind.i64.wrap ((a % 64 : Nat) : Int) = ((a % 64 : Nat) : Int) := IntWalk.i64_in _ (by omega)
  have W2 : IntKind.i64.wrap ((a / 64 : Nat) : Int) = ((a / 64 : Nat) : Int) := IntWalk.i64_in _ (by omega)
  have HT := Lib.hid hT
  have HAU := Lib.hid hau
  have START : Hid (∃ (fr i : Nat), ((a % 64 : Nat) : Int) = (fr : Int) ∧ ((a / 64 : Nat) : Int) = (i : Int) ∧ fr < 64 ∧ i ≤ v.nu ∧ a ≤ 64 * i + fr ∧ ∀ k, a ≤ k → k < 64 * i + fr → (wd v.b k != 0) = false) := Lib.hid ⟨a % 64, a / 64, rfl, rfl, by omega, by omega, by omega, fun k h1 h2 => by omega⟩
  obtain ⟨V, hV⟩ : ∃ V, oV (nxF (fun j => wd v.b j != 0) a (64 * v.nu - a)) = V := ⟨_, rfl⟩
  rw [hV]
  have HV := Lib.hid hV
  have NX := Lib.hid (fun i fr => next_any (us v.b i) (us_lt v.b i) (fr : Int) w hT)
  generalize a % 64 = a1 at *
  generalize a / 64 = a2 at *
  clear h hX R hv hT hV hau ha hnw
  go_enter Tryd.func74, Tryd.ntmps74
  go_wp2_with fail
  go_loopw [6, 7] (fun u z wr => ∃ (fr i : Nat), u = .int .i64 fr ∧ z = .int .i64 i ∧ fr < 64 ∧ i ≤ v.nu ∧ wr = w ∧ Hid (a ≤ 64 * i + fr ∧ ∀ k, a ≤ k → k < 64 * i + fr → (wd v.b k != 0) = false)) (fun _ z _ => v.nu - (intOf z).toNat)
  case atStart =>
    obtain ⟨fr, i, e1, e2, h1, h2, h3⟩ := START.out
    exact ⟨fr, i, by rw [e1], by rw [e2], h1, h2, rfl, Lib.hid h3⟩
  case round =>
    clear START
    obtain ⟨fr, i, rfl, rfl, hfr, hi, rfl, HB⟩ := hrel
    by_cases hlt : i < v.nu
    · have hltI : (i : Int) < (v.nu : Int) := by omega
      have cu := RU.out i hlt
      have N := Lib.hid (NX.out i fr)
      have D := nx_word (us v.b i) fr (us_lt _ _) hfr
      have BIT := Lib.hid (fun j hj => us_bit v.b i j hj)
      generalize Lib.ctz 64 (us v.b i &&& runN fr 64) = c at *
      generalize us v.b i = U at *
      rcases D with ⟨d1, d2⟩ | ⟨d1, d2, d3, d4⟩
      · have GO : Hid (a ≤ 64 * (i + 1) + 0 ∧ ∀ k, a ≤ k → k < 64 * (i + 1) + 0 → (wd v.b k != 0) = false) := Lib.hid ⟨by have := HB.out.1; omega, fun k h1 h2 => by
          by_cases e : k < 64 * i + fr
          · exact HB.out.2 k h1 e
          · have := BIT.out (k - 64 * i) (by omega)
            rw [d2 _ (by omega) (by omega), show 64 * i + (k - 64 * i) = k by omega] at this
            exact this.symm⟩
        subst d1
        clear d2 BIT HB
        go_wp2_with (go_at_call 73; with_reducible refine N.out.mono ?_; rintro e1 w1 ⟨rfl, rfl⟩)
        exact ⟨⟨0, i + 1, by go_num, by go_num, by omega, by omega, by trivial, GO⟩, by simp [intOf]; omega⟩
      · have FIN : Hid (nxF (fun j => wd v.b j != 0) a (64 * v.nu - a) = some (64 * i + c)) := Lib.hid (by
          have e0 := HB.out.1
          refine nxF_some _ _ (by omega) (by omega) ?_ fun k h1 h2 => ?_
          · show (wd v.b (64 * i + c) != 0) = true
            rw [← BIT.out c d1]; exact d3
          · by_cases e : k < 64 * i + fr
            · exact HB.out.2 k h1 e
            · have := BIT.out (k - 64 * i) (by omega)
              rw [d4 _ (by omega) (by omega), show 64 * i + (k - 64 * i) = k by omega] at this
              exact this.symm)
        have d1I : (c : Int) < 64 := by omega
        clear d1 d2 d3 d4 BIT HB
        go_wp2_with (go_at_call 73; with_reducible refine N.out.mono ?_; rintro e1 w1 ⟨rfl, rfl⟩)
        go_ret2
        refine ⟨?_, rfl⟩
        rw [← HV.out, FIN.out]
        unfold oV
        simp
        omega
    · obtain rfl : i = v.nu := by omega
      have hltI : ¬ (v.nu : Int) < (v.nu : Int) := by omega
      have FIN : Hid (nxF (fun j => wd v.b j != 0) a (64 * v.nu - a) = none) := Lib.hid (nxF_none _ _ fun k h1 h2 => HB.out.2 k h1 (by have := HAU.out; omega))
      go_wp2_with fail
      go_ret2
      refine ⟨?_, rfl⟩
      rw [← HV.out, FIN.out]
      rfl

theorem nw_lt {v : Bits} (hv : v.ok) {r : Nat} (h : wd v.b r ≠ 0) : r < v.nw := by
  obtain ⟨j, hj, e⟩ := wd_some h
  by_cases g : v.n ≤ 64 * r + j
  · rw [hv.far _ g] at e; cases e
  · unfold Bits.nw; omega

theorem n_lt {v : Bits} (hv : v.ok) {r : Nat} (h : v.b r = true) : r < v.n := by
  by_cases g : v.n ≤ r
  · rw [hv.far _ g] at h; cases h
  · omega

set_option maxRecDepth 100000 in
theorem bv_next {p : Nat} {v : Bits} (hv : v.ok) (x : Int) (w : World) (hT : Tab w) (S : Nat → Prop) (h : (bvA p v).holds w S) :
    Calls Tryd.prog 61 #[.pointer (some ⟨p, 0, none⟩), .int .i64 x] w fun e w' => e = .returned (oV (nxF v.b (max x 0).toNat (v.n - (max x 0).toNat))) ∧ w = w' := by
  obtain ⟨i0, hi0⟩ : ∃ i0 : Nat, max x 0 = (i0 : Int) := ⟨(max x 0).toNat, by omega⟩
  rw [hi0, Int.toNat_natCast]
  have LEN := Lib.hid (bv_len (v := v) w S h)
  obtain ⟨V, hV⟩ : ∃ V, oV (nxF v.b i0 (v.n - i0)) = V := ⟨_, rfl⟩
  rw [hV]
  have HV := Lib.hid hV
  clear hV
  have n2 := hv.n2
  by_cases hlt : i0 < v.n
  · have hltI : (i0 : Int) < (v.n : Int) := by omega
    obtain ⟨bw, bu, hX, R⟩ := bv_open (At.refl h)
    have c0 := R.c0
    have hb0 := nw_of hlt
    have cw := R.rw.cell hb0
    have RW := Lib.hid (fun i (hi : i < v.nw) => R.rw.cell hi)
    have hnw : v.nw ≤ 16384 := by unfold Bits.nw; omega
    have q1 : (i0 : Int).tmod 64 = ((i0 % 64 : Nat) : Int) := by rw [Int.tmod_eq_emod_of_nonneg (by omega)]; rfl
    have q2 : (i0 : Int).tdiv 64 = ((i0 / 64 : Nat) : Int) := by rw [Int.tdiv_eq_ediv_of_nonneg (by omega)]; rfl
    have q3 : (i0 : Int) / 64 = ((i0 / 64 : Nat) : Int) := rfl
    have q4 : (i0 : Int) % 64 = ((i0 % 64 : Nat) : Int) := rfl
    have W1 : IntKind.i64.wrap ((i0 % 64 : Nat) : Int) = ((i0 % 64 : Nat) : Int) := IntWalk.i64_in _ (by omega)
    have W2 : IntKind.i64.wrap ((i0 / 64 : Nat) : Int) = ((i0 / 64 : Nat) : Int) := IntWalk.i64_in _ (by omega)
    have N := Lib.hid (next_any (wd v.b (i0 / 64)) (wd_lt v.b _) ((i0 % 64 : Nat) : Int) w hT)
    have D := nx_word (wd v.b (i0 / 64)) (i0 % 64) (wd_lt _ _) (Nat.mod_lt _ (by decide))
    have BIT := fun j hj => wd_bit v.b (i0 / 64) j hj
    have NU := bv_nextUsed hv (i0 / 64 + 1) hb0 w hT S h
    rw [show ((i0 / 64 + 1 : Nat) : Int) = ((i0 / 64 : Nat) : Int) + 1 by omega] at NU
    have NU := Lib.hid NU
    have HV2 := Lib.hid hv
    have HT := Lib.hid hT
    have e0 : 64 * (i0 / 64) + i0 % 64 = i0 := by omega
    have hb0I : ((i0 / 64 : Nat) : Int) < (v.nw : Int) := by omega
    generalize Lib.ctz 64 (wd v.b (i0 / 64) &&& runN ((i0 % 64 : Nat) : Int) 64) = c at *
    generalize wd v.b (i0 / 64) = U at *
    generalize i0 / 64 = b0 at *
    generalize i0 % 64 = k0 at *
    rcases D with ⟨d1, d2⟩ | ⟨d1, d2, d3, d4⟩
    · subst d1
      have LOW : ∀ k, i0 ≤ k → k < 64 * (b0 + 1) → v.b k = false := fun k h1 h2 => by
        have := BIT (k - 64 * b0) (by omega)
        rw [d2 _ (by omega) (by omega), show 64 * b0 + (k - 64 * b0) = k by omega] at this
        exact this.symm
      have LOW := Lib.hid LOW
      have hnu : v.nw ≤ 64 * v.nu := by unfold Bits.nu; omega
      rcases nxF_is (p := fun j => wd v.b j != 0) (64 * v.nu - (b0 + 1)) (b0 + 1) with ⟨f1, f2⟩ | ⟨r, f1, f2, f3, f4, f5⟩
      · rw [f1] at NU
        have NU : Hid (Calls Tryd.prog 74 #[.pointer (some ⟨p, 0, none⟩), .int .i64 ((b0 : Int) + 1)] w fun e w' => e = .returned (.tuple #[.int .i64 0, .bool false]) ∧ w = w') := NU
        have FIN : Hid (nxF v.b i0 (v.n - i0) = none) := Lib.hid (nxF_none _ _ fun k h1 h2 => by
          by_cases g : k < 64 * (b0 + 1)
          · exact LOW.out k h1 g
          · have hkn : k < v.n := by omega
            have := f2 (k / 64) (by omega) (by have := nw_of hkn; omega)
            have z : wd v.b (k / 64) = 0 := by simpa using this
            have := wd_none z (k % 64) (Nat.mod_lt _ (by decide))
            rw [show 64 * (k / 64) + k % 64 = k by omega] at this
            exact this)
        clear d2 BIT h hX R hv hT f1 f2 hlt hb0 e0 LOW hnu
        go_enter Tryd.func61, Tryd.ntmps61
        go_wp2_with (first | (go_at_call 46; with_reducible refine LEN.out.mono ?_; rintro e1 w1 ⟨rfl, rfl⟩) | (go_at_call 73; with_reducible refine N.out.mono ?_; rintro e1 w1 ⟨rfl, rfl⟩) | (go_at_call 74; with_reducible refine NU.out.mono ?_; rintro e1 w1 ⟨rfl, rfl⟩))
        go_ret2
        refine ⟨?_, rfl⟩
        rw [← HV.out, FIN.out]
        rfl
      · rw [f1] at NU
        have NU : Hid (Calls Tryd.prog 74 #[.pointer (some ⟨p, 0, none⟩), .int .i64 ((b0 : Int) + 1)] w fun e w' => e = .returned (.tuple #[.int .i64 (r : Nat), .bool true]) ∧ w = w') := NU
        have hr : wd v.b r ≠ 0 := by simpa using f4
        have hrw := nw_lt hv hr
        have cr := RW.out r hrw
        have N2 := next_any (wd v.b r) (wd_lt v.b _) 0 w hT
        have D2 := nx_word (wd v.b r) 0 (wd_lt _ _) (by decide)
        rw [show ((0 : Nat) : Int) = 0 from rfl] at D2
        have N2 := Lib.hid N2
        have BIT2 := fun j hj => wd_bit v.b r j hj
        obtain ⟨j2, hj2, hj3⟩ := wd_some hr
        generalize Lib.ctz 64 (wd v.b r &&& runN 0 64) = c at *
        rcases D2 with ⟨g1, g2⟩ | ⟨g1, _, g3, g4⟩
        · exfalso
          have := g2 j2 (by omega) hj2
          rw [BIT2 j2 hj2, hj3] at this; cases this
        have FIN : Hid (nxF v.b i0 (v.n - i0) = some (64 * r + c)) := Lib.hid (by
          have hb : v.b (64 * r + c) = true := by rw [← BIT2 c g1]; exact g3
          have := n_lt hv hb
          refine nxF_some _ _ (by omega) (by omega) hb fun k h1 h2 => ?_
          by_cases g : k < 64 * (b0 + 1)
          · exact LOW.out k h1 g
          · by_cases g' : k < 64 * r
            · have := f5 (k / 64) (by omega) (by omega)
              have z : wd v.b (k / 64) = 0 := by simpa using this
              have := wd_none z (k % 64) (Nat.mod_lt _ (by decide))
              rw [show 64 * (k / 64) + k % 64 = k by omega] at this
              exact this
            · have := BIT2 (k - 64 * r) (by omega)
              rw [g4 _ (by omega) (by omega), show 64 * r + (k - 64 * r) = k by omega] at this
              exact this.symm)
        have hrI : (r : Int) < (v.nw : Int) := by omega
        have hcI : (c : Int) < 64 := by omega
        generalize wd v.b r = U2 at *
        clear d2 BIT h hX R hv hT f1 f2 f3 f4 f5 hlt hb0 e0 LOW hnu hr hrw BIT2 hj2 hj3 g1 g3 g4
        go_enter Tryd.func61, Tryd.ntmps61
        go_wp2_with (first | (go_at_call 46; with_reducible refine LEN.out.mono ?_; rintro e1 w1 ⟨rfl, rfl⟩) | (go_at_call 73; with_reducible refine N.out.mono ?_; rintro e1 w1 ⟨rfl, rfl⟩) | (go_at_call 73; with_reducible refine N2.out.mono ?_; rintro e1 w1 ⟨rfl, rfl⟩) | (go_at_call 74; with_reducible refine NU.out.mono ?_; rintro e1 w1 ⟨rfl, rfl⟩))
        go_ret2
        refine ⟨?_, rfl⟩
        rw [← HV.out, FIN.out]
        unfold oV
        simp
        omega
    · have hb : v.b (64 * b0 + c) = true := by rw [← BIT c d1]; exact d3
      have FIN : Hid (nxF v.b i0 (v.n - i0) = some (64 * b0 + c)) := Lib.hid (by
        have := n_lt hv hb
        refine nxF_some _ _ (by omega) (by omega) hb fun k h1 h2 => ?_
        have := BIT (k - 64 * b0) (by omega)
        rw [d4 _ (by omega) (by omega), show 64 * b0 + (k - 64 * b0) = k by omega] at this
        exact this.symm)
      have hcI : (c : Int) < 64 := by omega
      clear d1 d2 d3 d4 BIT h hX R hv hT hlt hb0 e0 hb NU
      go_enter Tryd.func61, Tryd.ntmps61
      go_wp2_with (first | (go_at_call 46; with_reducible refine LEN.out.mono ?_; rintro e1 w1 ⟨rfl, rfl⟩) | (go_at_call 73; with_reducible refine N.out.mono ?_; rintro e1 w1 ⟨rfl, rfl⟩))
      go_ret2
      refine ⟨?_, rfl⟩
      rw [← HV.out, FIN.out]
      unfold oV
      simp
      omega
  · have hltI : (v.n : Int) ≤ (i0 : Int) := by omega
    have FIN : Hid (nxF v.b i0 (v.n - i0) = none) := Lib.hid (by rw [show v.n - i0 = 0 by omega]; rfl)
    clear h hv hT hlt
    go_enter Tryd.func61, Tryd.ntmps61
    go_wp2_with (first | (go_at_call 46; with_reducible refine LEN.out.mono ?_; rintro e1 w1 ⟨rfl, rfl⟩))
    go_ret2
    refine ⟨?_, rfl⟩
    rw [← HV.out, FIN.out]
    rfl

end Go.Proofs.YtaaapbfhedgnjaaDoor.BV
