/- A vector of bits (layer 11): single bits. -/
import Derived.Test.YtaaapbfhedgnjaaDoorBvA
namespace Go.Proofs.YtaaapbfhedgnjaaDoor.BV
open Go.ChangeShapes Go.WideShapes Go.ChangeAt Go.RowKit

theorem bv_check_ok {p : Nat} {v : Bits} (hv : v.ok) (i : Nat) (hi : i < v.n) : Ask Tryd.prog 64 #[.pointer (some ⟨p, 0, none⟩), .int .i64 i] (bvA p v) (.int .i64 0) := by
  intro w S h
  obtain ⟨bw, bu, hX, R⟩ := bv_open (At.refl h)
  have c2 := R.c2
  have n2 := hv.n2
  clear h hX R hv
  go_enter Tryd.func64, Tryd.ntmps64
  go_wp2
  go_ret
  exact ⟨rfl, rfl⟩

theorem bv_check_bad {p : Nat} {v : Bits} (hv : v.ok) (i : Int) (hi : i < 0 ∨ (v.n : Int) ≤ i) : Ask Tryd.prog 64 #[.pointer (some ⟨p, 0, none⟩), .int .i64 i] (bvA p v) (.int .i64 11) := by
  intro w S h
  obtain ⟨bw, bu, hX, R⟩ := bv_open (At.refl h)
  have c2 := R.c2
  clear h hX R hv
  by_cases h0 : i < 0
  · clear hi
    go_enter Tryd.func64, Tryd.ntmps64
    go_wp2
    go_ret
    exact ⟨rfl, rfl⟩
  · have h1 : (v.n : Int) ≤ i := by omega
    clear hi
    go_enter Tryd.func64, Tryd.ntmps64
    go_wp2
    go_ret
    exact ⟨rfl, rfl⟩

/-- one bit is x now -/
def Bits.set (v : Bits) (i : Nat) (x : Bool) : Bits := { v with b := fun j => if j = i then x else v.b j }

theorem Bits.ok.set {v : Bits} (h : v.ok) (i : Nat) (x : Bool) (hi : i < v.n) : (v.set i x).ok :=
  ⟨h.n1, h.n2, fun j hj => by
    have hj' : v.n ≤ j := hj
    show (if j = i then x else v.b j) = false
    rw [if_neg (by omega)]; exact h.far j hj'⟩

theorem wd_set_other (v : Bits) (i : Nat) (x : Bool) (j : Nat) (hj : j ≠ i / 64) : wd (v.set i x).b j = wd v.b j :=
  wd_congr fun k hk => by show (if 64 * j + k = i then x else v.b (64 * j + k)) = _; rw [if_neg (by omega)]

theorem wd_on (v : Bits) (i : Nat) : wd v.b (i / 64) ||| 2 ^ (i % 64) = wd (v.set i true).b (i / 64) := by
  unfold wd
  rw [ob_on _ _ (Nat.mod_lt _ (by decide))]
  exact ob_congr fun j hj => by
    show _ = if 64 * (i / 64) + j = i then true else v.b (64 * (i / 64) + j)
    by_cases e : j = i % 64
    · rw [if_pos e, if_pos (by omega)]
    · rw [if_neg e, if_neg (by omega)]

theorem wd_off (v : Bits) (i : Nat) : wd v.b (i / 64) &&& (18446744073709551615 - 2 ^ (i % 64)) = wd (v.set i false).b (i / 64) := by
  unfold wd
  rw [ob_off _ _ (Nat.mod_lt _ (by decide))]
  exact ob_congr fun j hj => by
    show _ = if 64 * (i / 64) + j = i then false else v.b (64 * (i / 64) + j)
    by_cases e : j = i % 64
    · rw [if_pos e, if_pos (by omega)]
    · rw [if_neg e, if_neg (by omega)]

theorem nw_of {v : Bits} {i : Nat} (hi : i < v.n) : i / 64 < v.nw := by unfold Bits.nw; omega

set_option maxRecDepth 100000 in
theorem bv_set_ok {p : Nat} {v : Bits} (hv : v.ok) (i : Nat) (hi : i < v.n) : Tri1 Tryd.prog 44 #[.pointer (some ⟨p, 0, none⟩), .int .i64 i] (bvA p v) (.int .i64 0) (bvA p (v.set i true)) := by
  intro w S h
  have CK := Lib.hid (bv_check_ok hv i hi w S h)
  have P := bv_put (p := p) hv (v.set i true).b (i / 64) (nw_of hi) (fun j hj => wd_set_other v i true j hj)
  have PP := Lib.hid ((At.refl h).drew.tri0 P)
  obtain ⟨bw, bu, hX, R⟩ := bv_open (At.refl h)
  have c0 := R.c0
  have cw := R.rw.cell (nw_of hi)
  have hnw := nw_of hi
  have OR := or_pow (wd v.b (i / 64)) (i % 64) (wd_lt _ _) (Nat.mod_lt _ (by decide))
  rw [wd_on v i] at OR
  have q1 : (i : Int) / 64 = ((i / 64 : Nat) : Int) := rfl
  have q2 : (i : Int) % 64 = ((i % 64 : Nat) : Int) := rfl
  have q3 : (i : Int).tdiv 64 = ((i / 64 : Nat) : Int) := by rw [Int.tdiv_eq_ediv_of_nonneg (by omega)]; rfl
  have q4 : (i : Int).tmod 64 = ((i % 64 : Nat) : Int) := by rw [Int.tmod_eq_emod_of_nonneg (by omega)]; rfl
  have n2 := hv.n2
  have hk : i % 64 < 64 := Nat.mod_lt _ (by decide)
  have haI : ((i / 64 : Nat) : Int) < (v.nw : Int) := by omega
  have WA : IntKind.i64.wrap ((i / 64 : Nat) : Int) = ((i / 64 : Nat) : Int) := IntWalk.i64_in _ (by omega)
  have WK : IntKind.i64.wrap ((i % 64 : Nat) : Int) = ((i % 64 : Nat) : Int) := IntWalk.i64_in _ (by omega)
  have FIN : Hid (∀ w', At (bvA p { v with b := (v.set i true).b }) w S w' → At (bvA p (v.set i true)) w S w') := Lib.hid fun _ h => h
  generalize wd (v.set i true).b (i / 64) = W1 at *
  generalize wd v.b (i / 64) = W0 at *
  generalize (v.set i true) = v1 at *
  generalize i / 64 = at' at *
  generalize i % 64 = k at *
  clear h hX R hv P
  go_enter Tryd.func44, Tryd.ntmps44
  go_wp2_with (go_at_call 64; refine CK.out.mono ?_; rintro e1 w1 ⟨rfl, rfl⟩)
  go_region_with (go_at_call 52; with_reducible refine PP.out.mono ?_; rintro e1 w2 ⟨rfl, hA⟩)
  all_goals go_wp2
  all_goals go_ret
  all_goals exact ⟨rfl, FIN.out _ hA⟩

set_option maxRecDepth 100000 in
theorem bv_clear_ok {p : Nat} {v : Bits} (hv : v.ok) (i : Nat) (hi : i < v.n) : Tri1 Tryd.prog 57 #[.pointer (some ⟨p, 0, none⟩), .int .i64 i] (bvA p v) (.int .i64 0) (bvA p (v.set i false)) := by
  intro w S h
  have CK := Lib.hid (bv_check_ok hv i hi w S h)
  have P := bv_put (p := p) hv (v.set i false).b (i / 64) (nw_of hi) (fun j hj => wd_set_other v i false j hj)
  have PP := Lib.hid ((At.refl h).drew.tri0 P)
  obtain ⟨bw, bu, hX, R⟩ := bv_open (At.refl h)
  have c0 := R.c0
  have cw := R.rw.cell (nw_of hi)
  have hnw := nw_of hi
  have OR := andn_pow (wd v.b (i / 64)) (i % 64) (wd_lt _ _) (Nat.mod_lt _ (by decide))
  rw [wd_off v i] at OR
  have q1 : (i : Int) / 64 = ((i / 64 : Nat) : Int) := rfl
  have q2 : (i : Int) % 64 = ((i % 64 : Nat) : Int) := rfl
  have q3 : (i : Int).tdiv 64 = ((i / 64 : Nat) : Int) := by rw [Int.tdiv_eq_ediv_of_nonneg (by omega)]; rfl
  have q4 : (i : Int).tmod 64 = ((i % 64 : Nat) : Int) := by rw [Int.tmod_eq_emod_of_nonneg (by omega)]; rfl
  have n2 := hv.n2
  have hk : i % 64 < 64 := Nat.mod_lt _ (by decide)
  have haI : ((i / 64 : Nat) : Int) < (v.nw : Int) := by omega
  have WA : IntKind.i64.wrap ((i / 64 : Nat) : Int) = ((i / 64 : Nat) : Int) := IntWalk.i64_in _ (by omega)
  have WK : IntKind.i64.wrap ((i % 64 : Nat) : Int) = ((i % 64 : Nat) : Int) := IntWalk.i64_in _ (by omega)
  have FIN : Hid (∀ w', At (bvA p { v with b := (v.set i false).b }) w S w' → At (bvA p (v.set i false)) w S w') := Lib.hid fun _ h => h
  generalize wd (v.set i false).b (i / 64) = W1 at *
  generalize wd v.b (i / 64) = W0 at *
  generalize (v.set i false) = v1 at *
  generalize i / 64 = at' at *
  generalize i % 64 = k at *
  clear h hX R hv P
  go_enter Tryd.func57, Tryd.ntmps57
  go_wp2_with (go_at_call 64; refine CK.out.mono ?_; rintro e1 w1 ⟨rfl, rfl⟩)
  go_region_with (go_at_call 52; with_reducible refine PP.out.mono ?_; rintro e1 w2 ⟨rfl, hA⟩)
  all_goals go_wp2
  all_goals go_ret
  all_goals exact ⟨rfl, FIN.out _ hA⟩

theorem bv_set_bad {p : Nat} {v : Bits} (hv : v.ok) (i : Int) (hi : i < 0 ∨ (v.n : Int) ≤ i) : Ask Tryd.prog 44 #[.pointer (some ⟨p, 0, none⟩), .int .i64 i] (bvA p v) (.int .i64 11) := by
  intro w S h
  have CK := Lib.hid (bv_check_bad hv i hi w S h)
  clear h hi
  go_enter Tryd.func44, Tryd.ntmps44
  go_wp2_with (go_at_call 64; refine CK.out.mono ?_; rintro e1 w1 ⟨rfl, rfl⟩)
  go_ret
  exact ⟨rfl, rfl⟩

theorem bv_clear_bad {p : Nat} {v : Bits} (hv : v.ok) (i : Int) (hi : i < 0 ∨ (v.n : Int) ≤ i) : Ask Tryd.prog 57 #[.pointer (some ⟨p, 0, none⟩), .int .i64 i] (bvA p v) (.int .i64 11) := by
  intro w S h
  have CK := Lib.hid (bv_check_bad hv i hi w S h)
  clear h hi
  go_enter Tryd.func57, Tryd.ntmps57
  go_wp2_with (go_at_call 64; refine CK.out.mono ?_; rintro e1 w1 ⟨rfl, rfl⟩)
  go_ret
  exact ⟨rfl, rfl⟩

theorem bv_len {p : Nat} {v : Bits} : Ask Tryd.prog 46 #[.pointer (some ⟨p, 0, none⟩)] (bvA p v) (.int .i64 v.n) := by
  intro w S h
  obtain ⟨bw, bu, hX, R⟩ := bv_open (At.refl h)
  have c2 := R.c2
  clear h hX R
  go_enter Tryd.func46, Tryd.ntmps46
  go_wp2
  go_ret
  exact ⟨rfl, rfl⟩

end Go.Proofs.YtaaapbfhedgnjaaDoor.BV
