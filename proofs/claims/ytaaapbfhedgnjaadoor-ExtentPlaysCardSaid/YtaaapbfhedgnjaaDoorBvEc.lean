/- A vector of bits (layer 11): what Count does to a word of a range. -/
import Derived.Test.YtaaapbfhedgnjaaDoorBvE
namespace Go.Proofs.YtaaapbfhedgnjaaDoor.BV
open Go.ChangeShapes Go.WideShapes Go.ChangeAt Go.RowKit

set_option maxHeartbeats 4000000 in
set_option maxRecDepth 100000 in
theorem bv_count1 {nb vb p g d : Nat} {v : Bits} (hv : v.ok) (k mk : Nat) (hk : k < v.nw) (hm : mk < 18446744073709551616) (hg : g ≤ 1048576) (hd : d ≤ 64)
    (hcn : cnt ((wd v.b k &&& mk) &&& runN 0 64) 64 = d) :
    Tri1 Tryd.prog 75 #[.int .i64 k, .int .u64 mk, .pointer (some ⟨nb, 0, none⟩), .pointer (some ⟨vb, 0, none⟩)] (cA nb vb p g v) (.tuple #[]) (cA nb vb p (g + d) v) := by
  intro w S h
  obtain ⟨n0, n1, n2, n3⟩ := cA_cells (At.refl h)
  obtain ⟨bw, bu, R, ne1, ne2, ne3⟩ := cA_open (At.refl h)
  have c0 := R.c0
  have cw := R.rw.cell hk
  have AN := u64_and_nat (wd v.b k) mk (wd_lt _ _) hm
  have CN := Lib.hid (fun w => count_any (wd v.b k &&& mk) (Nat.lt_of_le_of_lt Nat.and_le_left (wd_lt _ _)) 0 64 w)
  rw [hcn] at CN
  have hnw : v.nw ≤ 16384 := by have := hv.n2; unfold Bits.nw; omega
  have hkI : (k : Int) < (v.nw : Int) := by omega
  have H0 := Lib.hid (At.refl h)
  have gd : ((g + d : Nat) : Int) = (g : Int) + (d : Int) := by omega
  have WGD : IntKind.i64.wrap ((g : Int) + (d : Int)) = (g : Int) + (d : Int) := IntWalk.i64_in _ (by omega)
  have A1 := (cA_set (At.refl h) (g + d)).drew
  rw [gd] at A1
  have A1 := Lib.hid A1
  generalize wd v.b k &&& mk = W2 at *
  generalize wd v.b k = W0 at *
  have hgI : (g : Int) ≤ 1048576 := by omega
  have hdI : (d : Int) ≤ 64 := by omega
  clear h R hv hcn hk hg hd hm
  go_enter Tryd.func75, Tryd.ntmps75
  go_wp2_with fail
  go_region_with (go_at_call 51; with_reducible refine (CN.out _).mono ?_; rintro e1 w1 ⟨rfl, rfl⟩)
  all_goals go_wp2
  all_goals go_end0
  all_goals exact ⟨rfl, A1.out⟩

end Go.Proofs.YtaaapbfhedgnjaaDoor.BV
