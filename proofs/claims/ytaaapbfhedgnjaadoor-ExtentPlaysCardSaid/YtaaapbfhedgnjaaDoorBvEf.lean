/- A vector of bits (layer 11): what Fill does to a word of a range. -/
import Derived.Test.YtaaapbfhedgnjaaDoorBvE
namespace Go.Proofs.YtaaapbfhedgnjaaDoor.BV
open Go.ChangeShapes Go.WideShapes Go.ChangeAt Go.RowKit

set_option maxHeartbeats 4000000 in
set_option maxRecDepth 100000 in
theorem bv_fill1 {nb vb p g d : Nat} {v : Bits} (hv : v.ok) (c : Nat → Bool) (k mk : Nat) (hk : k < v.nw) (hm : mk < 18446744073709551616) (hg : g ≤ 1048576) (hd : d ≤ 64)
    (hc : ∀ j, j ≠ k → wd c j = wd v.b j) (hck : wd c k = wd v.b k ||| mk) (hcn : cnt ((mk &&& (18446744073709551615 - wd v.b k)) &&& runN 0 64) 64 = d) :
    Tri1 Tryd.prog 50 #[.int .i64 k, .int .u64 mk, .pointer (some ⟨nb, 0, none⟩), .pointer (some ⟨vb, 0, none⟩)] (cA nb vb p g v) (.tuple #[]) (cA nb vb p (g + d) { v with b := c }) := by
  intro w S h
  obtain ⟨n0, n1, n2, n3⟩ := cA_cells (At.refl h)
  obtain ⟨bw, bu, R, ne1, ne2, ne3⟩ := cA_open (At.refl h)
  have c0 := R.c0
  have cw := R.rw.cell hk
  have AN := u64_andNot_nat mk (wd v.b k) hm (wd_lt _ _)
  have OR := u64_or_nat (wd v.b k) mk (wd_lt _ _) hm
  have CN := Lib.hid (fun w => count_any (mk &&& (18446744073709551615 - wd v.b k)) (Nat.lt_of_le_of_lt Nat.and_le_left hm) 0 64 w)
  rw [hcn] at CN
  have P := bv_put (p := p) hv c k hk hc
  rw [hck] at P
  have hnw : v.nw ≤ 16384 := by have := hv.n2; unfold Bits.nw; omega
  have hkI : (k : Int) < (v.nw : Int) := by omega
  have H0 := Lib.hid (At.refl h)
  have gd : ((g + d : Nat) : Int) = (g : Int) + (d : Int) := by omega
  have WGD : IntKind.i64.wrap ((g : Int) + (d : Int)) = (g : Int) + (d : Int) := IntWalk.i64_in _ (by omega)
  have A1 := (cA_set (At.refl h) (g + d)).drew
  rw [gd] at A1
  have A1 := Lib.hid A1
  have REST : Hid (∀ w', At (cA nb vb p (g + d) v) w S w' → ∃ x cx, w'.cell? ⟨vb, 0, none⟩ = some (.pointer (some ⟨p, 0, none⟩)) ∧ w'.cell? ⟨p, 0, none⟩ = some (.slice (some ⟨x, 0, none⟩) v.nw cx) ∧ w'.cell? ⟨x, k, none⟩ = some (.int .u64 (wd v.b k : Nat))) := Lib.hid fun _ h' => by
    obtain ⟨bw, bu, R, _⟩ := cA_open h'
    exact ⟨bw.b, bw.cap, (cA_cells h').2.2.1, R.c0, R.rw.cell hk⟩
  have PH := Lib.hid (fun w' (h' : At (cA nb vb p (g + d) v) w S w') => cA_bv P h'.drew)
  generalize wd v.b k ||| mk = W1 at *
  generalize mk &&& (18446744073709551615 - wd v.b k) = W2 at *
  generalize wd v.b k = W0 at *
  have hgI : (g : Int) ≤ 1048576 := by omega
  have hdI : (d : Int) ≤ 64 := by omega
  clear h R hv hc hck hcn hk hg hd P hm
  go_enter Tryd.func50, Tryd.ntmps50
  go_wp2_with fail
  go_region_with (go_at_call 51; with_reducible refine (CN.out _).mono ?_; rintro e1 w1 ⟨rfl, rfl⟩)
  all_goals (have A2 := A1.out; obtain ⟨wz, hwz⟩ : ∃ wz, (w.setCell ⟨nb, 0, none⟩ (.int .i64 ((g : Int) + (d : Int)))).drew = wz := ⟨_, rfl⟩; rw [hwz] at A2 ⊢; clear hwz; clear n0 n1 n2 n3 c0 cw; obtain ⟨x, cx, hth⟩ := REST.out _ A2; have PP := Lib.hid (PH.out _ A2); clear A2 A1 REST PH CN; refine Hid.out ?_)
  all_goals refine Lib.hid ?_
  all_goals go_wp2_with fail
  all_goals obtain ⟨h1, h2, h3⟩ := hth
  all_goals go_region_with (go_at_call 52; with_reducible refine PP.out.mono ?_; rintro e1 w1 ⟨rfl, hA⟩)
  all_goals go_wp2
  all_goals go_end0
  all_goals exact ⟨rfl, hA⟩

end Go.Proofs.YtaaapbfhedgnjaaDoor.BV
