/- A vector of bits (layer 11): Pick. -/
import Derived.Test.YtflkbefiopnigacDoorBvM
import Derived.Test.YtflkbefiopnigacDoorBvI
namespace Go.Proofs.YtflkbefiopnigacDoor.BV
open Go.ChangeShapes Go.WideShapes Go.ChangeAt Go.RowKit

/-- is j a one that has k ones ahead? -/
def pkP (b : Nat → Bool) (k : Int) (j : Nat) : Bool := b j && decide ((cp b j : Int) = k)

theorem cp_one {b : Nat → Bool} {j m : Nat} (h : b j = true) (hj : j < m) : cp b j + 1 ≤ cp b m := by
  have := cp_le_of b (show j + 1 ≤ m by omega)
  have e : cp b (j + 1) = cp b j + 1 := by show cp b j + (b j).toNat = _; rw [h]; rfl
  omega

theorem pk_some {b : Nat → Bool} {k : Int} {r n : Nat} (hr : r < n) (hb : b r = true) (hc : (cp b r : Int) = k) : nxF (pkP b k) 0 n = some r := by
  refine nxF_some _ _ (Nat.zero_le _) (by omega) ?_ fun j _ h2 => ?_
  · unfold pkP; rw [hb, decide_eq_true hc]; rfl
  · unfold pkP
    cases e : b j with
    | false => rfl
    | true =>
      have := cp_one e h2
      rw [decide_eq_false (by omega)]; rfl

theorem pk_none {b : Nat → Bool} {k : Int} {m n : Nat} (hn : n ≤ m) (hc : (cp b m : Int) ≤ k) : nxF (pkP b k) 0 n = none := by
  refine nxF_none _ _ fun j _ h2 => ?_
  unfold pkP
  cases e : b j with
  | false => rfl
  | true =>
    have := cp_one e (show j < m by omega)
    rw [decide_eq_false (by omega)]; rfl

theorem bv_pick_neg {p : Nat} (x : Int) (hx : x < 0) (w : World) : Calls Tryd.prog 17 #[.pointer (some ⟨p, 0, none⟩), .int .i64 x] w fun e w' => e = .returned (oV none) ∧ w = w' := by
  go_enter Tryd.func17, Tryd.ntmps17
  go_wp2
  go_ret2
  exact ⟨rfl, rfl⟩

theorem wd_cnt (b : Nat → Bool) (i : Nat) : cnt (wd b i &&& runN 0 64) 64 = cp (fun j => b (64 * i + j)) 64 := cnt_all _ _ fun j hj => wd_bit b i j hj

set_option maxRecDepth 100000 in
theorem bv_pick {p : Nat} {v : Bits} (hv : v.ok) (x : Int) (hx : 0 ≤ x) (hx2 : x ≤ 9223372036854775807) (w : World) (S : Nat → Prop) (h : (bvA p v).holds w S) :
    Calls Tryd.prog 17 #[.pointer (some ⟨p, 0, none⟩), .int .i64 x] w fun e w' => e = .returned (oV (nxF (pkP v.b x) 0 v.n)) ∧ w = w' := by
  obtain ⟨bw, bu, hX, R⟩ := bv_open (At.refl h)
  have c0 := R.c0
  have RW := Lib.hid (fun i (hi : i < v.nw) => R.rw.cell hi)
  have hnw : v.nw ≤ 16384 := by have := hv.n2; unfold Bits.nw; omega
  have HN : Hid (v.n ≤ 64 * v.nw) := Lib.hid (by unfold Bits.nw; omega)
  obtain ⟨V, hV⟩ : ∃ V, oV (nxF (pkP v.b x) 0 v.n) = V := ⟨_, rfl⟩
  rw [hV]
  have HV := Lib.hid hV
  have NL := Lib.hid (fun r (hr : v.b r = true) => n_lt hv hr)
  clear h hX R hv hV
  go_enter Tryd.func17, Tryd.ntmps17
  go_wp2_with fail
  go_loopw [1, 20] (fun u z wr => ∃ (kk : Int) (i : Nat), u = .int .i64 kk ∧ z = .int .i64 i ∧ 0 ≤ kk ∧ kk ≤ x ∧ i ≤ v.nw ∧ wr = w ∧ Hid (kk + (cp v.b (64 * i) : Int) = x)) (fun _ z _ => v.nw - (intOf z).toNat)
  case atStart => exact ⟨x, 0, rfl, rfl, hx, by omega, Nat.zero_le _, rfl, Lib.hid (by show x + ((0 : Nat) : Int) = x; omega)⟩
  case round =>
    obtain ⟨kk, i, rfl, rfl, hk0, hk1, hi, rfl, HB⟩ := hrel
    by_cases hlt : i < v.nw
    · have hltI : (i : Int) < (v.nw : Int) := by omega
      have cw := RW.out i hlt
      have N := count_any (wd v.b i) (wd_lt _ _) 0 64 wr
      rw [wd_cnt] at N
      have N := Lib.hid N
      have PK := Lib.hid (pick_any (wd v.b i) (wd_lt _ _) kk wr)
      have CB := cp64 (fun j => v.b (64 * i + j))
      have ADD := cp_add v.b (64 * i) 64
      have BIT := Lib.hid (fun j hj => wd_bit v.b i j hj)
      by_cases ho : kk < (cp (fun j => v.b (64 * i + j)) 64 : Int)
      · have FIN : Hid (∀ r, isPick (wd v.b i) kk r → r < 64 ∧ nxF (pkP v.b x) 0 v.n = some (64 * i + r)) := Lib.hid fun r hp => by
          rcases hp with ⟨h1, h2⟩ | ⟨h1, h2, h3⟩
          · exfalso
            rw [cp_congr 64 (fun j hj => BIT.out j hj)] at h1
            omega
          · refine ⟨h1, ?_⟩
            have hb : v.b (64 * i + r) = true := by rw [← BIT.out r h1]; exact h2
            refine pk_some (NL.out _ hb) hb ?_
            rw [cp_add]
            rw [cp_congr r (fun j hj => BIT.out j (by omega))] at h3
            have := HB.out
            omega
        generalize cp (fun j => v.b (64 * i + j)) 64 = o at *
        generalize wd v.b i = U at *
        clear ADD BIT hlt HB
        go_wp2_with (first | (go_at_call 44; with_reducible refine N.out.mono ?_; rintro e1 w1 ⟨rfl, rfl⟩) | (go_at_call 45; with_reducible refine PK.out.mono ?_; rintro e1 w1 ⟨r, hr, rfl, rfl⟩; have hr64 := (FIN.out r hr).1; have hrI : (r : Int) < 64 := by omega))
        go_ret2
        refine ⟨?_, rfl⟩
        rw [← HV.out, (FIN.out r hr).2]
        unfold oV
        simp
        omega
      · have GO : Hid (kk - (cp (fun j => v.b (64 * i + j)) 64 : Int) + (cp v.b (64 * (i + 1)) : Int) = x) := Lib.hid (by
          have := HB.out
          rw [show 64 * (i + 1) = 64 * i + 64 by omega, ADD]
          omega)
        generalize cp (fun j => v.b (64 * i + j)) 64 = o at *
        generalize wd v.b i = U at *
        clear ADD BIT hlt HB PK
        go_wp2_with (go_at_call 44; with_reducible refine N.out.mono ?_; rintro e1 w1 ⟨rfl, rfl⟩)
        exact ⟨⟨kk - o, i + 1, by go_num, by go_num, by omega, by omega, by omega, by trivial, GO⟩, by first | (simp [intOf]; done) | (simp [intOf]; omega)⟩
    · obtain rfl : i = v.nw := by omega
      have hltI : ¬ (v.nw : Int) < (v.nw : Int) := by omega
      have FIN : Hid (nxF (pkP v.b x) 0 v.n = none) := Lib.hid (pk_none HN.out (by have := HB.out; omega))
      go_wp2_with fail
      go_ret2
      refine ⟨?_, rfl⟩
      rw [← HV.out, FIN.out]
      rfl

end Go.Proofs.YtflkbefiopnigacDoor.BV
