/- The reference of the vector of bits (ullageref11): Lay. -/
import Derived.Test.YtflkbefiopnigacDoorBvRg
namespace Go.Proofs.YtflkbefiopnigacDoor.BV
open Go.ChangeShapes Go.WideShapes Go.ChangeAt Go.RowKit

theorem lA_set {w0 w : World} {S : Nat → Prop} {q n : Nat} {b : Nat → Bool} {x y : Int} {z : Bool} {i : Nat} (hr : inR n x y i = true) (h : At (lA q n (laidB b n x y z i)) w0 S w) :
    At (lA q n (laidB b n x y z (i + 1))) w0 S (w.setCell ⟨q, i, none⟩ (.bool z)) := by
  have h1 := (At.set_row (A := pur True) h.unit i (.bool z)).nounit
  have e : (fun j => if j = i then Value.bool z else .bool (laidB b n x y z i j)) = (fun j => .bool (laidB b n x y z (i + 1) j)) := by
    funext j
    unfold laidB
    by_cases e : j = i
    · subst e
      rw [if_pos rfl, hr, decide_eq_true (by omega : j < j + 1)]; rfl
    · rw [if_neg e, show decide (j < i + 1) = decide (j < i) by rw [decide_eq_decide]; omega]
  rw [e] at h1
  exact h1

theorem laidB_skip {b : Nat → Bool} {n : Nat} {x y : Int} {z : Bool} {i : Nat} (h : inR n x y i = true → b i = z) : laidB b n x y z (i + 1) = laidB b n x y z i := by
  funext j
  unfold laidB
  by_cases e : j = i
  · subst e
    rw [decide_eq_true (by omega : j < j + 1), decide_eq_false (by omega : ¬ j < j), Bool.and_true, Bool.and_false, if_neg (by simp : ¬ false = true)]
    by_cases g : inR n x y j = true
    · rw [if_pos g, h g]
    · rw [if_neg g]
  · rw [show decide (j < i + 1) = decide (j < i) by rw [decide_eq_decide]; omega]

theorem laidB_zero {b : Nat → Bool} {n : Nat} {x y : Int} {z : Bool} : laidB b n x y z 0 = b := by
  funext j
  unfold laidB
  rw [decide_eq_false (by omega : ¬ j < 0), Bool.and_false]; rfl

theorem laidB_own {b : Nat → Bool} {n : Nat} {x y : Int} {z : Bool} {i : Nat} : laidB b n x y z i i = b i := by
  unfold laidB
  rw [decide_eq_false (by omega : ¬ i < i), Bool.and_false]; rfl

theorem laidB_end {b : Nat → Bool} {n : Nat} {x y : Int} {z : Bool} : laidB b n x y z n = fun j => if inR n x y j then z else b j := by
  funext j
  unfold laidB
  by_cases h : j < n
  · rw [decide_eq_true h, Bool.and_true]
  · rw [inR_not (by omega)]; rfl

set_option maxRecDepth 100000 in
theorem r_lay {q n : Nat} {b : Nat → Bool} (hn : n ≤ 1048576) (x y : Int) (z : Bool) : Tri1 Tryd.prog 38 #[.slice (some ⟨q, 0, none⟩) n n, .int .i64 x, .int .i64 y, .bool z] (lA q n b) (.int .i64 (cp (offR b n x y z) n : Nat)) (lA q n (fun j => if inR n x y j then z else b j)) := by
  intro w S h
  have A0 : Hid (At (lA q n (laidB b n x y z 0)) w S w) := Lib.hid (by rw [laidB_zero]; exact At.refl h)
  have BD := Lib.hid (fun i => cp_le (offR b n x y z) i)
  have ST : Hid (∀ i, cp (offR b n x y z) (i + 1) = cp (offR b n x y z) i + (offR b n x y z i).toNat) := Lib.hid fun _ => rfl
  obtain ⟨G, hG⟩ : ∃ G : Nat → Nat, G = cp (offR b n x y z) := ⟨_, rfl⟩
  rw [← hG] at BD ST ⊢
  have G0 : G 0 = 0 := by rw [hG]; rfl
  clear h hG
  go_enter Tryd.func38, Tryd.ntmps38
  go_wp2_with fail
  go_loopw [9, 10] (fun u k wr => ∃ i : Nat, u = .int .i64 (G i : Nat) ∧ k = .int .i64 i ∧ i ≤ n ∧ Hid (At (lA q n (laidB b n x y z i)) w S wr)) (fun _ k _ => n - (intOf k).toNat)
  case atStart => exact ⟨0, by rw [G0]; rfl, rfl, Nat.zero_le _, A0⟩
  case round =>
    clear A0
    obtain ⟨i, rfl, rfl, hi, HA⟩ := hrel
    by_cases hlt : i < n
    · have hltI : (i : Int) < (n : Int) := by omega
      have R := lA_row HA.out
      have cw := R.cell hlt
      have fw := R.frozen i
      rw [laidB_own] at cw
      have bd := BD.out i
      have st := ST.out i
      by_cases hx : x ≤ (i : Int)
      · by_cases hy : (i : Int) < y
        · by_cases hb : b i = z
          · have e : offR b n x y z i = false := by unfold offR; rw [hb]; simp
            rw [e] at st
            rw [hb] at cw
            have st : Hid (G (i + 1) = G i) := Lib.hid st
            have GO : Hid (At (lA q n (laidB b n x y z (i + 1))) w S wr) := Lib.hid (by rw [laidB_skip fun _ => hb]; exact HA.out)
            clear hlt hb e R HA fw
            generalize hg : G i = g at *
            cases z <;> go_wp2_with fail
            all_goals exact ⟨⟨i + 1, by first | (rw [st.out]; done) | (rw [st.out]; go_num), by go_num, by omega, GO⟩, by simp [intOf]; omega⟩
          · have hr : inR n x y i = true := inR_iff.2 ⟨hx, hy, hlt⟩
            have e : offR b n x y z i = true := by unfold offR; rw [hr]; simpa using hb
            rw [e] at st
            have st : Hid (G (i + 1) = G i + 1) := Lib.hid st
            have hb' : b i = !z := by cases hb2 : b i <;> cases z <;> simp_all
            rw [hb'] at cw
            have GO : Hid (At (lA q n (laidB b n x y z (i + 1))) w S (wr.setCell ⟨q, i, none⟩ (.bool z))) := Lib.hid (lA_set hr HA.out)
            clear hlt hb hb' e hr R HA
            generalize hg : G i = g at *
            cases z <;> go_wp2_with fail
            all_goals exact ⟨⟨i + 1, by first | (rw [st.out]; done) | (rw [st.out]; go_num), by go_num, by omega, GO⟩, by simp [intOf]; omega⟩
        · have e : offR b n x y z i = false := by unfold offR; rw [inR_not (by omega)]; rfl
          rw [e] at st
          have st : Hid (G (i + 1) = G i) := Lib.hid st
          have GO : Hid (At (lA q n (laidB b n x y z (i + 1))) w S wr) := Lib.hid (by rw [laidB_skip fun g => absurd g (by rw [inR_not (by omega)]; simp)]; exact HA.out)
          have hy' : y ≤ (i : Int) := by omega
          clear hlt e R HA fw
          generalize hg : G i = g at *
          go_wp2_with fail
          exact ⟨⟨i + 1, by first | (rw [st.out]; done) | (rw [st.out]; go_num), by go_num, by omega, GO⟩, by simp [intOf]; omega⟩
      · have e : offR b n x y z i = false := by unfold offR; rw [inR_not (by omega)]; rfl
        rw [e] at st
        have st : Hid (G (i + 1) = G i) := Lib.hid st
        have GO : Hid (At (lA q n (laidB b n x y z (i + 1))) w S wr) := Lib.hid (by rw [laidB_skip fun g => absurd g (by rw [inR_not (by omega)]; simp)]; exact HA.out)
        have hx' : (i : Int) < x := by omega
        clear hlt e R HA fw
        generalize hg : G i = g at *
        go_wp2_with fail
        exact ⟨⟨i + 1, by first | (rw [st.out]; done) | (rw [st.out]; go_num), by go_num, by omega, GO⟩, by simp [intOf]; omega⟩
    · obtain rfl : i = n := by omega
      have hltI : ¬ (i : Int) < (i : Int) := by omega
      have FIN := Lib.hid HA.out
      rw [laidB_end] at FIN
      go_wp2_with fail
      go_ret
      exact ⟨rfl, FIN.out⟩

end Go.Proofs.YtflkbefiopnigacDoor.BV
