/- The reference of the vector of bits (ullageref11): a row of bools. -/
import Derived.Test.YtflkbefiopnigacDoorBvK
namespace Go.Proofs.YtflkbefiopnigacDoor.BV
open Go.ChangeShapes Go.WideShapes Go.ChangeAt Go.RowKit

/-- block q is a row of n bools -/
def lA (q n : Nat) (b : Nat → Bool) : Asn := row q 4 n (fun i => .bool (b i))

theorem lA_row {w0 w : World} {S : Nat → Prop} {q n : Nat} {b : Nat → Bool} (h : At (lA q n b) w0 S w) : w.rowIs q 4 n (fun i => .bool (b i)) :=
  At.rowIs (A := pur True) h.unit

theorem r_is {q n : Nat} {b : Nat → Bool} (hn : n ≤ 1048576) (x : Int) : Ask Tryd.prog 22 #[.slice (some ⟨q, 0, none⟩) n n, .int .i64 x] (lA q n b) (.bool (decide (0 ≤ x ∧ x < (n : Int)) && b x.toNat)) := by
  intro w S h
  have R := lA_row (At.refl h)
  by_cases h0 : 0 ≤ x
  · by_cases h1 : x < (n : Int)
    · obtain ⟨k, rfl⟩ := Int.eq_ofNat_of_zero_le h0
      have hk : k < n := by omega
      have cw := R.cell hk
      rw [decide_eq_true (And.intro h0 h1), Bool.true_and, Int.toNat_natCast]
      generalize b k = B at *
      clear h R hk
      go_enter Tryd.func22, Tryd.ntmps22
      go_wp2
      go_ret
      exact ⟨rfl, rfl⟩
    · rw [decide_eq_false (fun g => h1 g.2), Bool.false_and]
      have h1' : (n : Int) ≤ x := by omega
      clear h R
      go_enter Tryd.func22, Tryd.ntmps22
      go_wp2
      go_ret
      exact ⟨rfl, rfl⟩
  · rw [decide_eq_false (fun g => h0 g.1), Bool.false_and]
    have h0' : x < 0 := by omega
    clear h R
    go_enter Tryd.func22, Tryd.ntmps22
    go_wp2
    go_ret
    exact ⟨rfl, rfl⟩

set_option maxRecDepth 100000 in
theorem r_count {q n : Nat} {b : Nat → Bool} (hn : n ≤ 1048576) (x y : Int) : Ask Tryd.prog 20 #[.slice (some ⟨q, 0, none⟩) n n, .int .i64 x, .int .i64 y] (lA q n b) (.int .i64 (cp (onR b n x y) n : Nat)) := by
  intro w S h
  have RW := Lib.hid (fun i (hi : i < n) => (lA_row (At.refl h)).cell hi)
  have BD := Lib.hid (fun i => cp_le (onR b n x y) i)
  have ST : Hid (∀ i, cp (onR b n x y) (i + 1) = cp (onR b n x y) i + (onR b n x y i).toNat) := Lib.hid fun _ => rfl
  obtain ⟨G, hG⟩ : ∃ G : Nat → Nat, G = cp (onR b n x y) := ⟨_, rfl⟩
  rw [← hG] at BD ST ⊢
  have G0 : G 0 = 0 := by rw [hG]; rfl
  clear h hG
  go_enter Tryd.func20, Tryd.ntmps20
  go_wp2_with fail
  go_loopw [7, 8] (fun u z wr => ∃ i : Nat, u = .int .i64 (G i : Nat) ∧ z = .int .i64 i ∧ i ≤ n ∧ wr = w) (fun _ z _ => n - (intOf z).toNat)
  case atStart => exact ⟨0, by rw [G0]; rfl, rfl, Nat.zero_le _, rfl⟩
  case round =>
    obtain ⟨i, rfl, rfl, hi, rfl⟩ := hrel
    by_cases hlt : i < n
    · have hltI : (i : Int) < (n : Int) := by omega
      have cw := RW.out i hlt
      have bd := BD.out i
      have st := ST.out i
      by_cases hx : x ≤ (i : Int)
      · by_cases hy : (i : Int) < y
        · cases hb : b i with
          | true =>
            rw [hb] at cw
            have e : onR b n x y i = true := by unfold onR; rw [inR_iff.2 ⟨hx, hy, hlt⟩, hb]; rfl
            rw [e] at st
            have st : Hid (G (i + 1) = G i + 1) := Lib.hid st
            clear hlt hb e
            generalize hg : G i = g at *
            go_wp2_with fail
            exact ⟨⟨i + 1, by rw [st.out]; go_num, by go_num, by omega, by trivial⟩, by simp [intOf]; omega⟩
          | false =>
            rw [hb] at cw
            have e : onR b n x y i = false := by unfold onR; rw [hb, Bool.and_false]
            rw [e] at st
            have st : Hid (G (i + 1) = G i) := Lib.hid st
            clear hlt hb e
            generalize hg : G i = g at *
            go_wp2_with fail
            exact ⟨⟨i + 1, by rw [st.out], by go_num, by omega, by trivial⟩, by simp [intOf]; omega⟩
        · have e : onR b n x y i = false := by unfold onR; rw [inR_not (by omega)]; rfl
          rw [e] at st
          have st : Hid (G (i + 1) = G i) := Lib.hid st
          have hy' : y ≤ (i : Int) := by omega
          clear hlt e
          generalize hg : G i = g at *
          go_wp2_with fail
          exact ⟨⟨i + 1, by rw [st.out], by go_num, by omega, by trivial⟩, by simp [intOf]; omega⟩
      · have e : onR b n x y i = false := by unfold onR; rw [inR_not (by omega)]; rfl
        rw [e] at st
        have st : Hid (G (i + 1) = G i) := Lib.hid st
        have hx' : (i : Int) < x := by omega
        clear hlt e
        generalize hg : G i = g at *
        go_wp2_with fail
        exact ⟨⟨i + 1, by rw [st.out], by go_num, by omega, by trivial⟩, by simp [intOf]; omega⟩
    · obtain rfl : i = n := by omega
      have hltI : ¬ (i : Int) < (i : Int) := by omega
      go_wp2_with fail
      go_ret
      exact ⟨rfl, rfl⟩

end Go.Proofs.YtflkbefiopnigacDoor.BV
