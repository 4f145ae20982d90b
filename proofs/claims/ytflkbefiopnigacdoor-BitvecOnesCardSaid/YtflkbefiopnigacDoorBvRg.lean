/- The reference of the vector of bits (ullageref11): which bit is found, and Lay. -/
import Derived.Test.YtflkbefiopnigacDoorBvRf
namespace Go.Proofs.YtflkbefiopnigacDoor.BV
open Go.ChangeShapes Go.WideShapes Go.ChangeAt Go.RowKit

set_option maxRecDepth 100000 in
theorem r_next {q n : Nat} {b : Nat → Bool} (hn : n ≤ 1048576) (x : Int) : Ask Tryd.prog 14 #[.slice (some ⟨q, 0, none⟩) n n, .int .i64 x] (lA q n b) (oV (nxF b (max x 0).toNat (n - (max x 0).toNat))) := by
  intro w S h
  have RW := Lib.hid (fun i (hi : i < n) => (lA_row (At.refl h)).cell hi)
  obtain ⟨V, hV⟩ : ∃ V, oV (nxF b (max x 0).toNat (n - (max x 0).toNat)) = V := ⟨_, rfl⟩
  rw [hV]
  have HV := Lib.hid hV
  clear h hV
  go_enter Tryd.func14, Tryd.ntmps14
  go_wp2_with fail
  go_loopw [6] (fun z wr => ∃ i : Nat, z = .int .i64 i ∧ i ≤ n ∧ wr = w ∧ Hid (∀ k, (max x 0).toNat ≤ k → k < i → b k = false)) (fun z _ => n - (intOf z).toNat)
  case atStart => exact ⟨0, rfl, Nat.zero_le _, rfl, Lib.hid fun k _ h2 => by omega⟩
  case round =>
    obtain ⟨i, rfl, hi, rfl, HB⟩ := hrel
    by_cases hlt : i < n
    · have hltI : (i : Int) < (n : Int) := by omega
      have cw := RW.out i hlt
      by_cases hx : x ≤ (i : Int)
      · cases hb : b i with
        | true =>
          rw [hb] at cw
          have FIN : Hid (nxF b (max x 0).toNat (n - (max x 0).toNat) = some i) := Lib.hid (nxF_some _ _ (by omega) (by omega) hb HB.out)
          clear hlt hb HB
          go_wp2_with fail
          go_ret2
          refine ⟨?_, rfl⟩
          rw [← HV.out, FIN.out]
          rfl
        | false =>
          rw [hb] at cw
          have GO : Hid (∀ k, (max x 0).toNat ≤ k → k < i + 1 → b k = false) := Lib.hid fun k h1 h2 => by
            by_cases e : k = i
            · rw [e]; exact hb
            · exact HB.out k h1 (by omega)
          clear hlt hb HB
          go_wp2_with fail
          exact ⟨⟨i + 1, by go_num, by omega, by trivial, GO⟩, by simp [intOf]; omega⟩
      · have GO : Hid (∀ k, (max x 0).toNat ≤ k → k < i + 1 → b k = false) := Lib.hid fun k h1 h2 => HB.out k h1 (by omega)
        have hx' : (i : Int) < x := by omega
        clear hlt HB
        go_wp2_with fail
        exact ⟨⟨i + 1, by go_num, by omega, by trivial, GO⟩, by simp [intOf]; omega⟩
    · obtain rfl : i = n := by omega
      have hltI : ¬ (i : Int) < (i : Int) := by omega
      have FIN : Hid (nxF b (max x 0).toNat (i - (max x 0).toNat) = none) := Lib.hid (nxF_none _ _ fun k h1 h2 => HB.out k h1 (by omega))
      go_wp2_with fail
      go_ret2
      refine ⟨?_, rfl⟩
      rw [← HV.out, FIN.out]
      rfl

set_option maxRecDepth 100000 in
theorem r_last {q n : Nat} {b : Nat → Bool} (hn : n ≤ 1048576) (x : Int) : Ask Tryd.prog 16 #[.slice (some ⟨q, 0, none⟩) n n, .int .i64 x] (lA q n b) (oV (lsF b (min x n).toNat)) := by
  intro w S h
  have RW := Lib.hid (fun i (hi : i < n) => (lA_row (At.refl h)).cell hi)
  obtain ⟨V, hV⟩ : ∃ V, oV (lsF b (min x n).toNat) = V := ⟨_, rfl⟩
  rw [hV]
  have HV := Lib.hid hV
  have W1 : IntKind.i64.wrap ((n : Int) - 1) = (n : Int) - 1 := IntWalk.i64_in _ (by omega)
  clear h hV
  go_enter Tryd.func16, Tryd.ntmps16
  go_wp2_with fail
  go_loopw [6] (fun z wr => ∃ i : Nat, z = .int .i64 ((i : Int) - 1) ∧ i ≤ n ∧ wr = w ∧ Hid (∀ k, i ≤ k → k < (min x n).toNat → b k = false)) (fun z _ => (intOf z + 1).toNat)
  case atStart => exact ⟨n, rfl, Nat.le_refl _, rfl, Lib.hid fun k _ h2 => by omega⟩
  case round =>
    obtain ⟨i1, rfl, hi, rfl, HB⟩ := hrel
    by_cases hz : i1 = 0
    · subst hz
      have FIN : Hid (lsF b (min x n).toNat = none) := Lib.hid (lsF_none _ fun k h2 => HB.out k (Nat.zero_le _) h2)
      go_wp2_with fail
      go_ret2
      refine ⟨?_, rfl⟩
      rw [← HV.out, FIN.out]
      rfl
    · obtain ⟨i, rfl⟩ : ∃ i, i1 = i + 1 := ⟨i1 - 1, by omega⟩
      rw [show ((i + 1 : Nat) : Int) - 1 = (i : Int) by omega]
      have hlt : i < n := by omega
      have hltI : (i : Int) < (n : Int) := by omega
      have cw := RW.out i hlt
      by_cases hx : (i : Int) < x
      · cases hb : b i with
        | true =>
          rw [hb] at cw
          have FIN : Hid (lsF b (min x n).toNat = some i) := Lib.hid (lsF_some _ (by omega) hb fun k h1 h2 => HB.out k (by omega) h2)
          clear hlt hb HB hz
          go_wp2_with fail
          go_ret2
          refine ⟨?_, rfl⟩
          rw [← HV.out, FIN.out]
          rfl
        | false =>
          rw [hb] at cw
          have GO : Hid (∀ k, i ≤ k → k < (min x n).toNat → b k = false) := Lib.hid fun k h1 h2 => by
            by_cases e : k = i
            · rw [e]; exact hb
            · exact HB.out k (by omega) h2
          clear hlt hb HB hz
          go_wp2_with fail
          exact ⟨⟨i, by go_num, by omega, by trivial, GO⟩, by first | (simp [intOf]; done) | (simp [intOf]; omega)⟩
      · have GO : Hid (∀ k, i ≤ k → k < (min x n).toNat → b k = false) := Lib.hid fun k h1 h2 => by omega
        have hx' : x ≤ (i : Int) := by omega
        clear hlt HB hz
        go_wp2_with fail
        exact ⟨⟨i, by go_num, by omega, by trivial, GO⟩, by first | (simp [intOf]; done) | (simp [intOf]; omega)⟩

set_option maxRecDepth 100000 in
theorem r_pick {q n : Nat} {b : Nat → Bool} (hn : n ≤ 1048576) (x : Int) : Ask Tryd.prog 18 #[.slice (some ⟨q, 0, none⟩) n n, .int .i64 x] (lA q n b) (oV (nxF (pkP b x) 0 n)) := by
  intro w S h
  have RW := Lib.hid (fun i (hi : i < n) => (lA_row (At.refl h)).cell hi)
  obtain ⟨V, hV⟩ : ∃ V, oV (nxF (pkP b x) 0 n) = V := ⟨_, rfl⟩
  rw [hV]
  have HV := Lib.hid hV
  have BD := Lib.hid (fun i => cp_le b i)
  have ST : Hid (∀ i, cp b (i + 1) = cp b i + (b i).toNat) := Lib.hid fun _ => rfl
  have PK : Hid (∀ i, pkP b x i = (b i && decide ((cp b i : Int) = x))) := Lib.hid fun _ => rfl
  obtain ⟨G, hG⟩ : ∃ G : Nat → Nat, G = cp b := ⟨_, rfl⟩
  rw [← hG] at BD ST PK
  have G0 : G 0 = 0 := by rw [hG]; rfl
  clear h hV hG
  go_enter Tryd.func18, Tryd.ntmps18
  go_wp2_with fail
  go_loopw [6, 7] (fun u z wr => ∃ i : Nat, u = .int .i64 (G i : Nat) ∧ z = .int .i64 i ∧ i ≤ n ∧ wr = w ∧ Hid (∀ k, k < i → pkP b x k = false)) (fun _ z _ => n - (intOf z).toNat)
  case atStart => exact ⟨0, by rw [G0]; rfl, rfl, Nat.zero_le _, rfl, Lib.hid fun k h2 => by omega⟩
  case round =>
    obtain ⟨i, rfl, rfl, hi, rfl, HB⟩ := hrel
    by_cases hlt : i < n
    · have hltI : (i : Int) < (n : Int) := by omega
      have cw := RW.out i hlt
      have bd := BD.out i
      have st := ST.out i
      have pk := PK.out i
      cases hb : b i with
      | true =>
        rw [hb] at cw st pk
        have st : Hid (G (i + 1) = G i + 1) := Lib.hid st
        by_cases hc : (G i : Int) = x
        · rw [decide_eq_true hc] at pk
          have FIN : Hid (nxF (pkP b x) 0 n = some i) := Lib.hid (nxF_some _ _ (Nat.zero_le _) (by omega) pk fun k _ h2 => HB.out k h2)
          clear hlt hb HB pk
          generalize hg : G i = g at *
          go_wp2_with fail
          go_ret2
          refine ⟨?_, rfl⟩
          rw [← HV.out, FIN.out]
          rfl
        · rw [decide_eq_false hc] at pk
          have GO : Hid (∀ k, k < i + 1 → pkP b x k = false) := Lib.hid fun k h2 => by
            by_cases e : k = i
            · rw [e]; exact pk
            · exact HB.out k (by omega)
          clear hlt hb HB pk
          generalize hg : G i = g at *
          go_wp2_with fail
          exact ⟨⟨i + 1, by first | (rw [st.out]; done) | (rw [st.out]; go_num), by go_num, by omega, by trivial, GO⟩, by simp [intOf]; omega⟩
      | false =>
        rw [hb] at cw st pk
        have st : Hid (G (i + 1) = G i) := Lib.hid st
        have GO : Hid (∀ k, k < i + 1 → pkP b x k = false) := Lib.hid fun k h2 => by
          by_cases e : k = i
          · rw [e]; exact pk
          · exact HB.out k (by omega)
        clear hlt hb HB pk
        generalize hg : G i = g at *
        go_wp2_with fail
        exact ⟨⟨i + 1, by first | (rw [st.out]; done) | (rw [st.out]; go_num), by go_num, by omega, by trivial, GO⟩, by simp [intOf]; omega⟩
    · obtain rfl : i = n := by omega
      have hltI : ¬ (i : Int) < (i : Int) := by omega
      have FIN : Hid (nxF (pkP b x) 0 i = none) := Lib.hid (nxF_none _ _ fun k _ h2 => HB.out k (by omega))
      go_wp2_with fail
      go_ret2
      refine ⟨?_, rfl⟩
      rw [← HV.out, FIN.out]
      rfl

end Go.Proofs.YtflkbefiopnigacDoor.BV
