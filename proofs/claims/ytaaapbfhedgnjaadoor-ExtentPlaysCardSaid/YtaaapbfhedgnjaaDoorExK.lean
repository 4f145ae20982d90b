/- A map of objects (layer 13): Live, walked. -/
import Derived.Test.YtaaapbfhedgnjaaDoorExL
namespace Go.Proofs.YtaaapbfhedgnjaaDoor.BV
open Go.ChangeShapes Go.WideShapes Go.ChangeAt Go.RowKit

/-- what is left of the loop -/
def okM : Value → Nat → Nat
  | .bool true, n => n
  | _, _ => 0
theorem okM_t (n : Nat) : okM (.bool true) n = n := rfl
theorem okM_f (n : Nat) : okM (.bool false) n = 0 := rfl
attribute [irreducible] okM

section
variable {w0 w : World} {S : Nat → Prop} {c p q n : Nat} {sz : Nat → Nat} {k : Int} {C : Asn}

set_option maxRecDepth 100000 in
theorem ex_live_none (ok : ExOk n sz) (x y : Int) (hm : min y (n : Int) ≤ max x 0) (h : At (exX c p q n sz k * C) w0 S w) : Calls Tryd.prog 38 #[.pointer (some ⟨c, 0, none⟩), .int .i64 x, .int .i64 y] w fun e w' => e = .returned (.int .i64 (cp (lvR sz x y) n : Nat)) ∧ w = w' := by
  rw [lvR_none hm]
  have WD := Lib.hid (ex_words h)
  have n2 := ok.n2
  clear h
  go_enter Tryd.func38, Tryd.ntmps38
  go_wp2_with (go_at_call 41; with_reducible refine WD.out.mono ?_; rintro e1 w1 ⟨rfl, rfl⟩)
  go_ret
  exact ⟨rfl, rfl⟩

set_option maxRecDepth 100000 in
set_option maxHeartbeats 4000000 in
theorem ex_live_some (ok : ExOk n sz) (x y : Int) (f t : Nat) (hf : max x 0 = (f : Int)) (ht : min y (n : Int) = (t : Int)) (hft : f < t) (hT : Tab w) (h : At (exX c p q n sz k * C) w0 S w) : Calls Tryd.prog 38 #[.pointer (some ⟨c, 0, none⟩), .int .i64 x, .int .i64 y] w fun e w' => e = .returned (.int .i64 (cp (lvR sz x y) n : Nat)) ∧ w = w' := by
  rw [lvR_eq hf ht]
  have WD := Lib.hid (ex_words h)
  have n2 := ok.n2
  have htn : t ≤ n := by omega
  have FD := ex_find ok (f : Int) hT h
  rw [show fdI n sz (f : Int) = fdF sz f by unfold fdI; rw [if_pos (by omega), Int.toNat_natCast]] at FD
  have NXT := fun a : Nat => ex_next ok (a : Int) hT h
  have NXT : ∀ a : Nat, Calls Tryd.prog 34 #[.pointer (some ⟨c, 0, none⟩), .int .i64 a] w fun e w' => e = .returned (exV sz (nxF (fst' sz) a (n - a))) ∧ w = w' := fun a => by
    have := NXT a
    unfold nxI at this
    rw [show (max (a : Int) 0).toNat = a by omega] at this
    exact this
  have NXH := Lib.hid NXT
  have START : Hid (∃ (s z : Nat) (b : Bool), LvI sz f t 0 s z b ∧ (b = true → s < n ∧ f ≤ s + z) ∧
      ((Calls Tryd.prog 31 #[.pointer (some ⟨c, 0, none⟩), .int .i64 f] w fun e w' => e = .returned (.tuple #[.int .i64 s, .int .i64 z, .bool true]) ∧ w = w') ∧ b = true ∨
       (Calls Tryd.prog 31 #[.pointer (some ⟨c, 0, none⟩), .int .i64 f] w fun e w' => e = .returned (.tuple #[.int .i64 0, .int .i64 0, .bool false]) ∧ w = w') ∧ (Calls Tryd.prog 34 #[.pointer (some ⟨c, 0, none⟩), .int .i64 f] w fun e w' => e = .returned (.tuple #[.int .i64 s, .int .i64 z, .bool b]) ∧ w = w'))) := Lib.hid (by
    cases h0 : fdF sz f with
    | some s =>
      rw [h0] at FD
      obtain ⟨g1, g2, g3⟩ := fdF_is h0
      exact ⟨s, sz s, true, LvI.found g1 g2 hft, fun _ => ⟨by omega, by omega⟩, .inl ⟨FD, rfl⟩⟩
    | none =>
      rw [h0] at FD
      have N1 := NXT f
      cases h1 : nxF (fst' sz) f (n - f) with
      | none => rw [h1] at N1; exact ⟨0, 0, false, (LvI.first ok.s htn h0).2 h1, fun e => (by cases e), .inr ⟨FD, N1⟩⟩
      | some s =>
        rw [h1] at N1
        obtain ⟨g1, g2, g3⟩ := (LvI.first ok.s htn h0).1 s h1
        exact ⟨s, sz s, true, g1, fun _ => ⟨g2, by omega⟩, .inr ⟨FD, N1⟩⟩)
  have BD := Lib.hid (fun m => cp_le (lvF sz f) m)
  obtain ⟨G, hG⟩ : ∃ G, cp (lvF sz f) t = G := ⟨_, rfl⟩
  rw [hG]
  have HG := Lib.hid hG
  have OK := Lib.hid ok
  have hfI : (f : Int) < (t : Int) := by omega
  have htI : (t : Int) ≤ 1048576 := by omega
  clear h hT FD NXT hG ok
  obtain ⟨s0, z0, b0, I0, J0, K0⟩ := START.out
  have I0 := Lib.hid I0
  have J0 := Lib.hid J0
  clear START
  go_enter Tryd.func38, Tryd.ntmps38
  go_wp2_with (go_at_call 41; with_reducible refine WD.out.mono ?_; rintro e1 w1 ⟨rfl, rfl⟩)
  rcases K0 with ⟨K1, rfl⟩ | ⟨K1, K2⟩
  · have K1 := Lib.hid K1
    go_wp2_with (go_at_call 31; with_reducible refine K1.out.mono ?_; rintro e1 w1 ⟨rfl, rfl⟩)
    clear K1
    go_loopw [7, 8, 9, 10] (fun u v q t' wr => ∃ (a s z : Nat) (b : Bool), u = .int .i64 a ∧ v = .int .i64 s ∧ q = .int .i64 z ∧ t' = .bool b ∧ wr = w ∧ Hid (LvI sz f t a s z b) ∧ Hid (b = true → s < n ∧ f ≤ s + z)) (fun _ v _ t' _ => okM t' (n - (intOf v).toNat + 1))
    case atStart => exact ⟨0, s0, z0, _, rfl, rfl, rfl, rfl, rfl, I0, Lib.hid (fun _ => J0.out (by trivial))⟩
    case round =>
      clear I0 J0
      obtain ⟨a, s, z, b, rfl, rfl, rfl, rfl, rfl, HI, HJ⟩ := hrel
      have ba : a ≤ 1048576 := by
        rcases HI.out with ⟨_, _, _, e⟩ | ⟨_, e⟩
        · rw [e]; exact Nat.le_trans (BD.out _) (by omega)
        · rw [e]; exact Nat.le_trans (BD.out _) (by omega)
      cases b with
      | false =>
        have e : a = G := by
          rcases HI.out with ⟨e, _⟩ | ⟨_, e⟩
          · cases e
          · rw [e]; exact HG.out
        subst e
        clear HI HJ
        go_wp2_with fail
        go_ret
        exact ⟨rfl, rfl⟩
      | true =>
        obtain ⟨hsn, hfe⟩ := HJ.out rfl
        rcases HI.out with ⟨_, hs, hz, ha⟩ | ⟨e, _⟩
        case inr => cases e
        by_cases hst : s < t
        · have hstI : (s : Int) < (t : Int) := by omega
          have hft2 := OK.out.s.fit s hs
          obtain ⟨n1, n2'⟩ := LvI.next OK.out.s htn hs hst hft (by rw [← hz]; exact hfe) ha
          rw [← hz] at n1 n2' hft2 hs
          have hsI : (s : Int) ≤ 1048576 := by omega
          have hzI : (z : Int) ≤ 1048576 := by omega
          have dle : max s f ≤ min (s + z) t := by omega
          obtain ⟨d, hd⟩ : ∃ d, min (s + z) t - max s f = d := ⟨_, rfl⟩
          rw [hd] at n1 n2'
          have hdI : min ((s : Int) + (z : Int)) (t : Int) - max (s : Int) (f : Int) = (d : Int) := by omega
          have hdb : (d : Int) ≤ 1048576 := by omega
          have NX := NXH.out (s + z)
          rw [show ((s + z : Nat) : Int) = (s : Int) + (z : Int) by omega] at NX
          cases hr : nxF (fst' sz) (s + z) (n - (s + z)) with
          | none =>
            rw [hr] at NX
            have NX : Hid (Calls Tryd.prog 34 #[.pointer (some ⟨c, 0, none⟩), .int .i64 ((s : Int) + (z : Int))] wr fun e w' => e = .returned (.tuple #[.int .i64 0, .int .i64 0, .bool false]) ∧ wr = w') := Lib.hid NX
            have GO := Lib.hid (n2' hr)
            clear HI HJ n1 n2' hr ha hz hd hfe hft2 dle
            go_wp2_with (go_at_call 34; with_reducible refine NX.out.mono ?_; rintro e1 w1 ⟨rfl, rfl⟩)
            exact ⟨⟨a + d, 0, 0, false, by first | go_num | (congr 1; omega), rfl, rfl, rfl, by trivial, GO, Lib.hid (fun e => (by cases e))⟩, by rw [okM_t, okM_f]; omega⟩
          | some s' =>
            rw [hr] at NX
            have NX : Hid (Calls Tryd.prog 34 #[.pointer (some ⟨c, 0, none⟩), .int .i64 ((s : Int) + (z : Int))] wr fun e w' => e = .returned (.tuple #[.int .i64 s', .int .i64 (sz s'), .bool true]) ∧ wr = w') := Lib.hid NX
            have GO := Lib.hid (n1 s' hr)
            clear HI HJ n1 n2' hr ha hz hd hfe hft2 dle
            go_wp2_with (go_at_call 34; with_reducible refine NX.out.mono ?_; rintro e1 w1 ⟨rfl, rfl⟩)
            have GO2 := GO.out.2
            exact ⟨⟨a + d, s', sz s', true, by first | go_num | (congr 1; omega), rfl, rfl, rfl, by trivial, Lib.hid GO.out.1, Lib.hid (fun _ => ⟨GO2.2.1, by omega⟩)⟩, by rw [okM_t, okM_t]; simp [intOf]; omega⟩
        · have hstI : ¬ (s : Int) < (t : Int) := by omega
          have e : a = G := by rw [ha, show min (max s f) t = t by omega]; exact HG.out
          subst e
          clear HI HJ ha hz
          go_wp2_with fail
          go_ret
          exact ⟨rfl, rfl⟩
  · have K1 := Lib.hid K1
    have K2 := Lib.hid K2
    go_wp2_with (first | (go_at_call 31; with_reducible refine K1.out.mono ?_; rintro e1 w1 ⟨rfl, rfl⟩) | (go_at_call 34; with_reducible refine K2.out.mono ?_; rintro e1 w1 ⟨rfl, rfl⟩))
    clear K1 K2
    go_loopw [7, 8, 9, 10] (fun u v q t' wr => ∃ (a s z : Nat) (b : Bool), u = .int .i64 a ∧ v = .int .i64 s ∧ q = .int .i64 z ∧ t' = .bool b ∧ wr = w ∧ Hid (LvI sz f t a s z b) ∧ Hid (b = true → s < n ∧ f ≤ s + z)) (fun _ v _ t' _ => okM t' (n - (intOf v).toNat + 1))
    case atStart => exact ⟨0, s0, z0, _, rfl, rfl, rfl, rfl, rfl, I0, J0⟩
    case round =>
      clear I0 J0
      obtain ⟨a, s, z, b, rfl, rfl, rfl, rfl, rfl, HI, HJ⟩ := hrel
      have ba : a ≤ 1048576 := by
        rcases HI.out with ⟨_, _, _, e⟩ | ⟨_, e⟩
        · rw [e]; exact Nat.le_trans (BD.out _) (by omega)
        · rw [e]; exact Nat.le_trans (BD.out _) (by omega)
      cases b with
      | false =>
        have e : a = G := by
          rcases HI.out with ⟨e, _⟩ | ⟨_, e⟩
          · cases e
          · rw [e]; exact HG.out
        subst e
        clear HI HJ
        go_wp2_with fail
        go_ret
        exact ⟨rfl, rfl⟩
      | true =>
        obtain ⟨hsn, hfe⟩ := HJ.out rfl
        rcases HI.out with ⟨_, hs, hz, ha⟩ | ⟨e, _⟩
        case inr => cases e
        by_cases hst : s < t
        · have hstI : (s : Int) < (t : Int) := by omega
          have hft2 := OK.out.s.fit s hs
          obtain ⟨n1, n2'⟩ := LvI.next OK.out.s htn hs hst hft (by rw [← hz]; exact hfe) ha
          rw [← hz] at n1 n2' hft2 hs
          have hsI : (s : Int) ≤ 1048576 := by omega
          have hzI : (z : Int) ≤ 1048576 := by omega
          have dle : max s f ≤ min (s + z) t := by omega
          obtain ⟨d, hd⟩ : ∃ d, min (s + z) t - max s f = d := ⟨_, rfl⟩
          rw [hd] at n1 n2'
          have hdI : min ((s : Int) + (z : Int)) (t : Int) - max (s : Int) (f : Int) = (d : Int) := by omega
          have hdb : (d : Int) ≤ 1048576 := by omega
          have NX := NXH.out (s + z)
          rw [show ((s + z : Nat) : Int) = (s : Int) + (z : Int) by omega] at NX
          cases hr : nxF (fst' sz) (s + z) (n - (s + z)) with
          | none =>
            rw [hr] at NX
            have NX : Hid (Calls Tryd.prog 34 #[.pointer (some ⟨c, 0, none⟩), .int .i64 ((s : Int) + (z : Int))] wr fun e w' => e = .returned (.tuple #[.int .i64 0, .int .i64 0, .bool false]) ∧ wr = w') := Lib.hid NX
            have GO := Lib.hid (n2' hr)
            clear HI HJ n1 n2' hr ha hz hd hfe hft2 dle
            go_wp2_with (go_at_call 34; with_reducible refine NX.out.mono ?_; rintro e1 w1 ⟨rfl, rfl⟩)
            exact ⟨⟨a + d, 0, 0, false, by first | go_num | (congr 1; omega), rfl, rfl, rfl, by trivial, GO, Lib.hid (fun e => (by cases e))⟩, by rw [okM_t, okM_f]; omega⟩
          | some s' =>
            rw [hr] at NX
            have NX : Hid (Calls Tryd.prog 34 #[.pointer (some ⟨c, 0, none⟩), .int .i64 ((s : Int) + (z : Int))] wr fun e w' => e = .returned (.tuple #[.int .i64 s', .int .i64 (sz s'), .bool true]) ∧ wr = w') := Lib.hid NX
            have GO := Lib.hid (n1 s' hr)
            clear HI HJ n1 n2' hr ha hz hd hfe hft2 dle
            go_wp2_with (go_at_call 34; with_reducible refine NX.out.mono ?_; rintro e1 w1 ⟨rfl, rfl⟩)
            have GO2 := GO.out.2
            exact ⟨⟨a + d, s', sz s', true, by first | go_num | (congr 1; omega), rfl, rfl, rfl, by trivial, Lib.hid GO.out.1, Lib.hid (fun _ => ⟨GO2.2.1, by omega⟩)⟩, by rw [okM_t, okM_t]; simp [intOf]; omega⟩
        · have hstI : ¬ (s : Int) < (t : Int) := by omega
          have e : a = G := by rw [ha, show min (max s f) t = t by omega]; exact HG.out
          subst e
          clear HI HJ ha hz
          go_wp2_with fail
          go_ret
          exact ⟨rfl, rfl⟩
end

end Go.Proofs.YtaaapbfhedgnjaaDoor.BV
