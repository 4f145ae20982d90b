/- The document's list of objects (ullageref13): Add. -/
import Derived.Test.YtaaapbfhedgnjaaDoorExPr
import Derived.Maps.AppendAt
namespace Go.Proofs.YtaaapbfhedgnjaaDoor.BV
open Go.ChangeShapes Go.WideShapes Go.ChangeAt Go.RowKit

theorem infOb : (Tryd.prog.info? 92).map (fun i => (i.zero, i.size, i.bytes)) = some (some (.agg #[.int .i64 0, .int .i64 0]), 2, 16) := by kernel_rfl

theorem ob_nw (wr : World) (x y : Value) : ∀ j u, [x, y][j]? = some u → (wr.alloc (.cells #[x, y] 92)).cell? ((⟨wr.heap.size, 0, none⟩ : Addr).add j) = some u := by
  intro j u hj
  match j, hj with
  | 0, hj => simp at hj; subst hj; simp [Addr.add]
  | 1, hj => simp at hj; subst hj; simp [Addr.add]

theorem o_push {w0 w w1 : World} {S : Nat → Prop} {L : List (Nat × Nat)} {v : Value} {A : Asn} {g' cap' : Nat} (x y : Nat) (h : At (oA v L * A) w0 S w)
    (hown : w1.ownsRow 0 92 2 (.slice (some ⟨g', 0, none⟩) (L.length + 1) cap') (L.length + 1) (flat L ++ [.int .i64 (x : Nat), .int .i64 (y : Nat)]))
    (hgrow : (w.alloc (.cells #[.int .i64 (x : Nat), .int .i64 (y : Nat)] 92)).grownBy w1 v.ownBlock)
    (hwhere : v.ownBlock = some g' ∨ w.heap.size + 1 ≤ g') :
    At (oA (.slice (some ⟨g', 0, none⟩) (L.length + 1) cap') (L ++ [(x, y)]) * A) w0 S w1 := by
  have H2 := (h.alloc (.cells #[.int .i64 (x : Nat), .int .i64 (y : Nat)] 92)).re (B := own 92 2 v L.length (flat L) * (A * blk w.heap.size (.cells #[.int .i64 (x : Nat), .int .i64 (y : Nat)] 92))) (by unfold oA; ac_rfl)
  have H3 := H2.grow hown hgrow (fun q hq => by
    cases hq
    rcases hwhere with h | h
    · exact .inl h
    · exact .inr (by simpa using h))
  have H4 := (H3.re (B := (own 92 2 (.slice (some ⟨g', 0, none⟩) (L.length + 1) cap') (L.length + 1) (flat L ++ [.int .i64 (x : Nat), .int .i64 (y : Nat)]) * A) * blk w.heap.size (.cells #[.int .i64 (x : Nat), .int .i64 (y : Nat)] 92)) (by ac_rfl)).dropr
  unfold oA
  rw [List.length_append, List.length_singleton, flat_app]
  exact H4

/-- what a slice with a list may be when one is pushed -/
theorem oA_own {w0 w : World} {S : Nat → Prop} {L : List (Nat × Nat)} {v : Value} {A : Asn} (h : At (oA v L * A) w0 S w) : w.ownsRow 0 92 2 v L.length (flat L) := At.ownIs h

/-- the list that a loop of Add has built -/
def outM (L : List (Nat × Nat)) (s z k : Nat) : List (Nat × Nat) :=
  if k ≤ insJ L s then L.take k else L.take (insJ L s) ++ (s, z) :: (L.drop (insJ L s)).take (k - insJ L s)

theorem outM_len (L : List (Nat × Nat)) (s z k : Nat) (hk : k ≤ L.length) : (outM L s z k).length = k + (if k ≤ insJ L s then 0 else 1) := by
  have := insJ_le L s
  unfold outM
  by_cases h : k ≤ insJ L s
  · rw [if_pos h, if_pos h, List.length_take]; omega
  · rw [if_neg h, if_neg h, List.length_append, List.length_cons, List.length_take, List.length_take, List.length_drop]; omega

theorem outM_lo {L : List (Nat × Nat)} {s z k : Nat} (hk : k < L.length) (h : k < insJ L s) : outM L s z (k + 1) = outM L s z k ++ [eN L k] := by
  unfold outM
  rw [if_pos (by omega), if_pos (by omega), eN_get hk, List.take_succ_eq_append_getElem hk]

theorem outM_mid {L : List (Nat × Nat)} {s z k : Nat} (hk : k < L.length) (h : k = insJ L s) : outM L s z (k + 1) = (outM L s z k ++ [(s, z)]) ++ [eN L k] := by
  unfold outM
  rw [if_neg (by omega), if_pos (by omega), ← h, Nat.add_sub_cancel_left, drop_eN hk]
  simp

theorem outM_hi {L : List (Nat × Nat)} {s z k : Nat} (hk : k < L.length) (h : insJ L s < k) : outM L s z (k + 1) = outM L s z k ++ [eN L k] := by
  unfold outM
  rw [if_neg (by omega), if_neg (by omega), List.append_assoc, List.cons_append]
  congr 2
  have h1 : k - insJ L s < (L.drop (insJ L s)).length := by rw [List.length_drop]; omega
  rw [show k + 1 - insJ L s = k - insJ L s + 1 by omega, List.take_succ_eq_append_getElem h1]
  congr 2
  rw [List.getElem_drop, eN_get hk]
  congr 1; omega

theorem outM_end {L : List (Nat × Nat)} {s z : Nat} : (L.length ≤ insJ L s → outM L s z L.length ++ [(s, z)] = insL L s z) ∧ (¬ L.length ≤ insJ L s → outM L s z L.length = insL L s z) := by
  have hj := insJ_le L s
  unfold outM insL
  constructor
  · intro h
    rw [if_pos h, show insJ L s = L.length by omega, List.drop_length]
  · intro h
    rw [if_neg h, show (L.drop (insJ L s)).take (L.length - insJ L s) = L.drop (insJ L s) from List.take_of_length_le (by rw [List.length_drop]; omega)]

theorem outM_zero {L : List (Nat × Nat)} {s z : Nat} : outM L s z 0 = [] := by unfold outM; rw [if_pos (Nat.zero_le _)]; rfl

/-- where the test is true -/
theorem gtB_lo {L : List (Nat × Nat)} {s k : Nat} (hk : k < L.length) (h : k < insJ L s) : ¬ (s : Int) < ((eN L k).1 : Int) := by
  have : gtB L s k = false := by
    unfold insJ at h
    rcases nxF_is (p := gtB L s) L.length 0 with ⟨e, h4⟩ | ⟨r, e, _, h2, _, h4⟩
    · exact h4 k (Nat.zero_le _) (by omega)
    · rw [e] at h; exact h4 k (Nat.zero_le _) h
  unfold gtB at this
  rw [decide_eq_false_iff_not] at this
  omega

theorem gtB_at {L : List (Nat × Nat)} {s k : Nat} (hk : k < L.length) (h : k = insJ L s) : (s : Int) < ((eN L k).1 : Int) := by
  have : gtB L s k = true := by
    unfold insJ at h
    rcases nxF_is (p := gtB L s) L.length 0 with ⟨e, h4⟩ | ⟨r, e, _, h2, h3, h4⟩
    · rw [e] at h; change k = L.length at h; omega
    · rw [e] at h; change k = r at h; rw [h]; exact h3
  unfold gtB at this
  rw [decide_eq_true_iff] at this
  omega

section
variable {w : World} {a : Option Addr} {L : List (Nat × Nat)} {cap : Nat}

theorem r13_add_size (n s z : Int) (hz : z < 1) : Calls Tryd.prog 29 #[.slice a L.length cap, .int .i64 n, .int .i64 s, .int .i64 z] w fun e w' => e = .returned (.tuple #[.slice a L.length cap, .int .i64 15]) ∧ w = w' := by
  go_enter Tryd.func29, Tryd.ntmps29
  go_wp2
  go_ret2
  exact ⟨rfl, rfl⟩

theorem r13_add_range (n : Nat) (hn : n ≤ 1048576) (s z : Int) (hz : 1 ≤ z) (hs : s < 0 ∨ (n : Int) ≤ s ∨ (n : Int) - s < z) : Calls Tryd.prog 29 #[.slice a L.length cap, .int .i64 n, .int .i64 s, .int .i64 z] w fun e w' => e = .returned (.tuple #[.slice a L.length cap, .int .i64 11]) ∧ w = w' := by
  have hz1 : ¬ z < 1 := by omega
  by_cases h0 : s < 0
  · clear hs
    go_enter Tryd.func29, Tryd.ntmps29
    go_wp2
    go_ret2
    exact ⟨rfl, rfl⟩
  · by_cases h1 : (n : Int) ≤ s
    · clear hs
      go_enter Tryd.func29, Tryd.ntmps29
      go_wp2
      go_ret2
      exact ⟨rfl, rfl⟩
    · have h2 : (n : Int) - s < z := by omega
      have b1 : 0 ≤ s := by omega
      have b2 : s ≤ 1048576 := by omega
      clear hs
      go_enter Tryd.func29, Tryd.ntmps29
      go_wp2
      go_ret2
      exact ⟨rfl, rfl⟩
end

open Go.ChangeShapes Go.WideShapes Go.ChangeAt Go.RowKit

/-- whether a run has a live word, by the list -/
def lvB (L : List (Nat × Nat)) (j : Nat) : Bool := (nxF (hitB L (j : Int)) 0 L.length).isSome

section
variable {w0 w : World} {S : Nat → Prop} {a : Option Addr} {L : List (Nat × Nat)} {cap : Nat} {C : Asn}

theorem oA_new (h : At (oA (.slice a L.length cap) L * C) w0 S w) (q : Nat) : At (oA (.slice none 0 0) [] * (oA (.slice a L.length cap) L * C)) w0 S (w.drewN q) := (h.drewN q).own_nil _ _

theorem oA_lists {v : Value} {M : List (Nat × Nat)} (h : At (oA v M * (oA (.slice a L.length cap) L * C)) w0 S w) : ∃ c, v = .slice (match M with | [] => (match v with | .slice b _ _ => b | _ => none) | _ => (match v with | .slice b _ _ => b | _ => none)) M.length c := by
  obtain ⟨b, c, rfl, _⟩ := oc_of h
  exact ⟨c, by cases M <;> rfl⟩

set_option maxRecDepth 100000 in
set_option maxHeartbeats 2000000 in
theorem r13_add_there (hS : Sm L) (n s z : Nat) (hz : 1 ≤ z) (hs : s + z ≤ n) (hn : n ≤ 1048576) (hl : (nxF (lvB L) s z).isSome = true) (hc : OC w a L) :
    Calls Tryd.prog 29 #[.slice a L.length cap, .int .i64 n, .int .i64 s, .int .i64 z] w fun e w' => e = .returned (.tuple #[.slice a L.length cap, .int .i64 7]) ∧ ∃ m, w' = w.drewN m := by
  have hz1 : ¬ (z : Int) < 1 := by omega
  have hs0 : ¬ (s : Int) < 0 := by omega
  have hs1 : ¬ (n : Int) ≤ (s : Int) := by omega
  have hs2 : ¬ (n : Int) - (s : Int) < (z : Int) := by omega
  have hb : (s : Int) ≤ 1048576 ∧ (z : Int) ≤ 1048576 := by omega
  have FD : Hid (∀ q (j : Nat), j < n → Calls Tryd.prog 33 #[.slice a L.length cap, .int .i64 j] (w.drewN q) fun e w' => e = .returned (.int .i64 (iV (nxF (hitB L j) 0 L.length))) ∧ ∃ m, w' = (w.drewN q).drewN m) :=
    Lib.hid fun q j hj => r13_find hS j (by omega) (hc.drewN q)
  obtain ⟨r, hr⟩ := Option.isSome_iff_exists.1 hl
  obtain ⟨r1, r2, r3, _⟩ := nxF_lt' hr
  have R3 := Lib.hid r3
  clear hl hr hc hS r3
  go_enter Tryd.func29, Tryd.ntmps29
  go_wp2_with fail
  go_loopw [10] (fun v wr => ∃ j : Nat, v = .int .i64 j ∧ s ≤ j ∧ j ≤ r ∧ ∃ q, wr = w.drewN q) (fun v _ => r + 1 - (intOf v).toNat)
  case atStart => exact ⟨s, rfl, Nat.le_refl _, r1, 0, rfl⟩
  case round =>
    obtain ⟨j, rfl, hj, hjr, q, rfl⟩ := hrel
    have hlt : (j : Int) < (s : Int) + (z : Int) := by omega
    have F0 := FD.out q j (by omega)
    rcases iV_or (nxF (hitB L (j : Int)) 0 L.length) with ⟨e1, e2⟩ | ⟨k, e1, e2⟩
    · rw [e1] at F0
      have F0 := Lib.hid F0
      have hne : j ≠ r := by
        rintro rfl
        have := R3.out
        unfold lvB at this
        rw [e2] at this; cases this
      clear e1 e2
      go_wp2_with (go_at_call 33; with_reducible refine F0.out.mono ?_; rintro e1 w1 ⟨rfl, m, rfl⟩)
      exact ⟨⟨j + 1, by go_num, by omega, by omega, _, rfl⟩, by simp [intOf]; omega⟩
    · rw [e1] at F0
      have F0 := Lib.hid F0
      clear e1 e2
      go_wp2_with (go_at_call 33; with_reducible refine F0.out.mono ?_; rintro e1 w1 ⟨rfl, m, rfl⟩)
      go_ret2
      exact ⟨rfl, _, rfl⟩

set_option maxRecDepth 100000 in
set_option maxHeartbeats 4000000 in
theorem r13_add_ok (hS : Sm L) (n s z : Nat) (hz : 1 ≤ z) (hs : s + z ≤ n) (hn : n ≤ 1048576) (hl : nxF (lvB L) s z = none) (h : At (oA (.slice a L.length cap) L * C) w0 S w) (hc : OC w a L) :
    Calls Tryd.prog 29 #[.slice a L.length cap, .int .i64 n, .int .i64 s, .int .i64 z] w fun e w' => ∃ g c : Nat, e = .returned (.tuple #[.slice (some ⟨g, 0, none⟩) (L.length + 1) c, .int .i64 0]) ∧ At (oA (.slice (some ⟨g, 0, none⟩) (L.length + 1) c) (insL L s z) * C) w0 S w' := by
  have hz1 : ¬ (z : Int) < 1 := by omega
  have hs0 : ¬ (s : Int) < 0 := by omega
  have hs1 : ¬ (n : Int) ≤ (s : Int) := by omega
  have hs2 : ¬ (n : Int) - (s : Int) < (z : Int) := by omega
  have hb : (s : Int) ≤ 1048576 ∧ (z : Int) ≤ 1048576 := by omega
  have hL := hS.1
  have BD := Lib.hid hS.2
  have FD : Hid (∀ q (j : Nat), j < n → Calls Tryd.prog 33 #[.slice a L.length cap, .int .i64 j] (w.drewN q) fun e w' => e = .returned (.int .i64 (iV (nxF (hitB L j) 0 L.length))) ∧ ∃ m, w' = (w.drewN q).drewN m) :=
    Lib.hid fun q j hj => r13_find hS j (by omega) (hc.drewN q)
  have NO : Hid (∀ j, s ≤ j → j < s + z → lvB L j = false) := Lib.hid (by
    rcases nxF_is (p := lvB L) z s with ⟨_, h4⟩ | ⟨r, e, _⟩
    · exact h4
    · rw [hl] at e; cases e)
  have NEW := Lib.hid (fun q => oA_new (L := L) h q)
  have LO := Lib.hid (fun k => gtB_lo (L := L) (s := s) (k := k))
  have MI := Lib.hid (fun k => gtB_at (L := L) (s := s) (k := k))
  have ML := Lib.hid (fun k => outM_len L s z k)
  have M1 := Lib.hid (fun k => outM_lo (L := L) (s := s) (z := z) (k := k))
  have M2 := Lib.hid (fun k => outM_mid (L := L) (s := s) (z := z) (k := k))
  have M3 := Lib.hid (fun k => outM_hi (L := L) (s := s) (z := z) (k := k))
  have M4 := Lib.hid (outM_end (L := L) (s := s) (z := z))
  have M0 := Lib.hid (outM_zero (L := L) (s := s) (z := z))
  have hJ := insJ_le L s
  obtain ⟨J, hJJ⟩ : ∃ J, insJ L s = J := ⟨_, rfl⟩
  rw [hJJ] at LO MI ML M1 M2 M3 M4 hJ
  obtain ⟨M, hM⟩ : ∃ M : Nat → List (Nat × Nat), (fun k => outM L s z k) = M := ⟨_, rfl⟩
  obtain ⟨i0, hi, hz0, hz1', hz2⟩ := info_parts infOb
  have HI := Lib.hid hi
  have HZ0 := Lib.hid hz0
  have HZ1 := Lib.hid hz1'
  have HZ2 := Lib.hid hz2
  clear hi hz0 hz1' hz2 hl hS h hc hJJ hM M
  go_enter Tryd.func29, Tryd.ntmps29
  go_wp2_with fail
  go_loopw [10] (fun v wr => ∃ j : Nat, v = .int .i64 j ∧ s ≤ j ∧ j ≤ s + z ∧ ∃ q, wr = w.drewN q) (fun v _ => s + z - (intOf v).toNat)
  case atStart => exact ⟨s, rfl, Nat.le_refl _, by omega, 0, rfl⟩
  case round =>
    obtain ⟨j, rfl, hj, hjr, q, rfl⟩ := hrel
    by_cases hjz : j < s + z
    · have hlt : (j : Int) < (s : Int) + (z : Int) := by omega
      have F0 := FD.out q j (by omega)
      have hno := NO.out j hj hjz
      unfold lvB at hno
      rcases iV_or (nxF (hitB L (j : Int)) 0 L.length) with ⟨e1, e2⟩ | ⟨k, e1, e2⟩
      · rw [e1] at F0
        have F0 := Lib.hid F0
        clear e1 e2 hno
        go_wp2_with (go_at_call 33; with_reducible refine F0.out.mono ?_; rintro e1 w1 ⟨rfl, m, rfl⟩)
        exact ⟨⟨j + 1, by go_num, by omega, by omega, _, rfl⟩, by simp [intOf]; omega⟩
      · rw [hno] at e2; cases e2
    · have hlt : ¬ (j : Int) < (s : Int) + (z : Int) := by omega
      have A0 := Lib.hid (NEW.out q)
      obtain ⟨wq, hwq⟩ : ∃ wq, w.drewN q = wq := ⟨_, rfl⟩
      rw [hwq] at A0 ⊢
      clear hwq NEW FD NO hjz
      go_wp2_with fail
      go_loopw [11, 12, 13] (fun ov dv iv wr => ∃ k : Nat, iv = .int .i64 k ∧ dv = .bool (decide (J < k)) ∧ k ≤ L.length ∧ Hid (At (oA ov (outM L s z k) * (oA (.slice a L.length cap) L * C)) w0 S wr)) (fun _ _ iv _ => L.length - (intOf iv).toNat)
      case atStart => exact ⟨0, rfl, by rw [decide_eq_false (by omega)], Nat.zero_le _, by rw [M0.out]; exact A0⟩
      case round =>
        clear A0
        obtain ⟨k, rfl, rfl, hk, HA⟩ := hrel
        obtain ⟨bo, co, rfl, _⟩ := oc_of HA.out
        by_cases hlt : k < L.length
        · have hltI : (k : Int) < (L.length : Int) := by omega
          have hML := ML.out k hk
          have HR := HA.out.re (B := oA (.slice a L.length cap) L * (oA (.slice bo (outM L s z k).length co) (outM L s z k) * C)) (by ac_rfl)
          obtain ⟨a', cap', he', hoc⟩ := oc_of HR
          cases he'
          obtain ⟨g, rfl, e0, e1⟩ := hoc k hlt
          obtain ⟨b1, b2⟩ := BD.out k hlt
          have LO1 := LO.out k hlt
          have MI1 := MI.out k hlt
          have M11 := M1.out k hlt
          have M21 := M2.out k hlt
          have M31 := M3.out k hlt
          clear hoc HR
          rcases Nat.lt_trichotomy k J with hkJ | hkJ | hkJ
          · have hgt := LO1 hkJ
            have MX := M11 hkJ
            rw [if_pos (by omega)] at hML
            rw [show decide (J < k) = false from decide_eq_false (by omega)]
            have HO := oA_own HA.out
            have PU := Lib.hid (fun g' cap' w1 => o_push (w1 := w1) (g' := g') (cap' := cap') (eN L k).1 (eN L k).2 HA.out)
            have FIN : Hid (∀ v w, At (oA v (outM L s z k ++ [((eN L k).1, (eN L k).2)]) * (oA (.slice (some ⟨g, 0, none⟩) L.length cap) L * C)) w0 S w → At (oA v (outM L s z (k + 1)) * (oA (.slice (some ⟨g, 0, none⟩) L.length cap) L * C)) w0 S w) := Lib.hid fun v w h => by rw [MX]; exact h
            have HO := Lib.hid HO
            clear HA LO1 MI1 M11 M21 M31 MX
            generalize (eN L k).1 = x at *
            generalize (eN L k).2 = y at *
            generalize outM L s z k = M at *
            have hml : M.length ≤ 1048577 := by omega
            clear hML
            go_wp2_with (at_builtin; refine wpList_append_sep _ rfl _ _ 51 rfl 0 92 i0 (.agg #[.int .i64 0, .int .i64 0]) 2 16 Tryd.underlying51 HI.out HZ0.out HZ1.out HZ2.out rfl (by decide) _ _ _ rfl (World.ownsRow.alloc HO.out _) ⟨wr.heap.size, 0, none⟩ 1 1 [.int .i64 (x : Nat), .int .i64 (y : Nat)] rfl rfl ?c1 ?c2 ?c3 ?c4 ?c5 ?c6 ?_)
            try (case c1 => exact ob_nw wr _ _)
            try (case c2 => simp [Value.oneCell'])
            try (case c3 => unfold maxLen; omega)
            try (case c4 => omega)
            try (case c5 => exact Nat.zero_le _)
            try (case c6 => omega)
            intro pg pc pw hown hgrow hwhere
            have A1 := PU.out _ _ _ hown hgrow (by simpa using hwhere)
            clear hown hgrow hwhere
            have A2 := Lib.hid (FIN.out _ _ A1)
            clear A1 FIN PU HO
            go_wp2_with fail
            exact ⟨⟨k + 1, by go_num, by rw [decide_eq_false (by omega)], by omega, A2⟩, by simp [intOf]; omega⟩
          · have hgt := MI1 hkJ
            have MX := M21 hkJ
            have hk1 : k ≤ J := by omega
            have hk2 : J ≤ k := by omega
            clear hkJ
            rw [if_pos (by omega)] at hML
            rw [show decide (J < k) = false from decide_eq_false (by omega)]
            have HO := oA_own HA.out
            have PU := Lib.hid (fun g' cap' w1 => o_push (w1 := w1) (g' := g') (cap' := cap') s z HA.out)
            have FIN : Hid (∀ v w, At (oA v ((outM L s z k ++ [(s, z)]) ++ [((eN L k).1, (eN L k).2)]) * (oA (.slice (some ⟨g, 0, none⟩) L.length cap) L * C)) w0 S w → At (oA v (outM L s z (k + 1)) * (oA (.slice (some ⟨g, 0, none⟩) L.length cap) L * C)) w0 S w) := Lib.hid fun v w h => by rw [MX]; exact h
            have CE2 : Hid (∀ v M w, At (oA v M * (oA (.slice (some ⟨g, 0, none⟩) L.length cap) L * C)) w0 S w → w.cell? ⟨g, k * 2, none⟩ = some (.int .i64 ((eN L k).1 : Nat)) ∧ w.cell? ⟨g, k * 2 + 1, none⟩ = some (.int .i64 ((eN L k).2 : Nat))) := Lib.hid fun v M w h => by
              obtain ⟨a', cap', he', hoc⟩ := oc_of (h.re (B := oA (.slice (some ⟨g, 0, none⟩) L.length cap) L * (oA v M * C)) (by ac_rfl))
              cases he'
              obtain ⟨g', hg', q0, q1⟩ := hoc k hlt
              cases hg'
              exact ⟨q0, q1⟩
            have HO := Lib.hid HO
            clear HA LO1 MI1 M11 M21 M31 MX
            generalize (eN L k).1 = x at *
            generalize (eN L k).2 = y at *
            generalize outM L s z k = M at *
            have hml : M.length ≤ 1048577 := by omega
            have hml2 : (M ++ [(s, z)]).length ≤ 1048578 := by rw [List.length_append, List.length_singleton]; omega
            have hme : (M ++ [(s, z)]).length = M.length + 1 := by rw [List.length_append, List.length_singleton]
            have HME := Lib.hid hme
            clear hML hme
            go_wp2_with (at_builtin; refine wpList_append_sep _ rfl _ _ 51 rfl 0 92 i0 (.agg #[.int .i64 0, .int .i64 0]) 2 16 Tryd.underlying51 HI.out HZ0.out HZ1.out HZ2.out rfl (by decide) _ _ _ rfl (World.ownsRow.alloc HO.out _) ⟨wr.heap.size, 0, none⟩ 1 1 [.int .i64 (s : Nat), .int .i64 (z : Nat)] rfl rfl ?c1 ?c2 ?c3 ?c4 ?c5 ?c6 ?_; refine Hid.out ?_)
            try (case c1 => exact ob_nw wr _ _)
            try (case c2 => simp [Value.oneCell'])
            try (case c3 => unfold maxLen; omega)
            try (case c4 => omega)
            try (case c5 => exact Nat.zero_le _)
            try (case c6 => omega)
            refine Lib.hid ?_
            intro pg pc pw hown hgrow hwhere
            have A1 := PU.out _ _ _ hown hgrow (by simpa using hwhere)
            clear hown hgrow hwhere
            clear e0 e1
            obtain ⟨e0, e1⟩ := CE2.out _ _ _ A1
            have A1 : At (oA (.slice (some ⟨pg, 0, none⟩) (M ++ [(s, z)]).length pc) (M ++ [(s, z)]) * (oA (.slice (some ⟨g, 0, none⟩) L.length cap) L * C)) w0 S pw := by rw [HME.out]; exact A1
            have HO2 := Lib.hid (oA_own A1)
            have PU2 := Lib.hid (fun g' cap' w1 => o_push (w1 := w1) (g' := g') (cap' := cap') x y A1)
            clear A1 PU HO CE2
            rw [← HME.out]
            generalize M ++ [(s, z)] = M2 at *
            clear HME
            go_wp2_with (at_builtin; refine wpList_append_sep _ rfl _ _ 51 rfl 0 92 i0 (.agg #[.int .i64 0, .int .i64 0]) 2 16 Tryd.underlying51 HI.out HZ0.out HZ1.out HZ2.out rfl (by decide) _ _ _ rfl (World.ownsRow.alloc HO2.out _) ⟨pw.heap.size, 0, none⟩ 1 1 [.int .i64 (x : Nat), .int .i64 (y : Nat)] rfl rfl ?d1 ?d2 ?d3 ?d4 ?d5 ?d6 ?_)
            try (case d1 => exact ob_nw pw _ _)
            try (case d2 => simp [Value.oneCell'])
            try (case d3 => unfold maxLen; omega)
            try (case d4 => omega)
            try (case d5 => exact Nat.zero_le _)
            try (case d6 => omega)
            intro qg qc qw hown hgrow hwhere
            have A3 := PU2.out _ _ _ hown hgrow (by simpa using hwhere)
            clear hown hgrow hwhere
            have A4 := Lib.hid (FIN.out _ _ A3)
            clear A3 FIN PU2 HO2 e0 e1
            go_wp2_with fail
            exact ⟨⟨k + 1, by go_num, by rw [decide_eq_true (by omega)], by omega, A4⟩, by simp [intOf]; omega⟩
          · have MX := M31 hkJ
            rw [if_neg (by omega)] at hML
            rw [show decide (J < k) = true from decide_eq_true hkJ]
            have HO := oA_own HA.out
            have PU := Lib.hid (fun g' cap' w1 => o_push (w1 := w1) (g' := g') (cap' := cap') (eN L k).1 (eN L k).2 HA.out)
            have FIN : Hid (∀ v w, At (oA v (outM L s z k ++ [((eN L k).1, (eN L k).2)]) * (oA (.slice (some ⟨g, 0, none⟩) L.length cap) L * C)) w0 S w → At (oA v (outM L s z (k + 1)) * (oA (.slice (some ⟨g, 0, none⟩) L.length cap) L * C)) w0 S w) := Lib.hid fun v w h => by rw [MX]; exact h
            have HO := Lib.hid HO
            clear HA LO1 MI1 M11 M21 M31 MX
            generalize (eN L k).1 = x at *
            generalize (eN L k).2 = y at *
            generalize outM L s z k = M at *
            have hml : M.length ≤ 1048577 := by omega
            clear hML
            go_wp2_with (at_builtin; refine wpList_append_sep _ rfl _ _ 51 rfl 0 92 i0 (.agg #[.int .i64 0, .int .i64 0]) 2 16 Tryd.underlying51 HI.out HZ0.out HZ1.out HZ2.out rfl (by decide) _ _ _ rfl (World.ownsRow.alloc HO.out _) ⟨wr.heap.size, 0, none⟩ 1 1 [.int .i64 (x : Nat), .int .i64 (y : Nat)] rfl rfl ?c1 ?c2 ?c3 ?c4 ?c5 ?c6 ?_)
            try (case c1 => exact ob_nw wr _ _)
            try (case c2 => simp [Value.oneCell'])
            try (case c3 => unfold maxLen; omega)
            try (case c4 => omega)
            try (case c5 => exact Nat.zero_le _)
            try (case c6 => omega)
            intro pg pc pw hown hgrow hwhere
            have A1 := PU.out _ _ _ hown hgrow (by simpa using hwhere)
            clear hown hgrow hwhere
            have A2 := Lib.hid (FIN.out _ _ A1)
            clear A1 FIN PU HO
            go_wp2_with fail
            exact ⟨⟨k + 1, by go_num, by rw [decide_eq_true (by omega)], by omega, A2⟩, by simp [intOf]; omega⟩
        · obtain rfl : k = L.length := by omega
          have hltI : ¬ (L.length : Int) < (L.length : Int) := by omega
          have hML := ML.out L.length hk
          obtain ⟨m1, m2⟩ := M4.out
          by_cases hJL : L.length ≤ J
          · have MX := m1 hJL
            rw [if_pos hJL] at hML
            rw [show decide (J < L.length) = false from decide_eq_false (by omega)]
            have HO := Lib.hid (oA_own HA.out)
            have PU := Lib.hid (fun g' cap' w1 => o_push (w1 := w1) (g' := g') (cap' := cap') s z HA.out)
            have FIN : Hid (∀ v w, At (oA v (outM L s z L.length ++ [(s, z)]) * (oA (.slice a L.length cap) L * C)) w0 S w → At (oA v (insL L s z) * C) w0 S w) := Lib.hid fun v w h => by
              rw [MX] at h
              exact At.dropr (C := oA (.slice a L.length cap) L) (h.re (by ac_rfl))
            have HML := Lib.hid hML
            have hml : (outM L s z L.length).length ≤ 1048577 := by omega
            clear HA MX m1 m2
            generalize outM L s z L.length = M at *
            clear hML
            go_wp2_with (at_builtin; refine wpList_append_sep _ rfl _ _ 51 rfl 0 92 i0 (.agg #[.int .i64 0, .int .i64 0]) 2 16 Tryd.underlying51 HI.out HZ0.out HZ1.out HZ2.out rfl (by decide) _ _ _ rfl (World.ownsRow.alloc HO.out _) ⟨wr.heap.size, 0, none⟩ 1 1 [.int .i64 (s : Nat), .int .i64 (z : Nat)] rfl rfl ?c1 ?c2 ?c3 ?c4 ?c5 ?c6 ?_)
            try (case c1 => exact ob_nw wr _ _)
            try (case c2 => simp [Value.oneCell'])
            try (case c3 => unfold maxLen; omega)
            try (case c4 => omega)
            try (case c5 => exact Nat.zero_le _)
            try (case c6 => omega)
            intro pg pc pw hown hgrow hwhere
            have A1 := PU.out _ _ _ hown hgrow (by simpa using hwhere)
            clear hown hgrow hwhere
            have A2 := Lib.hid (FIN.out _ _ A1)
            clear A1 FIN PU HO
            rw [HML.out] at A2 ⊢
            clear HML
            go_wp2_with fail
            go_ret2
            exact ⟨pg, pc, rfl, A2.out⟩
          · have MX := m2 hJL
            rw [if_neg hJL] at hML
            rw [show decide (J < L.length) = true from decide_eq_true (by omega)]
            obtain ⟨pg, hpg⟩ : ∃ pg, bo = some ⟨pg, 0, none⟩ := by
              obtain ⟨a', cap', he', hoc⟩ := oc_of HA.out
              cases he'
              obtain ⟨g', hg', _⟩ := hoc 0 (by omega)
              exact ⟨g', hg'⟩
            subst hpg
            have A2 : Hid (At (oA (.slice (some ⟨pg, 0, none⟩) (L.length + 1) co) (insL L s z) * C) w0 S wr) := Lib.hid (by
              have h := HA.out
              rw [MX] at h
              rw [insL_len] at h
              exact At.dropr (C := oA (.slice a L.length cap) L) (h.re (by ac_rfl)))
            rw [hML]
            clear HA MX m1 m2 hML
            go_wp2_with fail
            go_ret2
            exact ⟨pg, co, rfl, A2.out⟩

end

end Go.Proofs.YtaaapbfhedgnjaaDoor.BV
