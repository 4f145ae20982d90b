/- The law FloatBest, walked. -/
import Derived.Test.YtflkbefiopnigaaDoorFlN
import Derived.Test.YtflkbefiopnigaaDoorArgs
namespace Go.Proofs.YtflkbefiopnigaaDoor
open Go.ChangeShapes Go.WideShapes Go.ChangeAt Go.RowKit

/-- words in memory -/
def U64Row (w : World) (a : Option Addr) (l : List Nat) : Prop := ∀ j, j < l.length → ∃ q off, a = some ⟨q, off, none⟩ ∧ q < w.heap.size ∧ w.cell? ⟨q, off + j, none⟩ = some (.int .u64 (l.getD j 0 : Nat))

/-- the best of the first k -/
def bI (bt : Nat → Nat → Bool) (l : List Nat) (s : Nat) : Nat → Nat
  | 0 => s
  | k + 1 => if k = 0 then l.getD k 0 else if bt (l.getD k 0) (bI bt l s k) then l.getD k 0 else bI bt l s k

def cI (bt : Nat → Nat → Bool) (l : List Nat) (s : Nat) : Nat → Nat
  | 0 => s
  | k + 1 => if bt (l.getD k 0) (cI bt l s k) then l.getD k 0 else cI bt l s k

theorem bI_c (bt : Nat → Nat → Bool) (l : List Nat) (s : Nat) (h : 0 < l.length → bt (l.getD 0 0) s = true ∨ l.getD 0 0 = s) : ∀ k, k ≤ l.length → bI bt l s k = cI bt l s k
  | 0, _ => rfl
  | k + 1, hk => by
    have ih := bI_c bt l s h k (by omega)
    unfold bI cI
    by_cases e : k = 0
    · subst e
      rw [if_pos rfl]
      show _ = if bt (l.getD 0 0) s then l.getD 0 0 else s
      rcases h (by omega) with g | g
      · rw [if_pos g]
      · rw [g]; split <;> rfl
    · rw [if_neg e, ih]

theorem cI_ch (bt : Nat → Nat → Bool) (l : List Nat) (s : Nat) (hn : ∀ j, j < l.length → ¬ kd (l.getD j 0) = 4) : ∀ k, k ≤ l.length → chF bt (l.drop k) (cI bt l s k) = chF bt l s
  | 0, _ => rfl
  | k + 1, hk => by
    rw [← cI_ch bt l s hn k (by omega), drop_getD l k (by omega)]
    show _ = if kd (l.getD k 0) = 4 then _ else _
    rw [if_neg (hn k (by omega))]
    rfl

theorem ch_nan (bt : Nat → Nat → Bool) : ∀ (l : List Nat) (s : Nat) (j : Nat), j < l.length → kd (l.getD j 0) = 4 → chF bt l s = 9221120237041090560
  | [], _, j, h, _ => by simp at h
  | f :: r, s, j, h, hk => by
    unfold chF
    by_cases e : kd f = 4
    · rw [if_pos e]
    · rw [if_neg e]
      match j, h, hk with
      | 0, _, hk => exact absurd hk e
      | j + 1, h, hk => exact ch_nan bt r _ j (by simpa using h) (by simpa using hk)

theorem bI_lt (bt : Nat → Nat → Bool) (l : List Nat) (s : Nat) (hs : s < 18446744073709551616) (hl : ∀ j, l.getD j 0 < 18446744073709551616) : ∀ k, bI bt l s k < 18446744073709551616
  | 0 => hs
  | k + 1 => by
    have ih := bI_lt bt l s hs hl k
    have := hl k
    unfold bI
    split
    · exact this
    · split
      · exact this
      · exact ih

theorem first_least (x : Nat) (hx : x < 18446744073709551616) (hk : ¬ kd x = 4) : bfB x 9218868437227405312 = true ∨ x = 9218868437227405312 := by
  unfold kd kdx at hk
  unfold bfB rkN sgB
  simp only [decide_eq_true_eq]
  by_cases h : 9223372036854775808 ≤ x
  · left; rw [if_pos h, if_neg (by omega)]; omega
  · rw [if_neg h, if_neg (by omega)]
    by_cases e : x = 9218868437227405312
    · exact .inr e
    · left
      split at hk
      · omega
      · split at hk
        · omega
        · split at hk
          · omega
          · split at hk
            · omega
            · exact absurd rfl hk

theorem first_most (x : Nat) (hx : x < 18446744073709551616) (hk : ¬ kd x = 4) : swB x 18442240474082181120 = true ∨ x = 18442240474082181120 := by
  unfold kd kdx at hk
  unfold swB bfB rkN sgB
  simp only [decide_eq_true_eq]
  by_cases h : 9223372036854775808 ≤ x
  · rw [if_pos h, if_pos (by omega)]
    by_cases e : x = 18442240474082181120
    · exact .inr e
    · left
      split at hk
      · omega
      · split at hk
        · omega
        · split at hk
          · omega
          · split at hk
            · omega
            · exact absurd rfl hk
  · left; rw [if_neg h, if_pos (by omega)]; omega

theorem best_eq (bt : Nat → Nat → Bool) (l : List Nat) (s : Nat) (hn : ∀ j, j < l.length → ¬ kd (l.getD j 0) = 4) (h : 0 < l.length → bt (l.getD 0 0) s = true ∨ l.getD 0 0 = s) : bI bt l s l.length = chF bt l s := by
  rw [bI_c bt l s h _ (Nat.le_refl _), ← cI_ch bt l s hn _ (Nat.le_refl _), List.drop_length]
  rfl

set_option maxHeartbeats 1000000 in
theorem rb_least (l : List Nat) (a : Option Addr) (cap : Nat) (w : World) (hrow : U64Row w a l) (hl : l.length ≤ 9223372036854775807) (hwf : ∀ j, l.getD j 0 < 18446744073709551616) :
    Calls Tryd.prog 26 #[.slice a l.length cap, .bool false] w fun e w' => e = .returned (.int .u64 (chF bfB l 9218868437227405312 : Nat)) ∧ w = w' := by
  have HW := Lib.hid hwf
  have HR := Lib.hid hrow
  have HN := Lib.hid (ch_nan bfB l 9218868437227405312)
  have HE := Lib.hid (fun hn => best_eq bfB l 9218868437227405312 hn (fun h0 => first_least _ (hwf 0) (hn 0 h0)))
  have HL := Lib.hid (bI_lt bfB l 9218868437227405312 (by decide) hwf)
  have HI : Hid (∀ k, bI bfB l 9218868437227405312 (k + 1) = if k = 0 then l.getD k 0 else if bfB (l.getD k 0) (bI bfB l 9218868437227405312 k) then l.getD k 0 else bI bfB l 9218868437227405312 k) := Lib.hid fun _ => rfl
  have H0 : Hid (bI bfB l 9218868437227405312 0 = 9218868437227405312) := Lib.hid rfl
  clear hwf hrow
  generalize chF bfB l 9218868437227405312 = fin at *
  generalize bI bfB l 9218868437227405312 = B at *
  go_enter Tryd.func26, Tryd.ntmps26
  go_wp2
  go_loop [6] (fun i => ∃ (k : Nat), k ≤ l.length ∧ i = .int .i64 k ∧ Hid (∀ j, j < k → ¬ kd (l.getD j 0) = 4)) (fun i => l.length - (intOf i).toNat)
  case atStart => exact ⟨0, Nat.zero_le _, rfl, Lib.hid (fun j h => absurd h (by omega))⟩
  case round =>
    obtain ⟨k, hk, rfl, HK⟩ := hrel
    by_cases hlt : k < l.length
    · obtain ⟨q, off, rfl, _, hc⟩ := HR.out k hlt
      have hltI : (k : Int) < (l.length : Int) := by omega
      have K := r_nan (l.getD k 0) w
      by_cases h4 : kd (l.getD k 0) = 4
      · have HN2 := Lib.hid (HN.out k hlt h4)
        rw [h4] at K
        have K := Lib.hid K
        clear h4
        generalize l.getD k 0 = f at *
        go_wp2_with (go_at_call 12; refine (K.out).mono ?_; rintro e1 w1 ⟨rfl, rfl⟩)
        go_ret
        exact ⟨by rw [HN2.out]; rfl, rfl⟩
      · have HK2 : Hid (∀ j, j < k + 1 → ¬ kd (l.getD j 0) = 4) := Lib.hid (fun j hj => by
          by_cases e : j = k
          · rw [e]; exact h4
          · exact HK.out j (by omega))
        have h4' : (kd (l.getD k 0) == 4) = false := by simpa using h4
        rw [h4'] at K
        have K := Lib.hid K
        clear h4 h4'
        generalize l.getD k 0 = f at *
        go_wp2_with (go_at_call 12; refine (K.out).mono ?_; rintro e1 w1 ⟨rfl, rfl⟩)
        go_round
        case rel => exact ⟨k + 1, by omega, by go_num, HK2⟩
        case measure => simp [intOf]; omega
    · obtain rfl : k = l.length := by omega
      have HE2 := Lib.hid (HE.out HK.out)
      clear HK HE HN
      go_wp2
      go_loop [5, 7] (fun o i => ∃ (k : Nat), k ≤ l.length ∧ i = .int .i64 k ∧ o = .int .u64 (B k : Nat)) (fun _ i => l.length - (intOf i).toNat)
      case atStart => exact ⟨0, Nat.zero_le _, rfl, by rw [H0.out]; rfl⟩
      case round =>
        obtain ⟨k, hk, rfl, rfl⟩ := hrel
        by_cases hlt : k < l.length
        · obtain ⟨q, off, rfl, _, hc⟩ := HR.out k hlt
          have hltI : (k : Int) < (l.length : Int) := by omega
          have hb := HL.out k
          have BF := r_before (l.getD k 0) (B k) (HW.out k) hb w
          have HI2 := HI.out k
          
          by_cases k0 : k = 0
          · subst k0
            rw [if_pos rfl] at HI2
            have HI3 := Lib.hid HI2
            clear HI2 BF hb
            rw [Nat.add_zero] at hc
            generalize l.getD 0 0 = f at *
            go_wp2
            go_round
            case rel => exact ⟨1, by omega, by go_num, by rw [show B 1 = B (0 + 1) from rfl, HI3.out]⟩
            case measure => simp [intOf]; omega
          · have k0I : ¬ (k : Int) = 0 := by omega
            rw [if_neg k0] at HI2
            generalize hv : bfB (l.getD k 0) (B k) = v at *
            clear hv hb
            have BH := Lib.hid BF
            clear BF
            generalize l.getD k 0 = f at *
            generalize hbk : B k = bk at *
            cases v
            all_goals
              simp only [Bool.false_eq_true, if_true, if_false] at HI2
              have HI3 := Lib.hid HI2
              clear HI2
              go_wp2_with (go_at_call 19; refine (BH.out).mono ?_; rintro e1 w1 ⟨rfl, rfl⟩)
              go_round
              case rel => exact ⟨k + 1, by omega, by go_num, by rw [HI3.out]⟩
              case measure => simp [intOf]; omega
        · obtain rfl : k = l.length := by omega
          go_wp2
          go_ret
          exact ⟨by rw [HE2.out]; rfl, rfl⟩

set_option maxHeartbeats 1000000 in
theorem rb_most (l : List Nat) (a : Option Addr) (cap : Nat) (w : World) (hrow : U64Row w a l) (hl : l.length ≤ 9223372036854775807) (hwf : ∀ j, l.getD j 0 < 18446744073709551616) :
    Calls Tryd.prog 26 #[.slice a l.length cap, .bool true] w fun e w' => e = .returned (.int .u64 (chF swB l 18442240474082181120 : Nat)) ∧ w = w' := by
  have HW := Lib.hid hwf
  have HR := Lib.hid hrow
  have HN := Lib.hid (ch_nan swB l 18442240474082181120)
  have HE := Lib.hid (fun hn => best_eq swB l 18442240474082181120 hn (fun h0 => first_most _ (hwf 0) (hn 0 h0)))
  have HL := Lib.hid (bI_lt swB l 18442240474082181120 (by decide) hwf)
  have HI : Hid (∀ k, bI swB l 18442240474082181120 (k + 1) = if k = 0 then l.getD k 0 else if swB (l.getD k 0) (bI swB l 18442240474082181120 k) then l.getD k 0 else bI swB l 18442240474082181120 k) := Lib.hid fun _ => rfl
  have H0 : Hid (bI swB l 18442240474082181120 0 = 18442240474082181120) := Lib.hid rfl
  clear hwf hrow
  generalize chF swB l 18442240474082181120 = fin at *
  generalize bI swB l 18442240474082181120 = B at *
  go_enter Tryd.func26, Tryd.ntmps26
  go_wp2
  go_loop [6] (fun i => ∃ (k : Nat), k ≤ l.length ∧ i = .int .i64 k ∧ Hid (∀ j, j < k → ¬ kd (l.getD j 0) = 4)) (fun i => l.length - (intOf i).toNat)
  case atStart => exact ⟨0, Nat.zero_le _, rfl, Lib.hid (fun j h => absurd h (by omega))⟩
  case round =>
    obtain ⟨k, hk, rfl, HK⟩ := hrel
    by_cases hlt : k < l.length
    · obtain ⟨q, off, rfl, _, hc⟩ := HR.out k hlt
      have hltI : (k : Int) < (l.length : Int) := by omega
      have K := r_nan (l.getD k 0) w
      by_cases h4 : kd (l.getD k 0) = 4
      · have HN2 := Lib.hid (HN.out k hlt h4)
        rw [h4] at K
        have K := Lib.hid K
        clear h4
        generalize l.getD k 0 = f at *
        go_wp2_with (go_at_call 12; refine (K.out).mono ?_; rintro e1 w1 ⟨rfl, rfl⟩)
        go_ret
        exact ⟨by rw [HN2.out]; rfl, rfl⟩
      · have HK2 : Hid (∀ j, j < k + 1 → ¬ kd (l.getD j 0) = 4) := Lib.hid (fun j hj => by
          by_cases e : j = k
          · rw [e]; exact h4
          · exact HK.out j (by omega))
        have h4' : (kd (l.getD k 0) == 4) = false := by simpa using h4
        rw [h4'] at K
        have K := Lib.hid K
        clear h4 h4'
        generalize l.getD k 0 = f at *
        go_wp2_with (go_at_call 12; refine (K.out).mono ?_; rintro e1 w1 ⟨rfl, rfl⟩)
        go_round
        case rel => exact ⟨k + 1, by omega, by go_num, HK2⟩
        case measure => simp [intOf]; omega
    · obtain rfl : k = l.length := by omega
      have HE2 := Lib.hid (HE.out HK.out)
      clear HK HE HN
      go_wp2
      go_loop [5, 7] (fun o i => ∃ (k : Nat), k ≤ l.length ∧ i = .int .i64 k ∧ o = .int .u64 (B k : Nat)) (fun _ i => l.length - (intOf i).toNat)
      case atStart => exact ⟨0, Nat.zero_le _, rfl, by rw [H0.out]; rfl⟩
      case round =>
        obtain ⟨k, hk, rfl, rfl⟩ := hrel
        by_cases hlt : k < l.length
        · obtain ⟨q, off, rfl, _, hc⟩ := HR.out k hlt
          have hltI : (k : Int) < (l.length : Int) := by omega
          have hb := HL.out k
          have BF := r_before (B k) (l.getD k 0) hb (HW.out k) w
          have HI2 := HI.out k
          unfold swB at HI2
          by_cases k0 : k = 0
          · subst k0
            rw [if_pos rfl] at HI2
            have HI3 := Lib.hid HI2
            clear HI2 BF hb
            rw [Nat.add_zero] at hc
            generalize l.getD 0 0 = f at *
            go_wp2
            go_round
            case rel => exact ⟨1, by omega, by go_num, by rw [show B 1 = B (0 + 1) from rfl, HI3.out]⟩
            case measure => simp [intOf]; omega
          · have k0I : ¬ (k : Int) = 0 := by omega
            rw [if_neg k0] at HI2
            generalize hv : bfB (B k) (l.getD k 0) = v at *
            clear hv hb
            have BH := Lib.hid BF
            clear BF
            generalize l.getD k 0 = f at *
            generalize hbk : B k = bk at *
            cases v
            all_goals
              simp only [Bool.false_eq_true, if_true, if_false] at HI2
              have HI3 := Lib.hid HI2
              clear HI2
              go_wp2_with (go_at_call 19; refine (BH.out).mono ?_; rintro e1 w1 ⟨rfl, rfl⟩)
              go_round
              case rel => exact ⟨k + 1, by omega, by go_num, by rw [HI3.out]⟩
              case measure => simp [intOf]; omega
        · obtain rfl : k = l.length := by omega
          go_wp2
          go_ret
          exact ⟨by rw [HE2.out]; rfl, rfl⟩

theorem infF64 : (Tryd.prog.info? 23).map (fun i => (i.zero, i.size, i.bytes)) = some (some (.float .f64 0), 1, 8) := by kernel_rfl

theorem one_nwf (wr : World) (x : Nat) : ∀ j u, [Value.float .f64 x][j]? = some u → (wr.alloc (.cells #[.float .f64 x] 23)).cell? ((⟨wr.heap.size, 0, none⟩ : Addr).add j) = some u := by
  intro j u hj
  match j, hj with
  | 0, hj => simp at hj; subst hj; simp [Addr.add]

def flV (l : List Nat) : List Value := l.map (fun n => Value.float .f64 n)

theorem own_f2 {w : World} {B n z : Nat} {e : TypeId} {v : Value} {xs : List Value} (h : w.ownsRow B e z v n xs) : ∃ a cap, v = .slice a n cap := by
  rcases h.2 with ⟨rfl, rfl⟩ | ⟨g, cap, cur, rfl, _⟩
  · exact ⟨_, _, rfl⟩
  · exact ⟨_, _, rfl⟩

theorem own_FlRow {w : World} {B : Nat} {a : Option Addr} {cap : Nat} {l : List Nat} (h : w.ownsRow B 23 1 (.slice a l.length cap) l.length (flV l)) : FlRow w a l := by
  intro j hj
  have h0 := h
  rcases h.2 with ⟨h1, _⟩ | ⟨g, cap', cur, hv, _⟩
  · omega
  · cases hv
    have hc := World.ownsRow.cellAt h0 j (by omega)
    refine ⟨g, 0, rfl, ?_⟩
    rw [Nat.zero_add, hc]
    simp [flV, List.getD_eq_getElem?_getD, hj]

set_option maxHeartbeats 2000000 in
theorem floats_any (l : List Nat) (a : Option Addr) (cap : Nat) (w : World) (hrow : U64Row w a l) (hl : l.length ≤ 300) :
    Calls Tryd.prog 24 #[.slice a l.length cap] w fun e w' => ∃ a' cap', e = .returned (.slice a' l.length cap') ∧ FlRow w' a' l ∧ Below w.heap.size w w' := by
  have HR := Lib.hid hrow
  obtain ⟨i0, hi, hz0, hz1, hz2⟩ := info_parts infF64
  have HI := Lib.hid hi
  have HZ0 := Lib.hid hz0
  have HZ1 := Lib.hid hz1
  have HZ2 := Lib.hid hz2
  clear hi hz0 hz1 hz2 hrow
  go_enter Tryd.func24, Tryd.ntmps24
  go_wp2
  go_loopw [3, 8] (fun v i wr => ∃ (k : Nat), k ≤ l.length ∧ i = .int .i64 k ∧ Hid (wr.ownsRow w.heap.size 23 1 v k (flV (l.take k))) ∧ Below w.heap.size w wr) (fun _ i _ => l.length - (intOf i).toNat)
  case atStart => exact ⟨0, Nat.zero_le _, rfl, Lib.hid (World.ownsRow_nil _ _ _ _), Below.refl _ _⟩
  case round =>
    obtain ⟨k, hk, rfl, HO, hbel⟩ := hrel
    have szr := hbel.size
    have HBEL := Lib.hid hbel
    clear hbel
    obtain ⟨a3, c3, rfl⟩ := own_f2 HO.out
    by_cases hlt : k < l.length
    · obtain ⟨q, off, rfl, hq, hc0⟩ := HR.out k hlt
      have hc := (HBEL.out.cell (p := ⟨q, _, none⟩) hq).trans hc0
      clear hc0 hq
      have hltI : (k : Int) < (l.length : Int) := by omega
      have HT : Hid (flV (l.take (k + 1)) = flV (l.take k) ++ [.float .f64 (l.getD k 0)]) := Lib.hid (by
        unfold flV
        rw [List.take_add_one, List.map_append, List.getD_eq_getElem?_getD, List.getElem?_eq_getElem hlt]
        rfl)
      generalize l.getD k 0 = f at *
      have B2 := Lib.hid (HBEL.out.alloc szr (.cells #[.float .f64 f] 23))
      go_wp2_with (first | (go_at_call 9; refine (fl_of _ _).mono ?_; rintro e1 w1 ⟨rfl, rfl⟩) | (at_builtin; refine wpList_append_own _ rfl _ _ 37 rfl w.heap.size 23 i0 (.float .f64 0) 1 8 Tryd.underlying37 HI.out HZ0.out HZ1.out HZ2.out rfl (by decide) _ _ _ rfl (World.ownsRow.alloc HO.out _) ⟨wr.heap.size, 0, none⟩ 1 1 [.float .f64 f] rfl rfl ?c1 ?c2 ?c3 ?c4 ?c5 ?_))
      case c1 => exact one_nwf wr _
      case c2 => simp [Value.oneCell']
      case c3 => unfold maxLen; omega
      case c4 => omega
      case c5 => simp; omega
      intro v5 w5 own5 grow5 _
      have REL : Hid (w5.ownsRow w.heap.size 23 1 v5 (k + 1) (flV (l.take (k + 1)))) := by
        rw [HT.out]
        exact Lib.hid own5
      have BEL : Hid (Below w.heap.size w w5) := by
        have h := HO.out.lt
        exact Lib.hid ((HBEL.out.alloc szr _).grown grow5 (by simp; omega) (fun k hk => (h k hk).1))
      clear own5 grow5 HO HBEL B2
      go_wp2
      go_roundw
      case rel => exact ⟨k + 1, by omega, by go_num, REL, BEL.out⟩
      case measure => simp [intOf]; omega
    · obtain rfl : k = l.length := by omega
      have e : l.take l.length = l := List.take_length
      have HO2 := HO.out
      rw [e] at HO2
      have HF := Lib.hid (own_FlRow HO2)
      clear HO HO2 e
      go_wp2
      go_ret
      exact ⟨_, _, rfl, HF.out, HBEL.out⟩

set_option maxHeartbeats 2000000 in
theorem best_any (l : List Nat) (a : Option Addr) (cap : Nat) (w : World) (hrow : U64Row w a l) (hl : l.length ≤ 300) (hwf : ∀ j, l.getD j 0 < 18446744073709551616) (hT : Tab w) :
    Calls Tryd.prog 7 #[.slice a l.length cap] w fun e w' => e = .returned (.bool true) ∧ Below w.heap.size w w' := by
  have F0 := Lib.hid (floats_any l a cap w hrow hl)
  have LS := Lib.hid (fun a' c' w' (h : FlRow w' a' l) => fl_least l a' c' w' h (by omega) hwf)
  have MS := Lib.hid (fun a' c' w' (h : FlRow w' a' l) => fl_most l a' c' w' h (by omega) hwf)
  have R1 := Lib.hid (fun w' (h : U64Row w' a l) => rb_least l a cap w' h (by omega) hwf)
  have R2 := Lib.hid (fun w' (h : U64Row w' a l) => rb_most l a cap w' h (by omega) hwf)
  have KR : Hid (∀ w', Below w.heap.size w w' → U64Row w' a l) := Lib.hid (fun w' hb j hj => by
    obtain ⟨q, off, e1, e2, e3⟩ := hrow j hj
    exact ⟨q, off, e1, Nat.lt_of_lt_of_le e2 hb.size, (hb.cell (p := ⟨q, _, none⟩) e2).trans e3⟩)
  have LV : Hid (∀ w', Below w.heap.size w w' → Calls Tryd.prog 17 #[] w' fun e w'' => e = .returned (.bool true) ∧ Below w'.heap.size w' w'') := Lib.hid (fun w' hb => fl_lives w' (tab_grow hT hb))
  generalize chF bfB l 9218868437227405312 = c1 at *
  generalize chF swB l 18442240474082181120 = c2 at *
  clear hrow hT hwf
  go_enter Tryd.func7, Tryd.ntmps7
  go_wp2_with fail
  refine F0.out.mono ?_
  rintro e w1 ⟨a', c', rfl, hF, hb⟩
  have B1 := Lib.hid hb
  have L1 := Lib.hid (LS.out a' c' _ hF)
  have M1 := Lib.hid (MS.out a' c' _ hF)
  have Q1 := Lib.hid (R1.out _ (KR.out _ hb))
  have Q2 := Lib.hid (R2.out _ (KR.out _ hb))
  have LI := Lib.hid (LV.out _ hb)
  have SZ := hb.size
  clear hF hb LS MS R1 R2 KR LV F0
  go_wp2_with (first | (go_at_call 25; refine (L1.out).mono ?_; rintro e1 w2 ⟨rfl, rfl⟩) | (go_at_call 27; refine (M1.out).mono ?_; rintro e1 w2 ⟨rfl, rfl⟩) | (go_at_call 10; refine (fl_bits _ _).mono ?_; rintro e1 w2 ⟨rfl, rfl⟩) | (go_at_call 26; (first | with_reducible refine (Q1.out).mono ?_ | with_reducible refine (Q2.out).mono ?_); rintro e1 w2 ⟨rfl, rfl⟩) | (go_at_call 17; refine (LI.out).mono ?_; rintro e1 w2 ⟨rfl, hb2⟩))
  go_ret
  exact ⟨rfl, Below.step B1.out hb2 SZ⟩

theorem best_long (len : Nat) (a : Option Addr) (cap : Nat) (w : World) (hl : 300 < len) (hl2 : len ≤ 9223372036854775807) (hT : Tab w) :
    Calls Tryd.prog 7 #[.slice a len cap] w fun e w' => e = .returned (.bool true) ∧ Below w.heap.size w w' := by
  have L := Lib.hid (fl_lives w hT)
  clear hT
  go_enter Tryd.func7, Tryd.ntmps7
  go_wp2_with (go_at_call 17; refine (L.out).mono ?_; rintro e1 w2 ⟨rfl, hb2⟩)
  go_ret
  exact ⟨rfl, hb2⟩

theorem best_law (a : Option Addr) (len cap : Nat) (zs : List Int) (w : World) (hrow : IntRow .u64 w a len cap zs) (hT : Tab w) :
    Calls Tryd.prog 7 #[.slice a len cap] w fun e w' => e = .returned (.bool true) ∧ Below w.heap.size w w' := by
  have hlc := hrow.lc
  have hcm : cap ≤ 9223372036854775807 := by have := hrow.cm; unfold maxLen at this; omega
  by_cases h : 300 < len
  · exact best_long len a cap w h (by omega) hT
  · have hl := hrow.length
    have hb : ∀ j, 0 ≤ zs.getD j 0 ∧ zs.getD j 0 < 18446744073709551616 := by
      intro j
      by_cases hj : j < zs.length
      · have hm : zs.getD j 0 ∈ zs := by rw [List.getD_eq_getElem?_getD, List.getElem?_eq_getElem hj]; exact List.getElem_mem hj
        obtain ⟨n, hn, hn2⟩ := word (hrow.wf _ hm)
        omega
      · rw [List.getD_eq_getElem?_getD, List.getElem?_eq_none (by omega)]; simp
    have e : ∀ j, (zs.map Int.toNat).getD j 0 = (zs.getD j 0).toNat := by
      intro j
      rw [List.getD_eq_getElem?_getD, List.getD_eq_getElem?_getD, List.getElem?_map]
      cases zs[j]? <;> rfl
    have hlen : (zs.map Int.toNat).length = len := by rw [List.length_map]; exact hl
    have := best_any (zs.map Int.toNat) a cap w (fun j hj => by
      obtain ⟨q, off, h1, h2, h3⟩ := hrow.at_ j (by omega)
      refine ⟨q, off, h1, h2, ?_⟩
      rw [h3, e j]
      have := hb j
      congr 2
      omega) (by omega) (fun j => by rw [e j]; have := hb j; omega) hT
    rw [hlen] at this
    exact this

end Go.Proofs.YtflkbefiopnigaaDoor
