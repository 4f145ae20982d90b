/- The law BitvecAdds, walked. -/
import Derived.Test.YtflkbefiopnigacDoorBvL
import Derived.Test.YtflkbefiopnigacDoorRecs
import Derived.Test.YtflkbefiopnigacDoorArr3
import Derived.Test.YtflkbefiopnigacDoorMTabA
namespace Go.Proofs.YtflkbefiopnigacDoor.BV
open Go.ChangeShapes Go.WideShapes Go.ChangeAt Go.RowKit

theorem cp_parts (p : Nat → Bool) (f g h : Int) (h1 : f ≤ g) (h2 : g ≤ h) : ∀ n, cp (fun j => decide (f ≤ (j : Int) ∧ (j : Int) < g) && p j) n + cp (fun j => decide (g ≤ (j : Int) ∧ (j : Int) < h) && p j) n = cp (fun j => decide (f ≤ (j : Int) ∧ (j : Int) < h) && p j) n
  | 0 => rfl
  | n + 1 => by
    have ih := cp_parts p f g h h1 h2 n
    simp only [cp]
    rw [← ih]
    have key : (decide (f ≤ (n : Int) ∧ (n : Int) < g) && p n).toNat + (decide (g ≤ (n : Int) ∧ (n : Int) < h) && p n).toNat = (decide (f ≤ (n : Int) ∧ (n : Int) < h) && p n).toNat := by
      cases p n
      · simp
      · by_cases c1 : (n : Int) < g
        · rw [decide_eq_false (show ¬ (g ≤ (n : Int) ∧ (n : Int) < h) by omega)]
          rw [show decide (f ≤ (n : Int) ∧ (n : Int) < g) = decide (f ≤ (n : Int) ∧ (n : Int) < h) by rw [Bool.eq_iff_iff, decide_eq_true_iff, decide_eq_true_iff]; omega]
          simp
        · rw [decide_eq_false (show ¬ (f ≤ (n : Int) ∧ (n : Int) < g) by omega)]
          rw [show decide (g ≤ (n : Int) ∧ (n : Int) < h) = decide (f ≤ (n : Int) ∧ (n : Int) < h) by rw [Bool.eq_iff_iff, decide_eq_true_iff, decide_eq_true_iff]; omega]
          simp
    omega

theorem on_split (b : Nat → Bool) (n : Nat) (f g h : Int) (h1 : f ≤ g) (h2 : g ≤ h) : cp (onR b n f g) n + cp (onR b n g h) n = cp (onR b n f h) n := by
  have e : ∀ x y, cp (onR b n x y) n = cp (fun j => decide (x ≤ (j : Int) ∧ (j : Int) < y) && b j) n := fun x y => cp_congr n fun j hj => by
    unfold onR inR
    rw [decide_eq_true hj, Bool.and_true]
  rw [e, e, e]
  exact cp_parts b f g h h1 h2 n

theorem on_below {b : Nat → Bool} {n r : Nat} (hr : r ≤ n) : cp (onR b n 0 r) n = cp b r := by
  rw [cp_tail (onR b n 0 r) hr fun j hj => by unfold onR; rw [inR_not (by omega)]; rfl]
  exact cp_congr r fun j hj => by unfold onR; rw [inR_iff.2 (by omega)]; rfl

theorem clear_any {p : Nat} {v : Bits} (hv : v.ok) (i : Int) : ∃ (e : Int) (v' : Bits), v'.ok ∧ v'.n = v.n ∧ Tri1 Tryd.prog 26 #[.pointer (some ⟨p, 0, none⟩), .int .i64 i] (bvA p v) (.int .i64 e) (bvA p v') := by
  by_cases h : 0 ≤ i ∧ i < v.n
  · obtain ⟨k, rfl⟩ := Int.eq_ofNat_of_zero_le h.1
    exact ⟨0, _, hv.set k false (by omega), rfl, bv_clear_ok hv k (by omega)⟩
  · exact ⟨11, v, hv, rfl, (bv_clear_bad hv i (by omega)).tri⟩

theorem u_mod (x : Int) (n : Nat) (h1 : 1 ≤ n) (h2 : n ≤ 65537) : ∃ j : Nat, j < n ∧ wrap64 ((IntKind.u64.wrap x).tmod n) = (j : Int) := by
  have h0 : ∃ m : Nat, IntKind.u64.wrap x = m := by
    refine ⟨(IntKind.u64.wrap x).toNat, ?_⟩
    have : 0 ≤ IntKind.u64.wrap x := by unfold IntKind.wrap; simp [IntKind.bits, IntKind.signed]; omega
    omega
  obtain ⟨m, hm⟩ := h0
  rw [hm]
  have : (m : Int).tmod (n : Int) = ((m % n : Nat) : Int) := by
    rw [Int.tmod_eq_emod_of_nonneg (by omega)]; rfl
  rw [this]
  have hlt := Nat.mod_lt m (show 0 < n by omega)
  refine ⟨m % n, hlt, ?_⟩
  generalize m % n = q at *
  unfold wrap64
  omega

def adA (c X : Nat) (v : Bits) (c0 c1 c2 : Int) : Asn := bvA c v * blk X (.cells #[.int .i64 c0, .int .i64 c1, .int .i64 c2] 48 (0, 0))

section
variable {w0 w : World} {S : Nat → Prop} {c X : Nat} {v v' : Bits} {c0 c1 c2 : Int} {fn : FuncId} {args : Array Value} {r : Value}

theorem ad_bv (T : Tri1 Tryd.prog fn args (bvA c v) r (bvA c v')) (h : At (adA c X v c0 c1 c2) w0 S w) : Calls Tryd.prog fn args w fun e w' => e = .returned r ∧ At (adA c X v' c0 c1 c2) w0 S w' := At.tri1 h T

theorem ad_cells (h : At (adA c X v c0 c1 c2) w0 S w) : w.cell? ⟨X, 0, none⟩ = some (.int .i64 c0) ∧ w.cell? ⟨X, 1, none⟩ = some (.int .i64 c1) ∧ w.cell? ⟨X, 2, none⟩ = some (.int .i64 c2) :=
  vcells (At.blkIs (A := bvA c v) (h.re (by unfold adA; ac_rfl)))
end

def acA (c X Y : Nat) (v : Bits) (c0 c1 c2 f0 f1 f2 : Int) : Asn := adA c X v c0 c1 c2 * blk Y (.cells #[.int .u8 f0, .int .i64 f1, .int .i64 f2] 31 (0, 0))

theorem ac_cells {w0 w : World} {S : Nat → Prop} {c X Y : Nat} {v : Bits} {c0 c1 c2 f0 f1 f2 : Int} (h : At (acA c X Y v c0 c1 c2 f0 f1 f2) w0 S w) : w.cell? ⟨Y, 0, none⟩ = some (.int .u8 f0) ∧ w.cell? ⟨Y, 1, none⟩ = some (.int .i64 f1) ∧ w.cell? ⟨Y, 2, none⟩ = some (.int .i64 f2) :=
  vcells (At.blkIs (A := adA c X v c0 c1 c2) (h.re (by unfold acA; ac_rfl)))

theorem ac_bv {w0 w : World} {S : Nat → Prop} {c X Y : Nat} {v v' : Bits} {c0 c1 c2 f0 f1 f2 : Int} {fn : FuncId} {args : Array Value} {r : Value} (T : Tri1 Tryd.prog fn args (bvA c v) r (bvA c v')) (h : At (acA c X Y v c0 c1 c2 f0 f1 f2) w0 S w) : Calls Tryd.prog fn args w fun e w' => e = .returned r ∧ At (acA c X Y v' c0 c1 c2 f0 f1 f2) w0 S w' :=
  (At.tri1 (C := blk X (.cells #[.int .i64 c0, .int .i64 c1, .int .i64 c2] 48 (0, 0)) * blk Y (.cells #[.int .u8 f0, .int .i64 f1, .int .i64 f2] 31 (0, 0))) (h.re (by unfold acA adA; ac_rfl)) T).mono fun _ _ ⟨a, b⟩ => ⟨a, b.re (by unfold acA adA; ac_rfl)⟩

set_option maxRecDepth 100000 in
theorem adds_long (x0 : Int) (c0 c1 c2 : Int) (a : Option Addr) (len cap : Nat) (hl : len ≤ cap) (hc : cap ≤ 9223372036854775807) (h : 50 < len) (W : World) (hT : Tab W) :
    Calls Tryd.prog 5 #[.int .u16 x0, .slice a len cap, .agg #[.int .i64 c0, .int .i64 c1, .int .i64 c2]] W fun e W' => e = .returned (.bool true) ∧ Below W.heap.size W W' := by
  have BX := (Below.refl W.heap.size W).alloc (Nat.le_refl _) (.cells #[.int .i64 c0, .int .i64 c1, .int .i64 c2] 48)
  have L := Lib.hid (blives _ (tabB hT BX))
  have SZ : W.heap.size ≤ (W.alloc (.cells #[.int .i64 c0, .int .i64 c1, .int .i64 c2] 48)).heap.size := by rw [World.size_alloc]; omega
  have BX := Lib.hid BX
  clear hT
  go_enter Tryd.func5, Tryd.ntmps5
  go_wp2_with (go_at_call 11; refine L.out.mono ?_; rintro e1 w1 ⟨rfl, hb⟩)
  go_ret
  exact ⟨rfl, Below.step BX.out hb SZ⟩

set_option maxHeartbeats 8000000 in
set_option maxRecDepth 100000 in
theorem adds_short (n : Nat) (hn : n ≤ 65535) (c0 c1 c2 : Int) (k0 : -9223372036854775808 ≤ c0 ∧ c0 ≤ 9223372036854775807) (a : Option Addr) (len cap : Nat) (F : Nat → Nat → Int) (hl : len ≤ 50) (W : World) (hT : Tab W) (hrow : RecRow [.u8, .i64, .i64] W a len cap F) :
    Calls Tryd.prog 5 #[.int .u16 n, .slice a len cap, .agg #[.int .i64 c0, .int .i64 c1, .int .i64 c2]] W fun e W' => e = .returned (.bool true) ∧ Below W.heap.size W W' := by
  have hcl : len ≤ cap := hrow.lc
  have hcm : cap ≤ 9223372036854775807 := by have := hrow.cm; unfold maxLen at this; omega
  have cell : Hid (∀ wr, Below W.heap.size W wr → ∀ j, j < len → ∃ q off, a = some ⟨q, off, none⟩ ∧ wr.cell? ⟨q, off + j * 3, none⟩ = some (.int .u8 (F j 0)) ∧ wr.cell? ⟨q, off + j * 3 + 1, none⟩ = some (.int .i64 (F j 1)) ∧ wr.cell? ⟨q, off + j * 3 + 2, none⟩ = some (.int .i64 (F j 2))) := Lib.hid <| by
    intro wr hb j hj
    obtain ⟨q, off, ha, hq, hc⟩ := hrow.at_ j hj
    exact ⟨q, off, ha, (hb.cell (p := ⟨q, _, none⟩) hq).trans (hc 0 _ rfl), (hb.cell (p := ⟨q, _, none⟩) hq).trans (hc 1 _ rfl), (hb.cell (p := ⟨q, _, none⟩) hq).trans (hc 2 _ rfl)⟩
  clear hrow
  have A0 := ((At.emp W).alloc (.cells #[.int .i64 c0, .int .i64 c1, .int .i64 c2] 48))
  have N := At.tri (C := blk W.heap.size (.cells #[.int .i64 c0, .int .i64 c1, .int .i64 c2] 48 (0, 0))) (A0.re (by ac_rfl)) (bv_new_ok (n + 1) (by omega) (by omega))
  rw [show ((n + 1 : Nat) : Int) = (n : Int) + 1 by omega] at N
  have N := Lib.hid N
  have START : Hid (∀ c w', At (bvA c (newB (n + 1)) * blk W.heap.size (.cells #[.int .i64 c0, .int .i64 c1, .int .i64 c2] 48 (0, 0))) W (fun _ => False) w' → ∃ v : Bits, v.ok ∧ v.n = n + 1 ∧ At (adA c W.heap.size v c0 c1 c2) W (fun _ => False) w') := Lib.hid fun c w' h => ⟨_, newB_ok (n + 1) (by omega) (by omega), rfl, h⟩
  obtain ⟨X, hX⟩ : ∃ X, W.heap.size = X := ⟨_, rfl⟩
  rw [hX] at START N
  have HT := Lib.hid hT
  have HX := Lib.hid hX
  clear A0 hT
  go_enter Tryd.func5, Tryd.ntmps5
  go_wp2_with fail
  clear hX
  refine N.out.mono ?_
  rintro e w1 ⟨c, rfl, a1⟩
  have A0 := Lib.hid (START.out c _ a1)
  clear a1 N START
  go_wp2_with fail
  go_loopw [33] (fun i wr => ∃ (k : Nat), k ≤ len ∧ i = .int .i64 k ∧ Hid (∃ v : Bits, v.ok ∧ v.n = n + 1 ∧ At (adA c X v c0 c1 c2) W (fun _ => False) wr)) (fun i _ => len - (intOf i).toNat)
  case atStart => exact ⟨0, Nat.zero_le _, rfl, A0⟩
  case round =>
    clear A0
    obtain ⟨k, hk, rfl, HR⟩ := hrel
    obtain ⟨v, hv, hvn, hA⟩ := HR.out
    clear HR
    by_cases hlt : k < len
    · obtain ⟨q, off, rfl, hc0, hc1, hc2⟩ := cell.out wr hA.below k hlt
      have hltI : (k : Int) < (len : Int) := by omega
      generalize F k 0 = f0 at *
      generalize F k 1 = f1 at *
      generalize F k 2 = f2 at *
      have A2 : At (acA c X wr.heap.size v c0 c1 c2 f0 f1 f2) W (fun _ => False) (wr.alloc (.cells #[.int .u8 f0, .int .i64 f1, .int .i64 f2] 31)) := (hA.alloc _).re (by unfold acA; ac_rfl)
      obtain ⟨Y, hY⟩ : ∃ Y, wr.heap.size = Y := ⟨_, rfl⟩
      rw [hY] at A2
      obtain ⟨y0, y1, y2⟩ := ac_cells A2
      have C1 := Lib.hid (ac_bv (bv_fill hv f1 f2) A2)
      have ok2 := hv.lay f1 f2 true
      have hvn2 : (v.lay f1 f2 true).n = n + 1 := hvn
      obtain ⟨ev, v3, ok3, n3, T3⟩ := clear_any (p := c) ok2 f1
      rw [hvn2] at n3
      generalize v.lay f1 f2 true = v2 at *
      generalize cp (offR v.b v.n f1 f2 true) v.n = g at *
      have OK := Lib.hid (And.intro ok3 n3)
      have T3 := Lib.hid T3
      clear hA A2 ok2 ok3 n3 hv hvn hvn2
      go_wp2_with fail
      refine C1.out.mono ?_
      rintro e w3 ⟨rfl, hA⟩
      obtain ⟨y0, y1, y2⟩ := ac_cells hA
      have C2 := Lib.hid (ac_bv T3.out hA)
      clear hA C1 T3
      go_wp2_with fail
      refine C2.out.mono ?_
      rintro e w4 ⟨rfl, hA⟩
      have FIN := Lib.hid (At.dropr hA)
      clear hA C2 y0 y1 y2
      go_wp2_with fail
      exact ⟨⟨k + 1, by omega, by go_num, Lib.hid ⟨v3, OK.out.1, OK.out.2, FIN.out⟩⟩, by simp [intOf]; omega⟩
    · obtain rfl : k = len := by omega
      have hltI : ¬ (k : Int) < (k : Int) := by omega
      obtain ⟨wz, hwz⟩ : ∃ wz, wr = wz := ⟨_, rfl⟩
      rw [hwz] at hA ⊢
      clear hwz
      obtain ⟨x0, x1, x2⟩ := ad_cells hA
      obtain ⟨mx, hmx⟩ : ∃ mx, (if c2 < if c1 < c0 then c1 else c0 then c2 else if c1 < c0 then c1 else c0) = mx := ⟨_, rfl⟩
      obtain ⟨my, hmy⟩ : ∃ my, max (min c0 c1) (min (max c0 c1) c2) = my := ⟨_, rfl⟩
      obtain ⟨mz, hmz⟩ : ∃ mz, (if (if c0 < c1 then c1 else c0) < c2 then c2 else if c0 < c1 then c1 else c0) = mz := ⟨_, rfl⟩
      have hxy : mx ≤ my := by rw [← hmx, ← hmy]; (repeat' split) <;> omega
      have hyz : my ≤ mz := by rw [← hmz, ← hmy]; (repeat' split) <;> omega
      have SP := on_split v.b v.n mx my mz hxy hyz
      have HMX := Lib.hid hmx
      have HMY := Lib.hid hmy
      have HMZ := Lib.hid hmz
      clear hmx hmy hmz hxy hyz
      go_wp2_with fail
      go_quiet (fail)
      rw [HMX.out, HMY.out, HMZ.out]
      have hA1 := hA.drewN nq
      obtain ⟨wq, hwq⟩ : ∃ wq, wz.drewN nq = wq := ⟨_, rfl⟩
      rw [hwq] at hA1 ⊢
      clear hwq hA x0 x1 x2
      have gb : ∀ x y, cp (onR v.b v.n x y) v.n ≤ 65536 := fun x y => Nat.le_trans (cp_le _ _) (by omega)
      have b1 := gb mx my
      have b2 := gb my mz
      have CT := Lib.hid (fun w (h : At (adA c X v c0 c1 c2) W (fun _ => False) w) x y => ad_bv (bv_count hv x y) h)
      have C1 := Lib.hid (CT.out _ hA1 mx my)
      have C2 := Lib.hid (fun w h => CT.out w h my mz)
      have C3 := Lib.hid (fun w h => CT.out w h mx mz)
      have C4 := Lib.hid (fun w h => CT.out w h 0 ((n : Int) + 1))
      have e4 : cp (onR v.b v.n 0 ((n : Int) + 1)) v.n = cp v.b v.n := by
        have := on_below (b := v.b) (n := v.n) (r := v.n) (Nat.le_refl _)
        rw [show ((v.n : Nat) : Int) = (n : Int) + 1 by omega] at this
        exact this
      rw [e4] at C4
      have C5 := Lib.hid (fun w h (r : Nat) => CT.out w h 0 r)
      have b3 : cp v.b v.n ≤ 65536 := Nat.le_trans (cp_le _ _) (by omega)
      have HV := Lib.hid hv
      generalize cp (onR v.b v.n mx my) v.n = g1 at *
      generalize cp (onR v.b v.n my mz) v.n = g2 at *
      generalize cp (onR v.b v.n mx mz) v.n = g3 at *
      have z1 : ((g1 : Int) + (g2 : Int) != (g3 : Int)) = false := by rw [show (g1 : Int) + (g2 : Int) = (g3 : Int) by omega]; simp
      clear SP hA1 e4 gb CT
      have hvn' := Lib.hid hvn
      clear hvn hv
      go_wp2_with fail
      refine C1.out.mono ?_
      rintro e w5 ⟨rfl, hA⟩
      have C2' := Lib.hid (C2.out _ hA)
      clear C1 C2 hA
      go_wp2_with fail
      refine C2'.out.mono ?_
      rintro e w6 ⟨rfl, hA⟩
      have C3' := Lib.hid (C3.out _ hA)
      clear C2' C3 hA
      go_wp2_with fail
      refine C3'.out.mono ?_
      rintro e w7 ⟨rfl, hA⟩
      have C4' := Lib.hid (C4.out _ hA)
      clear C3' C4 hA
      go_wp2_with fail
      refine C4'.out.mono ?_
      rintro e w8 ⟨rfl, hA⟩
      obtain ⟨x0, x1, x2⟩ := ad_cells hA
      clear C4'
      go_wp2_with fail
      obtain ⟨kk, hkk, ek⟩ := u_mod c0 (cp v.b v.n + 1) (by omega) (by omega)
      rw [show ((cp v.b v.n + 1 : Nat) : Int) = (cp v.b v.n : Int) + 1 by omega] at ek
      rw [ek]
      clear ek
      obtain ⟨S0, hS0⟩ := At.left (A := bvA c v) hA
      have PK := bv_pick HV.out (kk : Int) (by omega) (by omega) w8 S0 hS0
      clear x0 x1 x2 hS0
      by_cases hkA : kk = cp v.b v.n
      · rw [pk_none (Nat.le_refl _) (by omega)] at PK
        have PK : Hid (Calls Tryd.prog 17 #[.pointer (some ⟨c, 0, none⟩), .int .i64 kk] w8 fun e w' => e = .returned (.tuple #[.int .i64 0, .bool false]) ∧ w8 = w') := Lib.hid PK
        have L0 := Lib.hid (blives w8 (At.tabB HT.out hA))
        have B := Lib.hid hA.below
        have SZ := Lib.hid hA.size
        clear hA C5 hkk
        rw [← hkA]
        clear hkA b3
        go_wp2_with (first | (go_at_call 17; with_reducible refine PK.out.mono ?_; rintro e1 w1 ⟨rfl, rfl⟩) | (go_at_call 11; refine L0.out.mono ?_; rintro e w3 ⟨rfl, hb⟩))
        go_ret
        exact ⟨rfl, Below.step B.out hb SZ.out⟩
      · obtain ⟨r, hr, hb, hcr⟩ := cp_onto v.b v.n kk (by omega)
        rw [pk_some hr hb (by omega)] at PK
        have PK : Hid (Calls Tryd.prog 17 #[.pointer (some ⟨c, 0, none⟩), .int .i64 kk] w8 fun e w' => e = .returned (.tuple #[.int .i64 r, .bool true]) ∧ w8 = w') := Lib.hid PK
        have TS := At.ask (A := bvA c v) hA (bv_test_ok HV.out r hr)
        rw [hb] at TS
        have TS := Lib.hid TS
        have CC := C5.out w8 hA r
        rw [on_below (Nat.le_of_lt hr), hcr] at CC
        have CC := Lib.hid CC
        have LL : Hid (∀ w', At (adA c X v c0 c1 c2) W (fun _ => False) w' → Calls Tryd.prog 11 #[] w' fun e w2 => e = .returned (.bool true) ∧ Below w'.heap.size w' w2) := Lib.hid fun w' h' => blives w' (At.tabB HT.out h')
        have hkI : ¬ (kk : Int) = (cp v.b v.n : Int) := by omega
        have zk : ((kk : Int) == (cp v.b v.n : Int)) = false := by simp; omega
        have hrI : (r : Int) ≤ 65536 := by have := hvn'.out; omega
        clear hA C5 hkk hkA hr hb hcr
        generalize cp v.b v.n = A at *
        go_wp2_with (first | (go_at_call 17; with_reducible refine PK.out.mono ?_; rintro e1 w1 ⟨rfl, rfl⟩) | (go_at_call 21; with_reducible refine TS.out.mono ?_; rintro e1 w1 ⟨rfl, rfl⟩))
        refine CC.out.mono ?_
        rintro e w9 ⟨rfl, hA⟩
        have L0 := Lib.hid (LL.out w9 hA)
        have B := Lib.hid hA.below
        have SZ := Lib.hid hA.size
        clear hA LL CC TS PK
        go_wp2_with (go_at_call 11; refine L0.out.mono ?_; rintro e w3 ⟨rfl, hb⟩)
        go_ret
        exact ⟨rfl, Below.step B.out hb SZ.out⟩

theorem adds_law (x0 : Int) (h0 : (Lit.int .u16 x0).wf = true) (a : Option Addr) (len cap : Nat) (F : Nat → Nat → Int) (c0 c1 c2 : Int) (h1 : (Lit.int .i64 c0).wf = true) (W : World) (hT : Tab W) (hrow : RecRow [.u8, .i64, .i64] W a len cap F) :
    Calls Tryd.prog 5 #[.int .u16 x0, .slice a len cap, .agg #[.int .i64 c0, .int .i64 c1, .int .i64 c2]] W fun e W' => e = .returned (.bool true) ∧ Below W.heap.size W W' := by
  have hcm : cap ≤ 9223372036854775807 := by have := hrow.cm; unfold maxLen at this; omega
  have hb : 0 ≤ x0 ∧ x0 ≤ 65535 := by
    have := bounds_u16 h0
    omega
  by_cases hl : 50 < len
  · exact adds_long x0 c0 c1 c2 a len cap hrow.lc hcm hl W hT
  · obtain ⟨n, rfl⟩ := Int.eq_ofNat_of_zero_le hb.1
    exact adds_short n (by omega) c0 c1 c2 (by have := bounds_i64 h1; omega) a len cap F (by omega) W hT hrow

end Go.Proofs.YtflkbefiopnigacDoor.BV
