/- The law BitvecPlays, walked: the loop. -/
import Derived.Test.YtflkbefiopnigacDoorBvV
namespace Go.Proofs.YtflkbefiopnigacDoor.BV
open Go.ChangeShapes Go.WideShapes Go.ChangeAt Go.RowKit

def plA (c q : Nat) (v : Bits) : Asn := bvA c v * lA q v.n v.b

theorem plA_box {w0 w : World} {S : Nat → Prop} {c q : Nat} {v : Bits} (f0 f1 f2 : Int) (h : At (plA c q v) w0 S w) : At (dnA c q w.heap.size v v.b f0 f1 f2) w0 S (w.alloc (.cells #[.int .u8 f0, .int .i64 f1, .int .i64 f2] 31)) :=
  (h.alloc _).re (by unfold dnA plA; ac_rfl)

theorem dn_count {w0 w : World} {S : Nat → Prop} {c q Y : Nat} {v : Bits} {f0 f1 f2 : Int} (hv : v.ok) (h : At (dnA c q Y v v.b f0 f1 f2) w0 S w) :
    (Calls Tryd.prog 19 #[.pointer (some ⟨c, 0, none⟩), .int .i64 f1, .int .i64 f2] w fun e w' => e = .returned (.int .i64 (cp (onR v.b v.n f1 f2) v.n : Nat)) ∧ At (dnA c q Y v v.b f0 f1 f2) w0 S w') ∧
    (Calls Tryd.prog 20 #[.slice (some ⟨q, 0, none⟩) v.n v.n, .int .i64 f1, .int .i64 f2] w fun e w' => e = .returned (.int .i64 (cp (onR v.b v.n f1 f2) v.n : Nat)) ∧ w = w') :=
  ⟨dn_bv (bv_count hv f1 f2) rfl h, dn_askL (r_count hv.n2 f1 f2) h⟩

/-- what is asked of both where the act is done -/
structure Qs (w0 : World) (S : Nat → Prop) (c q Y n : Nat) (v : Bits) (f0 f1 f2 : Int) (G : Nat) (z : Bool) (w : World) : Prop where
  h : At (dnA c q Y v v.b f0 f1 f2) w0 S w
  y1 : w.cell? ⟨Y, 1, none⟩ = some (.int .i64 f1)
  y2 : w.cell? ⟨Y, 2, none⟩ = some (.int .i64 f2)
  cb : Calls Tryd.prog 19 #[.pointer (some ⟨c, 0, none⟩), .int .i64 f1, .int .i64 f2] w fun e w' => e = .returned (.int .i64 G) ∧ At (dnA c q Y v v.b f0 f1 f2) w0 S w'
  cl : Calls Tryd.prog 20 #[.slice (some ⟨q, 0, none⟩) n n, .int .i64 f1, .int .i64 f2] w fun e w' => e = .returned (.int .i64 G) ∧ w = w'
  tb : Calls Tryd.prog 21 #[.pointer (some ⟨c, 0, none⟩), .int .i64 f2] w fun e w' => e = .returned (.bool z) ∧ w = w'
  tl : Calls Tryd.prog 22 #[.slice (some ⟨q, 0, none⟩) n n, .int .i64 f2] w fun e w' => e = .returned (.bool z) ∧ w = w'
  ln : Calls Tryd.prog 23 #[.pointer (some ⟨c, 0, none⟩)] w fun e w' => e = .returned (.int .i64 n) ∧ w = w'

theorem Qs.of {w0 : World} {S : Nat → Prop} {c q Y n : Nat} {v : Bits} (f0 f1 f2 : Int) (hv : v.ok) (hn : v.n = n) : ∃ (G : Nat) (z : Bool), ∀ w, At (dnA c q Y v v.b f0 f1 f2) w0 S w → Qs w0 S c q Y n v f0 f1 f2 G z w := by
  subst hn
  exact ⟨_, _, fun w h => ⟨h, (dn_two h).1, (dn_two h).2, (dn_count hv h).1, (dn_count hv h).2, dn_askB (bv_test_any hv f2) h, dn_askL (r_is hv.n2 f2) h, dn_askB bv_len h⟩⟩

set_option maxHeartbeats 8000000 in
set_option maxRecDepth 100000 in
theorem plays_short (n : Nat) (h1 : 1 ≤ n) (h2 : n ≤ 2000) (a : Option Addr) (len cap : Nat) (F : Nat → Nat → Int) (hl : len ≤ 100) (W : World) (hT : Tab W) (hrow : RecRow [.u8, .i64, .i64] W a len cap F) :
    Calls Tryd.prog 3 #[.int .i64 n, .slice a len cap] W fun e W' => e = .returned (.bool true) ∧ Below W.heap.size W W' := by
  have hcl : len ≤ cap := hrow.lc
  have hcm : cap ≤ 9223372036854775807 := by have := hrow.cm; unfold maxLen at this; omega
  have cell : Hid (∀ wr, Below W.heap.size W wr → ∀ j, j < len → ∃ q off, a = some ⟨q, off, none⟩ ∧ wr.cell? ⟨q, off + j * 3, none⟩ = some (.int .u8 (F j 0)) ∧ wr.cell? ⟨q, off + j * 3 + 1, none⟩ = some (.int .i64 (F j 1)) ∧ wr.cell? ⟨q, off + j * 3 + 2, none⟩ = some (.int .i64 (F j 2)) ∧ (0 ≤ F j 0 ∧ F j 0 ≤ 255) ∧ (-9223372036854775808 ≤ F j 1 ∧ F j 1 ≤ 9223372036854775807) ∧ (-9223372036854775808 ≤ F j 2 ∧ F j 2 ≤ 9223372036854775807)) := Lib.hid <| by
    intro wr hb j hj
    obtain ⟨q, off, ha, hq, hc⟩ := hrow.at_ j hj
    refine ⟨q, off, ha, (hb.cell (p := ⟨q, _, none⟩) hq).trans (hc 0 _ rfl), (hb.cell (p := ⟨q, _, none⟩) hq).trans (hc 1 _ rfl), (hb.cell (p := ⟨q, _, none⟩) hq).trans (hc 2 _ rfl), ?_, ?_, ?_⟩
    · exact bounds_u8 (hrow.wf j hj 0 _ rfl)
    · exact bounds_i64 (hrow.wf j hj 1 _ rfl)
    · exact bounds_i64 (hrow.wf j hj 2 _ rfl)
  clear hrow
  have N := Lib.hid (bv_new_ok n h1 (by omega) W (fun _ => False) ⟨trivial, fun _ => id⟩)
  have M := Lib.hid (fun w => may_any (n : Int) w)
  rw [decide_eq_true (by omega : 1 ≤ (n : Int) ∧ (n : Int) ≤ 1048576)] at M
  have MK := fun w => run_make_row' (P := Tryd.prog) 29 4 (.bool false) 1 Tryd.underlying29 infBool rfl .i64 .i64 n (by omega) (by omega) w
  have START : Hid (∀ c w', At (bvA c (newB n)) W (fun _ => False) w' → ∃ v : Bits, v.ok ∧ v.n = n ∧ At (plA c w'.heap.size v) W (fun _ => False) (w'.alloc (.cells (madeCells #[.bool false] n) 4))) := Lib.hid fun c w' h => ⟨_, newB_ok n h1 (by omega), rfl, lA_made n h⟩
  have HT := Lib.hid hT
  have END := Lib.hid (fun (w : World) (A : Asn) (h : At A W (fun _ => False) w) => blives w (At.tabB hT h))
  clear hT
  go_enter Tryd.func3, Tryd.ntmps3
  go_wp2_with fail
  refine N.out.mono ?_
  rintro e w1 ⟨c, rfl, a1⟩
  have A0 := Lib.hid (START.out c _ a1)
  have M0 := Lib.hid (M.out w1)
  clear a1 N START M
  go_wp2_with (go_at_call 10; with_reducible refine M0.out.mono ?_; rintro e1 w2 ⟨rfl, rfl⟩)
  obtain ⟨q, hq⟩ : ∃ q, w1.heap.size = q := ⟨_, rfl⟩
  rw [hq] at A0 ⊢
  clear M0 MK hq
  obtain ⟨w2, hw2⟩ : ∃ w2, w1.alloc (.cells (madeCells #[.bool false] n) 4) = w2 := ⟨_, rfl⟩
  rw [hw2] at A0 ⊢
  clear hw2
  go_loopw [56] (fun i wr => ∃ (k : Nat), k ≤ len ∧ i = .int .i64 k ∧ Hid (∃ v : Bits, v.ok ∧ v.n = n ∧ At (plA c q v) W (fun _ => False) wr)) (fun i _ => len - (intOf i).toNat)
  case atStart => exact ⟨0, Nat.zero_le _, rfl, A0⟩
  case round =>
    clear A0
    obtain ⟨k, hk, rfl, HR⟩ := hrel
    obtain ⟨v, hv, hvn, hA⟩ := HR.out
    clear HR
    by_cases hlt : k < len
    · obtain ⟨d, off, rfl, hc0, hc1, hc2, b0, b1, b2⟩ := cell.out wr hA.below k hlt
      have hltI : (k : Int) < (len : Int) := by omega
      generalize F k 0 = f0 at *
      generalize F k 1 = f1 at *
      generalize F k 2 = f2 at *
      have A2 := plA_box f0 f1 f2 hA
      obtain ⟨Y, hY⟩ : ∃ Y, wr.heap.size = Y := ⟨_, rfl⟩
      rw [hY] at A2
      have y012 := dn_cells A2
      obtain ⟨y0, y1, y2⟩ := y012
      obtain ⟨v3, ok3, n3, T3⟩ := done_any (c := c) (q := q) hv f0 f1 f2 b0 b1
      have C1 := dn_pair T3 A2
      rw [hvn] at C1 n3
      have C1 := Lib.hid C1
      clear hA A2 T3 hv hvn v
      go_wp2_with fail
      refine C1.out.mono ?_
      rintro e w3 ⟨rfl, hA⟩
      clear C1 y0 y1 y2
      have y12 := dn_two hA
      obtain ⟨y1, y2⟩ := y12
      have TB := At.tabB HT.out hA
      obtain ⟨k1, z1, Q1⟩ := dn_next ok3 TB hA f1
      obtain ⟨k2, z2, Q2⟩ := dn_last ok3 hA f2
      obtain ⟨k3, z3, Q3⟩ := dn_pick ok3 hA f2 b2.2
      obtain ⟨G, z, QS⟩ := Qs.of (w0 := W) (S := fun _ => False) (c := c) (q := q) (Y := Y) (v := v3) f0 f1 f2 ok3 n3
      rw [n3] at Q1 Q2 Q3
      obtain ⟨Q1a, Q1b⟩ := Q1
      have Q1a := Lib.hid Q1a
      have Q1b := Lib.hid Q1b
      obtain ⟨Q2a, Q2b⟩ := Q2
      have Q2a := Lib.hid Q2a
      have Q2b := Lib.hid Q2b
      obtain ⟨Q3a, Q3b⟩ := Q3
      have Q3a := Lib.hid Q3a
      have Q3b := Lib.hid Q3b
      have QS := Lib.hid QS
      have HA := Lib.hid hA.drew
      have FIN : Hid (∀ w, At (dnA c q Y v3 v3.b f0 f1 f2) W (fun _ => False) w → ∃ v : Bits, v.ok ∧ v.n = n ∧ At (plA c q v) W (fun _ => False) w) := Lib.hid fun w h => ⟨v3, ok3, n3, dn_end h⟩
      clear TB hA ok3 n3
      go_wp2_with (first | (go_at_call 13; with_reducible refine Q1a.out.mono ?_; rintro e1 w4 ⟨rfl, rfl⟩) | (go_at_call 14; with_reducible refine Q1b.out.mono ?_; rintro e1 w4 ⟨rfl, rfl⟩) | (go_at_call 15; with_reducible refine Q2a.out.mono ?_; rintro e1 w4 ⟨rfl, rfl⟩) | (go_at_call 16; with_reducible refine Q2b.out.mono ?_; rintro e1 w4 ⟨rfl, rfl⟩) | (go_at_call 17; with_reducible refine Q3a.out.mono ?_; rintro e1 w4 ⟨rfl, rfl⟩) | (go_at_call 18; with_reducible refine Q3b.out.mono ?_; rintro e1 w4 ⟨rfl, rfl⟩))
      refine region_class (fun w' => At (dnA c q Y v3 v3.b f0 f1 f2) W (fun _ => False) w') (by kernel_rfl) (by kernel_rfl) HA.out ?_
      repeat (first | go_big_quiet_skip | (go_big_quiet_want; first | (go_big_quiet_op; go_big_quiet_on) | (apply quiet_upon; (focus (intro wx hx; obtain ⟨hx, y1, y2, cb, cl, tb, tl, ln⟩ := QS.out wx hx; go_simp; first | rfl | (go_at_call 19; with_reducible exact cb) | (go_at_call 20; with_reducible refine cl.mono ?_; rintro e w1 ⟨rfl, rfl⟩; exact ⟨rfl, hx⟩) | (go_at_call 21; with_reducible refine tb.mono ?_; rintro e w1 ⟨rfl, rfl⟩; exact ⟨rfl, hx⟩) | (go_at_call 22; with_reducible refine tl.mono ?_; rintro e w1 ⟨rfl, rfl⟩; exact ⟨rfl, hx⟩) | (go_at_call 23; with_reducible refine ln.mono ?_; rintro e w1 ⟨rfl, rfl⟩; exact ⟨rfl, hx⟩))); (try simp only [Act.put, List.setIfInBounds_toArray, List.set_cons_zero, List.set_cons_succ]); go_big_quiet_on)))
      refine wpQuiet_nil ?_
      intro wz hz
      have FF := Lib.hid (FIN.out wz hz)
      clear hz Q1a Q1b Q2a Q2b Q3a Q3b QS HA FIN
      go_wp2_with fail
      exact ⟨⟨k + 1, by omega, by go_num, FF⟩, by simp [intOf]; omega⟩
    · obtain rfl : k = len := by omega
      have hltI : ¬ (k : Int) < (k : Int) := by omega
      have L0 := Lib.hid (END.out wr _ hA)
      have B := Lib.hid hA.below
      have SZ := Lib.hid hA.size
      clear hA cell END
      go_wp2_with (go_at_call 11; refine L0.out.mono ?_; rintro e w3 ⟨rfl, hb⟩)
      go_ret
      exact ⟨rfl, Below.step B.out hb SZ.out⟩

theorem plays_law (x : Int) (h0 : (Lit.int .i64 x).wf = true) (a : Option Addr) (len cap : Nat) (F : Nat → Nat → Int) (W : World) (hT : Tab W) (hrow : RecRow [.u8, .i64, .i64] W a len cap F) :
    Calls Tryd.prog 3 #[.int .i64 x, .slice a len cap] W fun e W' => e = .returned (.bool true) ∧ Below W.heap.size W W' := by
  have hcm : cap ≤ 9223372036854775807 := by have := hrow.cm; unfold maxLen at this; omega
  by_cases hn : 1 ≤ x ∧ x ≤ 1048576
  · obtain ⟨n, rfl⟩ := Int.eq_ofNat_of_zero_le (show 0 ≤ x by omega)
    by_cases hb : 2000 < n ∨ 100 < len
    · exact plays_long n (by omega) (by omega) a len cap hrow.lc hcm hb W hT
    · exact plays_short n (by omega) (by omega) a len cap F (by omega) W hT hrow
  · exact plays_bad x hn a len cap hrow.lc hcm W hT

end Go.Proofs.YtflkbefiopnigacDoor.BV
