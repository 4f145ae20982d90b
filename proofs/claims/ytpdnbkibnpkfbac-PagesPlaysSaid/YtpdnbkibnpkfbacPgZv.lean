/- The law PagesPlays, walked. -/
import Derived.Test.YtpdnbkibnpkfbacPgZu
import Derived.Test.YtpdnbkibnpkfbacPgD
import Derived.Test.YtpdnbkibnpkfbacRecs
import Derived.Deep.RegionHeld3
namespace Go.Proofs.Ytpdnbkibnpkfbac.PT
open Go.ChangeShapes Go.WideShapes Go.ChangeAt Go.RowKit

theorem pm_new_bad (n : Int) (h : n < 1 ∨ 524288 < n) (w : World) : Calls Try.prog 19 #[.int .i64 n] w fun e w' => e = .returned (.tuple #[.pointer none, .int .i64 5]) ∧ w = w' := by
  by_cases h0 : n < 1
  · clear h
    go_enter Try.func19, Try.ntmps19
    go_wp2
    go_ret2
    exact ⟨rfl, rfl⟩
  · have h1 : 524288 < n := by omega
    clear h
    go_enter Try.func19, Try.ntmps19
    go_wp2
    go_ret2
    exact ⟨rfl, rfl⟩

theorem may_ok (n : Int) (h0 : 1 ≤ n) (h1 : n ≤ 524288) (w : World) : Calls Try.prog 20 #[.int .i64 n] w fun e w' => e = .returned (.bool true) ∧ w = w' := by
  go_enter Try.func20, Try.ntmps20
  go_wp2
  go_ret
  exact ⟨rfl, rfl⟩

theorem may_bad (n : Int) (h : n < 1 ∨ 524288 < n) (w : World) : Calls Try.prog 20 #[.int .i64 n] w fun e w' => e = .returned (.bool false) ∧ w = w' := by
  by_cases h0 : n < 1
  · clear h
    go_enter Try.func20, Try.ntmps20
    go_wp2
    go_ret
    exact ⟨rfl, rfl⟩
  · have h1 : 524288 < n := by omega
    have h2 : ¬ n ≤ 524288 := by omega
    clear h
    go_enter Try.func20, Try.ntmps20
    go_wp2
    go_ret
    exact ⟨by first | rfl | (simp [h2]; done) | (show Ending.returned (Value.bool (decide (n ≤ 524288))) = _; rw [decide_eq_false h2]), rfl⟩

set_option maxRecDepth 100000 in
theorem pplays_bad (n : Int) (h : n < 1 ∨ 524288 < n) (a : Option Addr) (len cap : Nat) (hl : len ≤ cap) (hc : cap ≤ 9223372036854775807) (W : World) :
    Calls Try.prog 6 #[.int .i64 n, .slice a len cap] W fun e W' => e = .returned (.bool true) ∧ Below W.heap.size W W' := by
  have N := Lib.hid (pm_new_bad n h)
  have M := Lib.hid (may_bad n h)
  have L := Lib.hid plives
  clear h
  go_enter Try.func6, Try.ntmps6
  go_wp2_with (first | (go_at_call 19; refine (N.out _).mono ?_; rintro e1 w1 ⟨rfl, rfl⟩) | (go_at_call 20; refine (M.out _).mono ?_; rintro e1 w1 ⟨rfl, rfl⟩) | (go_at_call 21; refine (L.out _).mono ?_; rintro e1 w1 ⟨rfl, hb⟩))
  go_ret
  exact ⟨rfl, hb⟩

set_option maxRecDepth 100000 in
theorem pplays_long (n : Nat) (h1 : 1 ≤ n) (h2 : n ≤ 524288) (a : Option Addr) (len cap : Nat) (hl : len ≤ cap) (hc : cap ≤ 9223372036854775807) (hlong : 200 < len) (W : World) :
    Calls Try.prog 6 #[.int .i64 n, .slice a len cap] W fun e W' => e = .returned (.bool true) ∧ Below W.heap.size W W' := by
  have N := Lib.hid ((At.emp W).trix (pm_new n h1 h2))
  have M := Lib.hid (may_ok n (by omega) (by omega))
  have L := Lib.hid plives
  go_enter Try.func6, Try.ntmps6
  go_wp2_with fail
  refine N.out.mono ?_
  rintro e w1 ⟨c, rfl, a1⟩
  have B := Lib.hid a1.below
  have Z := a1.size
  clear a1 N
  go_wp2_with (first | (go_at_call 20; refine (M.out _).mono ?_; rintro e1 w1 ⟨rfl, rfl⟩) | (go_at_call 21; refine (L.out _).mono ?_; rintro e1 w1 ⟨rfl, hb⟩))
  go_ret
  exact ⟨rfl, Below.step B.out hb Z⟩

def plA (c d X n : Nat) (s : QS) (L : List (Nat × Nat)) (f0 f1 f2 : Int) : Asn := pmA c s * (lsA d n L * blk X (.cells #[.int .u8 f0, .int .i64 f1, .int .i64 f2] 49 (0, 0)))

theorem plA_box {w0 w : World} {S : Nat → Prop} {c d X n : Nat} {s : QS} {L : List (Nat × Nat)} {f0 f1 f2 : Int} (h : At (plA c d X n s L f0 f1 f2) w0 S w) :
    w.cell? ⟨X, 0, none⟩ = some (.int .u8 f0) ∧ w.cell? ⟨X, 1, none⟩ = some (.int .i64 f1) ∧ w.cell? ⟨X, 2, none⟩ = some (.int .i64 f2) := by
  obtain ⟨a, b, c, _⟩ := pcells (At.blkIs (A := pmA c s * lsA d n L) (h.re (by unfold plA; ac_rfl)))
  exact ⟨a, b, c⟩

theorem plA_two {w0 w : World} {S : Nat → Prop} {c d X n : Nat} {s : QS} {L : List (Nat × Nat)} {f0 f1 f2 : Int} (h : At (plA c d X n s L f0 f1 f2) w0 S w) :
    w.cell? ⟨X, 1, none⟩ = some (.int .i64 f1) ∧ w.cell? ⟨X, 2, none⟩ = some (.int .i64 f2) := (plA_box h).2

theorem plA_m {w0 w : World} {S : Nat → Prop} {c d X n : Nat} {s s' : QS} {L : List (Nat × Nat)} {f0 f1 f2 : Int} {fn : FuncId} {args : Array Value} {v : Value} (t : Tri1 Try.prog fn args (pmA c s) v (pmA c s')) (h : At (plA c d X n s L f0 f1 f2) w0 S w) :
    Calls Try.prog fn args w fun e w' => e = .returned v ∧ At (plA c d X n s' L f0 f1 f2) w0 S w' := At.tri1 h t

theorem plA_l {w0 w : World} {S : Nat → Prop} {c d X n : Nat} {s : QS} {L L' : List (Nat × Nat)} {f0 f1 f2 : Int} {fn : FuncId} {args : Array Value} {v : Value} (t : Tri1 Try.prog fn args (lsA d n L) v (lsA d n L')) (h : At (plA c d X n s L f0 f1 f2) w0 S w) :
    Calls Try.prog fn args w fun e w' => e = .returned v ∧ At (plA c d X n s L' f0 f1 f2) w0 S w' :=
  (At.tri1 (C := pmA c s * blk X (.cells #[.int .u8 f0, .int .i64 f1, .int .i64 f2] 49 (0, 0))) (h.re (by unfold plA; ac_rfl)) t).mono fun _ _ ⟨a, b⟩ => ⟨a, b.re (by unfold plA; ac_rfl)⟩

theorem plA_am {w0 w : World} {S : Nat → Prop} {c d X n : Nat} {s : QS} {L : List (Nat × Nat)} {f0 f1 f2 : Int} {fn : FuncId} {args : Array Value} {v : Value} (t : Ask Try.prog fn args (pmA c s) v) (h : At (plA c d X n s L f0 f1 f2) w0 S w) :
    Calls Try.prog fn args w fun e w' => e = .returned v ∧ w = w' := At.ask h t

theorem plA_al {w0 w : World} {S : Nat → Prop} {c d X n : Nat} {s : QS} {L : List (Nat × Nat)} {f0 f1 f2 : Int} {fn : FuncId} {args : Array Value} {v : Value} (t : Ask Try.prog fn args (lsA d n L) v) (h : At (plA c d X n s L f0 f1 f2) w0 S w) :
    Calls Try.prog fn args w fun e w' => e = .returned v ∧ w = w' :=
  At.ask (C := pmA c s * blk X (.cells #[.int .u8 f0, .int .i64 f1, .int .i64 f2] 49 (0, 0))) (h.re (by unfold plA; ac_rfl)) t

theorem plA_field {w0 w : World} {S : Nat → Prop} {c d X n : Nat} {s : QS} {L : List (Nat × Nat)} {f0 f1 f2 : Int} (h : At (plA c d X n s L f0 f1 f2) w0 S w) : ∃ a cap, w.cell? ⟨d, 1, none⟩ = some (.slice a L.length cap) := by
  obtain ⟨S1, h1⟩ := At.left (h.re (B := lsA d n L * (pmA c s * blk X (.cells #[.int .u8 f0, .int .i64 f1, .int .i64 f2] 49 (0, 0)))) (by unfold plA; ac_rfl))
  obtain ⟨a, cap, _, _, h2, _⟩ := ls_open h1
  exact ⟨a, cap, h2⟩

/-- an empty list, its blocks in sight -/
def exa_in (d n : Nat) : Asn := lsX d n [] (.slice none 0 0)

set_option maxHeartbeats 8000000 in
set_option maxRecDepth 100000 in
theorem pplays_short (n : Nat) (h1 : 1 ≤ n) (h2 : n ≤ 524288) (a : Option Addr) (len cap : Nat) (F : Nat → Nat → Int) (hl : len ≤ 200) (W : World) (hrow : RecRow [.u8, .i64, .i64] W a len cap F) :
    Calls Try.prog 6 #[.int .i64 n, .slice a len cap] W fun e W' => e = .returned (.bool true) ∧ Below W.heap.size W W' := by
  have hcl : len ≤ cap := hrow.lc
  have hcm : cap ≤ 9223372036854775807 := by have := hrow.cm; unfold maxLen at this; omega
  have cell : Hid (∀ wr, Below W.heap.size W wr → ∀ j, j < len → ∃ q off, a = some ⟨q, off, none⟩ ∧ wr.cell? ⟨q, off + j * 3, none⟩ = some (.int .u8 (F j 0)) ∧ wr.cell? ⟨q, off + j * 3 + 1, none⟩ = some (.int .i64 (F j 1)) ∧ wr.cell? ⟨q, off + j * 3 + 2, none⟩ = some (.int .i64 (F j 2)) ∧ 0 ≤ F j 0 ∧ F j 0 ≤ 255 ∧ F j 1 ≤ 9223372036854775807 ∧ -9223372036854775808 ≤ F j 2) := Lib.hid <| by
    intro wr hb j hj
    obtain ⟨q, off, ha, hq, hc⟩ := hrow.at_ j hj
    have b0 := bounds_u8 (hrow.wf j hj 0 _ rfl)
    have b1 := bounds_i64 (hrow.wf j hj 1 _ rfl)
    have b2 := bounds_i64 (hrow.wf j hj 2 _ rfl)
    exact ⟨q, off, ha, (hb.cell (p := ⟨q, _, none⟩) hq).trans (hc 0 _ rfl), (hb.cell (p := ⟨q, _, none⟩) hq).trans (hc 1 _ rfl), (hb.cell (p := ⟨q, _, none⟩) hq).trans (hc 2 _ rfl), b0.1, b0.2, b1.2, b2.1⟩
  clear hrow
  have N := Lib.hid ((At.emp W).trix (pm_new n h1 h2))
  have M := Lib.hid (may_ok n (by omega) (by omega))
  have R0 : Hid (RL (newQ n) []) := Lib.hid ⟨newQ_ok n h1 h2, rfl, List.nodup_nil, fun e h => (by cases h), fun e h => (by cases h), fun q _ => rfl⟩
  go_enter Try.func6, Try.ntmps6
  go_wp2_with fail
  refine N.out.mono ?_
  rintro e w1 ⟨c, rfl, a1⟩
  have a2 : At (pmA c (newQ n) * lsA w1.heap.size n []) W (fun _ => False) (w1.alloc (.cells #[.int .i64 n, .slice none 0 0] 47)) :=
    (((a1.own_nil 75 2).alloc (.cells #[.int .i64 n, .slice none 0 0] 47)).re (B := exa_in w1.heap.size n * pmA c (newQ n)) (by unfold exa_in lsX; ac_rfl)).impl (B := lsA w1.heap.size n []) (fun S h => ⟨_, h⟩) |>.re (by ac_rfl)
  have A0 := Lib.hid a2
  clear a1 a2 N
  go_wp2_with (go_at_call 20; refine (M.out _).mono ?_; rintro e1 w1 ⟨rfl, rfl⟩)
  generalize w1.heap.size = d at A0 ⊢
  generalize w1.alloc (.cells #[.int .i64 n, .slice none 0 0] 47) = w2 at A0 ⊢
  go_loopw [61] (fun i wr => ∃ (k : Nat), k ≤ len ∧ i = .int .i64 k ∧ Hid (∃ (s : QS) (L : List (Nat × Nat)), RL s L ∧ s.pages = n ∧ -(k : Int) ≤ s.tot ∧ s.tot ≤ k ∧ At (pmA c s * lsA d n L) W (fun _ => False) wr)) (fun i _ => len - (intOf i).toNat)
  case atStart => exact ⟨0, Nat.zero_le _, rfl, Lib.hid ⟨_, _, R0.out, rfl, by show -((0 : Nat) : Int) ≤ 0; omega, by show (0 : Int) ≤ _; omega, A0.out⟩⟩
  case round =>
    clear A0 R0 M
    obtain ⟨k, hk, rfl, HR⟩ := hrel
    obtain ⟨s, L, rl0, hpg, ht1, ht2, HA⟩ := HR.out
    clear HR
    by_cases hlt : k < len
    · obtain ⟨q, off, rfl, hc0, hc1, hc2, hK0, hK1, hb1, hb2⟩ := cell.out wr HA.below k hlt
      have hltI : (k : Int) < (len : Int) := by omega
      generalize F k 0 = f0 at *
      generalize F k 1 = f1 at *
      generalize F k 2 = f2 at *
      have A2 : At (plA c d wr.heap.size n s L f0 f1 f2) W (fun _ => False) (wr.alloc (.cells #[.int .u8 f0, .int .i64 f1, .int .i64 f2] 49)) := (HA.alloc _).re (by unfold plA; ac_rfl)
      obtain ⟨by0, by1, by2⟩ := plA_box A2
      clear HA
      obtain ⟨X, hX⟩ : ∃ X, wr.heap.size = X := ⟨_, rfl⟩
      rw [hX] at A2 by0 by1 by2
      by_cases k2 : f0 % 4 = 2
      · obtain ⟨vv, ee, s', L', PR, T1, T2⟩ := pl_drop rl0 f1 (by omega) (by omega) c d
        rw [hpg] at T2
        have C1 := Lib.hid (plA_m T1 A2)
        have C2 := Lib.hid (fun (w' : World) (h : At (plA c d X n s' L f0 f1 f2) W (fun _ => False) w') => plA_l T2 h)
        clear T1 T2 A2
        go_wp2_with fail
        refine C1.out.mono ?_
        rintro e w2 ⟨rfl, hp3⟩
        obtain ⟨cy0, cy1, cy2⟩ := plA_box hp3
        have C3 := Lib.hid (C2.out _ hp3)
        clear hp3 C1 C2
        go_wp2_with fail
        refine C3.out.mono ?_
        rintro e w3 ⟨rfl, hp4⟩
        have A3 := Lib.hid hp4
        clear C3 hp4 cy0 cy1 cy2 by0 by1 by2
        have rl := PR.rl
        have p1 := PR.pages
        have p2 := PR.t1
        have p3 := PR.t2
        obtain ⟨v1, e1, FM, FL⟩ := pl_frame rl f2 c d
        obtain ⟨v2, e2, NM, NL⟩ := pl_next rl f1 hb1 c d
        have CM := pm_count (c := c) rl.ok f1 f2 hb1 hb2
        have CL := ls_count (c := d) (n := s'.pages) rl.len f1 f2
        rw [← rl.count f1 f2] at CL
        have LM := pm_len (c := c) (s := s')
        rw [rl.tot] at LM
        rw [p1, hpg] at FL NL CL
        have FM2 := Lib.hid (plA_am FM A3.out)
        have FL2 := Lib.hid (plA_al FL A3.out)
        have NM2 := Lib.hid (plA_am NM A3.out)
        have NL2 := Lib.hid (plA_al NL A3.out)
        have CM2 := Lib.hid (fun m => At.look (At.drewN A3.out m) CM)
        have CL2 := Lib.hid (fun m => plA_al CL (At.drewN A3.out m))
        have LM2 := Lib.hid (fun m => plA_am LM (At.drewN A3.out m))
        obtain ⟨bx0, bx1, bx2⟩ := plA_box A3.out
        obtain ⟨la, lc, hfl⟩ := plA_field A3.out
        have RLH := Lib.hid rl
        have FIN := Lib.hid (fun m => show At (pmA c s' * lsA d n L') W (fun _ => False) _ from ((At.drewN A3.out m).re (B := (pmA c s' * lsA d n L') * blk X (.cells #[.int .u8 f0, .int .i64 f1, .int .i64 f2] 49 (0, 0))) (by unfold plA; ac_rfl)).dropr)
        clear FM FL NM NL CM CL LM A3 PR rl
        generalize cntFT s' f1 f2 = cf at *
        go_wp2_with fail
        refine FM2.out.mono ?_
        rintro e3 w4 ⟨rfl, rfl⟩
        go_wp2_with fail
        refine FL2.out.mono ?_
        rintro e3 w4 ⟨rfl, rfl⟩
        go_wp2_with fail
        refine NM2.out.mono ?_
        rintro e3 w4 ⟨rfl, rfl⟩
        go_wp2_with fail
        refine NL2.out.mono ?_
        rintro e3 w4 ⟨rfl, rfl⟩
        clear FM2 FL2 NM2 NL2
        go_wp2_with fail
        have z1 : (v1 != v1) = false := by simp
        have z2 : (e1 != e1) = false := by simp
        have z3 : (v2 != v2) = false := by simp
        have z4 : (e2 != e2) = false := by simp
        have z5 : ((cf : Int) != (cf : Int)) = false := by simp
        have z6 : ((L'.length : Int) != (L'.length : Int)) = false := by simp
        go_quiet (first | (go_at_call 32; exact Calls.quiet_of (CM2.out _)) | (go_at_call 33; exact Calls.quiet_of ((CL2.out _).mono fun _ _ ⟨a, b⟩ => ⟨a, 0, b.symm⟩)) | (go_at_call 34; exact Calls.quiet_of ((LM2.out _).mono fun _ _ ⟨a, b⟩ => ⟨a, 0, b.symm⟩)))
        go_wp2_with fail
        exact ⟨⟨k + 1, by omega, by go_num, Lib.hid ⟨s', L', RLH.out, by rw [p1, hpg], by push_cast; omega, by push_cast; omega, FIN.out _⟩⟩, by simp [intOf]; omega⟩

      by_cases k3 : f0 % 4 = 3
      · obtain ⟨ee, s', L', PR, T1, T2⟩ := pl_move rl0 f1 f2 (by omega) (by omega) c d
        rw [hpg] at T2
        have C1 := Lib.hid (fun (w' : World) (h : At (plA c d X n s L f0 f1 f2) W (fun _ => False) w') => plA_m T1 h)
        have C2 := Lib.hid (fun (w' : World) (h : At (plA c d X n s' L f0 f1 f2) W (fun _ => False) w') => plA_l T2 h)
        have hp2d := At.drewN A2 1
        have hbx := plA_two A2
        clear T1 T2
        go_wp2_with fail
        go_region_held3 (fun w' => w'.cell? ⟨X, 1, none⟩ = some (.int .i64 f1) ∧ w'.cell? ⟨X, 2, none⟩ = some (.int .i64 f2)) (first | exact hbx | exact plA_two (by assumption)) (first | (go_at_call 26; refine (C1.out _ hp2d).mono ?_; rintro e w2 ⟨rfl, hp3⟩) | (go_at_call 27; refine (C2.out _ (by assumption)).mono ?_; rintro e w3 ⟨rfl, hp4⟩))
        have A3 := Lib.hid hp4
        clear C1 C2 hp2d hp3 hp4 hbx A2 by0 by1 by2
        have rl := PR.rl
        have p1 := PR.pages
        have p2 := PR.t1
        have p3 := PR.t2
        obtain ⟨v1, e1, FM, FL⟩ := pl_frame rl f2 c d
        obtain ⟨v2, e2, NM, NL⟩ := pl_next rl f1 hb1 c d
        have CM := pm_count (c := c) rl.ok f1 f2 hb1 hb2
        have CL := ls_count (c := d) (n := s'.pages) rl.len f1 f2
        rw [← rl.count f1 f2] at CL
        have LM := pm_len (c := c) (s := s')
        rw [rl.tot] at LM
        rw [p1, hpg] at FL NL CL
        have FM2 := Lib.hid (plA_am FM A3.out)
        have FL2 := Lib.hid (plA_al FL A3.out)
        have NM2 := Lib.hid (plA_am NM A3.out)
        have NL2 := Lib.hid (plA_al NL A3.out)
        have CM2 := Lib.hid (fun m => At.look (At.drewN A3.out m) CM)
        have CL2 := Lib.hid (fun m => plA_al CL (At.drewN A3.out m))
        have LM2 := Lib.hid (fun m => plA_am LM (At.drewN A3.out m))
        obtain ⟨bx0, bx1, bx2⟩ := plA_box A3.out
        obtain ⟨la, lc, hfl⟩ := plA_field A3.out
        have RLH := Lib.hid rl
        have FIN := Lib.hid (fun m => show At (pmA c s' * lsA d n L') W (fun _ => False) _ from ((At.drewN A3.out m).re (B := (pmA c s' * lsA d n L') * blk X (.cells #[.int .u8 f0, .int .i64 f1, .int .i64 f2] 49 (0, 0))) (by unfold plA; ac_rfl)).dropr)
        clear FM FL NM NL CM CL LM A3 PR rl
        generalize cntFT s' f1 f2 = cf at *
        go_wp2_with fail
        refine FM2.out.mono ?_
        rintro e3 w4 ⟨rfl, rfl⟩
        go_wp2_with fail
        refine FL2.out.mono ?_
        rintro e3 w4 ⟨rfl, rfl⟩
        go_wp2_with fail
        refine NM2.out.mono ?_
        rintro e3 w4 ⟨rfl, rfl⟩
        go_wp2_with fail
        refine NL2.out.mono ?_
        rintro e3 w4 ⟨rfl, rfl⟩
        clear FM2 FL2 NM2 NL2
        go_wp2_with fail
        have z1 : (v1 != v1) = false := by simp
        have z2 : (e1 != e1) = false := by simp
        have z3 : (v2 != v2) = false := by simp
        have z4 : (e2 != e2) = false := by simp
        have z5 : ((cf : Int) != (cf : Int)) = false := by simp
        have z6 : ((L'.length : Int) != (L'.length : Int)) = false := by simp
        go_quiet (first | (go_at_call 32; exact Calls.quiet_of (CM2.out _)) | (go_at_call 33; exact Calls.quiet_of ((CL2.out _).mono fun _ _ ⟨a, b⟩ => ⟨a, 0, b.symm⟩)) | (go_at_call 34; exact Calls.quiet_of ((LM2.out _).mono fun _ _ ⟨a, b⟩ => ⟨a, 0, b.symm⟩)))
        go_wp2_with fail
        exact ⟨⟨k + 1, by omega, by go_num, Lib.hid ⟨s', L', RLH.out, by rw [p1, hpg], by push_cast; omega, by push_cast; omega, FIN.out _⟩⟩, by simp [intOf]; omega⟩

      by_cases k0 : f0 % 4 = 0
      · obtain ⟨ee, s', L', PR, T1, T2⟩ := pl_put rl0 f1 f2 (by omega) (by omega) c d
        rw [hpg] at T2
        have C1 := Lib.hid (fun (w' : World) (h : At (plA c d X n s L f0 f1 f2) W (fun _ => False) w') => plA_m T1 h)
        have C2 := Lib.hid (fun (w' : World) (h : At (plA c d X n s' L f0 f1 f2) W (fun _ => False) w') => plA_l T2 h)
        have hp2d := At.drewN A2 1
        have hbx := plA_two A2
        clear T1 T2
        go_wp2_with fail
        go_region_held3 (fun w' => w'.cell? ⟨X, 1, none⟩ = some (.int .i64 f1) ∧ w'.cell? ⟨X, 2, none⟩ = some (.int .i64 f2)) (first | exact hbx | exact plA_two (by assumption)) (first | (go_at_call 22; refine (C1.out _ hp2d).mono ?_; rintro e w2 ⟨rfl, hp3⟩) | (go_at_call 23; refine (C2.out _ (by assumption)).mono ?_; rintro e w3 ⟨rfl, hp4⟩))
        have A3 := Lib.hid hp4
        clear C1 C2 hp2d hp3 hp4 hbx A2 by0 by1 by2
        have rl := PR.rl
        have p1 := PR.pages
        have p2 := PR.t1
        have p3 := PR.t2
        obtain ⟨v1, e1, FM, FL⟩ := pl_frame rl f2 c d
        obtain ⟨v2, e2, NM, NL⟩ := pl_next rl f1 hb1 c d
        have CM := pm_count (c := c) rl.ok f1 f2 hb1 hb2
        have CL := ls_count (c := d) (n := s'.pages) rl.len f1 f2
        rw [← rl.count f1 f2] at CL
        have LM := pm_len (c := c) (s := s')
        rw [rl.tot] at LM
        rw [p1, hpg] at FL NL CL
        have FM2 := Lib.hid (plA_am FM A3.out)
        have FL2 := Lib.hid (plA_al FL A3.out)
        have NM2 := Lib.hid (plA_am NM A3.out)
        have NL2 := Lib.hid (plA_al NL A3.out)
        have CM2 := Lib.hid (fun m => At.look (At.drewN A3.out m) CM)
        have CL2 := Lib.hid (fun m => plA_al CL (At.drewN A3.out m))
        have LM2 := Lib.hid (fun m => plA_am LM (At.drewN A3.out m))
        obtain ⟨bx0, bx1, bx2⟩ := plA_box A3.out
        obtain ⟨la, lc, hfl⟩ := plA_field A3.out
        have RLH := Lib.hid rl
        have FIN := Lib.hid (fun m => show At (pmA c s' * lsA d n L') W (fun _ => False) _ from ((At.drewN A3.out m).re (B := (pmA c s' * lsA d n L') * blk X (.cells #[.int .u8 f0, .int .i64 f1, .int .i64 f2] 49 (0, 0))) (by unfold plA; ac_rfl)).dropr)
        clear FM FL NM NL CM CL LM A3 PR rl
        generalize cntFT s' f1 f2 = cf at *
        go_wp2_with fail
        refine FM2.out.mono ?_
        rintro e3 w4 ⟨rfl, rfl⟩
        go_wp2_with fail
        refine FL2.out.mono ?_
        rintro e3 w4 ⟨rfl, rfl⟩
        go_wp2_with fail
        refine NM2.out.mono ?_
        rintro e3 w4 ⟨rfl, rfl⟩
        go_wp2_with fail
        refine NL2.out.mono ?_
        rintro e3 w4 ⟨rfl, rfl⟩
        clear FM2 FL2 NM2 NL2
        go_wp2_with fail
        have z1 : (v1 != v1) = false := by simp
        have z2 : (e1 != e1) = false := by simp
        have z3 : (v2 != v2) = false := by simp
        have z4 : (e2 != e2) = false := by simp
        have z5 : ((cf : Int) != (cf : Int)) = false := by simp
        have z6 : ((L'.length : Int) != (L'.length : Int)) = false := by simp
        go_quiet (first | (go_at_call 32; exact Calls.quiet_of (CM2.out _)) | (go_at_call 33; exact Calls.quiet_of ((CL2.out _).mono fun _ _ ⟨a, b⟩ => ⟨a, 0, b.symm⟩)) | (go_at_call 34; exact Calls.quiet_of ((LM2.out _).mono fun _ _ ⟨a, b⟩ => ⟨a, 0, b.symm⟩)))
        go_wp2_with fail
        exact ⟨⟨k + 1, by omega, by go_num, Lib.hid ⟨s', L', RLH.out, by rw [p1, hpg], by push_cast; omega, by push_cast; omega, FIN.out _⟩⟩, by simp [intOf]; omega⟩

      · have k1 : f0 % 4 = 1 := by omega
        obtain ⟨ee, s', L', PR, T1, T2⟩ := pl_put rl0 f1 f2 (by omega) (by omega) c d
        rw [hpg] at T2
        have C1 := Lib.hid (fun (w' : World) (h : At (plA c d X n s L f0 f1 f2) W (fun _ => False) w') => plA_m T1 h)
        have C2 := Lib.hid (fun (w' : World) (h : At (plA c d X n s' L f0 f1 f2) W (fun _ => False) w') => plA_l T2 h)
        have hp2d := At.drewN A2 1
        have hbx := plA_two A2
        clear T1 T2
        go_wp2_with fail
        go_region_held3 (fun w' => w'.cell? ⟨X, 1, none⟩ = some (.int .i64 f1) ∧ w'.cell? ⟨X, 2, none⟩ = some (.int .i64 f2)) (first | exact hbx | exact plA_two (by assumption)) (first | (go_at_call 22; refine (C1.out _ hp2d).mono ?_; rintro e w2 ⟨rfl, hp3⟩) | (go_at_call 23; refine (C2.out _ (by assumption)).mono ?_; rintro e w3 ⟨rfl, hp4⟩))
        have A3 := Lib.hid hp4
        clear C1 C2 hp2d hp3 hp4 hbx A2 by0 by1 by2
        have rl := PR.rl
        have p1 := PR.pages
        have p2 := PR.t1
        have p3 := PR.t2
        obtain ⟨v1, e1, FM, FL⟩ := pl_frame rl f2 c d
        obtain ⟨v2, e2, NM, NL⟩ := pl_next rl f1 hb1 c d
        have CM := pm_count (c := c) rl.ok f1 f2 hb1 hb2
        have CL := ls_count (c := d) (n := s'.pages) rl.len f1 f2
        rw [← rl.count f1 f2] at CL
        have LM := pm_len (c := c) (s := s')
        rw [rl.tot] at LM
        rw [p1, hpg] at FL NL CL
        have FM2 := Lib.hid (plA_am FM A3.out)
        have FL2 := Lib.hid (plA_al FL A3.out)
        have NM2 := Lib.hid (plA_am NM A3.out)
        have NL2 := Lib.hid (plA_al NL A3.out)
        have CM2 := Lib.hid (fun m => At.look (At.drewN A3.out m) CM)
        have CL2 := Lib.hid (fun m => plA_al CL (At.drewN A3.out m))
        have LM2 := Lib.hid (fun m => plA_am LM (At.drewN A3.out m))
        obtain ⟨bx0, bx1, bx2⟩ := plA_box A3.out
        obtain ⟨la, lc, hfl⟩ := plA_field A3.out
        have RLH := Lib.hid rl
        have FIN := Lib.hid (fun m => show At (pmA c s' * lsA d n L') W (fun _ => False) _ from ((At.drewN A3.out m).re (B := (pmA c s' * lsA d n L') * blk X (.cells #[.int .u8 f0, .int .i64 f1, .int .i64 f2] 49 (0, 0))) (by unfold plA; ac_rfl)).dropr)
        clear FM FL NM NL CM CL LM A3 PR rl
        generalize cntFT s' f1 f2 = cf at *
        go_wp2_with fail
        refine FM2.out.mono ?_
        rintro e3 w4 ⟨rfl, rfl⟩
        go_wp2_with fail
        refine FL2.out.mono ?_
        rintro e3 w4 ⟨rfl, rfl⟩
        go_wp2_with fail
        refine NM2.out.mono ?_
        rintro e3 w4 ⟨rfl, rfl⟩
        go_wp2_with fail
        refine NL2.out.mono ?_
        rintro e3 w4 ⟨rfl, rfl⟩
        clear FM2 FL2 NM2 NL2
        go_wp2_with fail
        have z1 : (v1 != v1) = false := by simp
        have z2 : (e1 != e1) = false := by simp
        have z3 : (v2 != v2) = false := by simp
        have z4 : (e2 != e2) = false := by simp
        have z5 : ((cf : Int) != (cf : Int)) = false := by simp
        have z6 : ((L'.length : Int) != (L'.length : Int)) = false := by simp
        go_quiet (first | (go_at_call 32; exact Calls.quiet_of (CM2.out _)) | (go_at_call 33; exact Calls.quiet_of ((CL2.out _).mono fun _ _ ⟨a, b⟩ => ⟨a, 0, b.symm⟩)) | (go_at_call 34; exact Calls.quiet_of ((LM2.out _).mono fun _ _ ⟨a, b⟩ => ⟨a, 0, b.symm⟩)))
        go_wp2_with fail
        exact ⟨⟨k + 1, by omega, by go_num, Lib.hid ⟨s', L', RLH.out, by rw [p1, hpg], by push_cast; omega, by push_cast; omega, FIN.out _⟩⟩, by simp [intOf]; omega⟩
    · obtain rfl : k = len := by omega
      have hltI : ¬ (k : Int) < (k : Int) := by omega
      have B := Lib.hid HA.below
      have SZ := HA.size
      have L0 := Lib.hid (plives wr)
      clear HA
      go_wp2_with (go_at_call 21; refine L0.out.mono ?_; rintro e w3 ⟨rfl, hb⟩)
      go_ret
      exact ⟨rfl, Below.step B.out hb SZ⟩

theorem pplays_law (n : Int) (a : Option Addr) (len cap : Nat) (F : Nat → Nat → Int) (W : World) (hrow : RecRow [.u8, .i64, .i64] W a len cap F) :
    Calls Try.prog 6 #[.int .i64 n, .slice a len cap] W fun e W' => e = .returned (.bool true) ∧ Below W.heap.size W W' := by
  have hcm : cap ≤ 9223372036854775807 := by have := hrow.cm; unfold maxLen at this; omega
  by_cases h : 1 ≤ n ∧ n ≤ 524288
  · obtain ⟨k, rfl⟩ : ∃ k : Nat, n = (k : Int) := ⟨n.toNat, by omega⟩
    by_cases hl : len ≤ 200
    · exact pplays_short k (by omega) (by omega) a len cap F hl W hrow
    · exact pplays_long k (by omega) (by omega) a len cap hrow.lc hcm (by omega) W
  · exact pplays_bad n (by omega) a len cap hrow.lc hcm W

end Go.Proofs.Ytpdnbkibnpkfbac.PT
