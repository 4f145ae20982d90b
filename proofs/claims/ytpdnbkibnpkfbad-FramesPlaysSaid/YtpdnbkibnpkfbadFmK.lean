/- The law FramesPlays, walked. -/
import Derived.Test.YtpdnbkibnpkfbadFmH
import Derived.Test.YtpdnbkibnpkfbadFmW
import Derived.Test.YtpdnbkibnpkfbadRecs
import Derived.Deep.QuietTactic
import Derived.BigQuiet
import Derived.Deep.RegionHeld3
namespace Go.Proofs.Ytpdnbkibnpkfbad
open Go.ChangeShapes Go.WideShapes Go.ChangeAt Go.RowKit

theorem pI_pow (n : Nat) : pI (n : Int) ↔ powP n := by unfold pI powP; omega

set_option maxRecDepth 100000 in
theorem fplays_long (x0 x1 : Int) (a : Option Addr) (len cap : Nat) (hl : len ≤ cap) (hc : cap ≤ 9223372036854775807) (h : (64 < x0 ∧ x0 ≤ 4096) ∨ 200 < len) (W : World) :
    Calls Try.prog 3 #[.int .i64 x0, .int .i64 x1, .slice a len cap] W fun e W' => e = .returned (.bool true) ∧ Below W.heap.size W W' := by
  have L := Lib.hid flives
  by_cases h1 : 64 < x0 ∧ x0 ≤ 4096
  · obtain ⟨g1, g2⟩ := h1
    clear h
    go_enter Try.func3, Try.ntmps3
    go_wp2_with (go_at_call 8; refine (L.out _).mono ?_; rintro e1 w1 ⟨rfl, hb⟩)
    go_ret
    exact ⟨rfl, hb⟩
  · have h2 : (200 : Int) < len := by omega
    by_cases g1 : 64 < x0
    · have g2 : ¬ x0 ≤ 4096 := by omega
      clear h h1
      go_enter Try.func3, Try.ntmps3
      go_wp2_with (go_at_call 8; refine (L.out _).mono ?_; rintro e1 w1 ⟨rfl, hb⟩)
      go_ret
      exact ⟨rfl, hb⟩
    · clear h h1
      go_enter Try.func3, Try.ntmps3
      go_wp2_with (go_at_call 8; refine (L.out _).mono ?_; rintro e1 w1 ⟨rfl, hb⟩)
      go_ret
      exact ⟨rfl, hb⟩

set_option maxRecDepth 100000 in
theorem fplays_bad (x0 x1 : Int) (a : Option Addr) (len cap : Nat) (hl : len ≤ cap) (hc : cap ≤ 9223372036854775807) (hx1 : x1 ≤ 9223372036854775807) (hs : len ≤ 200) (h : x0 < 1 ∨ 4096 < x0 ∨ (x0 ≤ 64 ∧ ¬ pI x1)) (W : World) :
    Calls Try.prog 3 #[.int .i64 x0, .int .i64 x1, .slice a len cap] W fun e W' => e = .returned (.bool true) ∧ Below W.heap.size W W' := by
  have L := Lib.hid flives
  have np : ¬ pI x1 → x1 < 1 ∨ 256 < x1 ∨ ¬ powP x1.toNat := fun hn => by
    by_cases g : x1 < 1
    · exact .inl g
    · refine .inr (.inr fun hp => hn ?_)
      have := (pI_pow x1.toNat).2 hp
      rw [show ((x1.toNat : Nat) : Int) = x1 by omega] at this; exact this
  have N := Lib.hid (fm_new_bad x0 x1 hx1 (by
    rcases h with h | h | ⟨_, h⟩
    · exact .inl h
    · exact .inr (.inl h)
    · rcases np h with g | g | g
      · exact .inr (.inr (.inl g))
      · exact .inr (.inr (.inr (.inl g)))
      · exact .inr (.inr (.inr (.inr g)))))
  have M := Lib.hid (rp_new_bad x0 x1 (by
    rcases h with h | h | ⟨_, h⟩
    · exact .inl h
    · exact .inr (.inl h)
    · exact .inr (.inr h)))
  by_cases g1 : 64 < x0
  · have g2 : ¬ x0 ≤ 4096 := by omega
    clear h np
    go_enter Try.func3, Try.ntmps3
    go_wp2_with (first | (go_at_call 9; refine (N.out _).mono ?_; rintro e1 w1 ⟨rfl, rfl⟩) | (go_at_call 10; refine (M.out _).mono ?_; rintro e1 w1 ⟨rfl, rfl⟩) | (go_at_call 8; refine (L.out _).mono ?_; rintro e1 w1 ⟨rfl, hb⟩))
    go_ret
    exact ⟨rfl, hb⟩
  · clear h np
    go_enter Try.func3, Try.ntmps3
    go_wp2_with (first | (go_at_call 9; refine (N.out _).mono ?_; rintro e1 w1 ⟨rfl, rfl⟩) | (go_at_call 10; refine (M.out _).mono ?_; rintro e1 w1 ⟨rfl, rfl⟩) | (go_at_call 8; refine (L.out _).mono ?_; rintro e1 w1 ⟨rfl, hb⟩))
    go_ret
    exact ⟨rfl, hb⟩

def frA (c d X : Nat) (s : PS) (r : RS) (f0 f1 f2 f3 : Int) : Asn := poolA c s * (rpA d r * blk X (.cells #[.int .u8 f0, .int .i64 f1, .int .i64 f2, .int .u64 f3] 33 (0, 0)))

theorem frcells4 {w : World} {b : Nat} {x0 x1 x2 x3 : Value} {t : TypeId} (h : w.heap[b]? = some (.cells #[x0, x1, x2, x3] t (0, 0))) :
    w.cell? ⟨b, 0, none⟩ = some x0 ∧ w.cell? ⟨b, 1, none⟩ = some x1 ∧ w.cell? ⟨b, 2, none⟩ = some x2 ∧ w.cell? ⟨b, 3, none⟩ = some x3 := by
  simp [World.cell?, h]

section
variable {w0 w : World} {S : Nat → Prop} {c d X : Nat} {s s' : PS} {r r' : RS} {f0 f1 f2 f3 : Int} {fn : FuncId} {args : Array Value} {v : Value}

theorem frA_box (h : At (frA c d X s r f0 f1 f2 f3) w0 S w) : w.cell? ⟨X, 0, none⟩ = some (.int .u8 f0) ∧ w.cell? ⟨X, 1, none⟩ = some (.int .i64 f1) ∧ w.cell? ⟨X, 2, none⟩ = some (.int .i64 f2) ∧ w.cell? ⟨X, 3, none⟩ = some (.int .u64 f3) :=
  frcells4 (At.blkIs (A := poolA c s * rpA d r) (h.re (by unfold frA; ac_rfl)))

theorem frA_three (h : At (frA c d X s r f0 f1 f2 f3) w0 S w) : w.cell? ⟨X, 1, none⟩ = some (.int .i64 f1) ∧ w.cell? ⟨X, 2, none⟩ = some (.int .i64 f2) ∧ w.cell? ⟨X, 3, none⟩ = some (.int .u64 f3) := (frA_box h).2

theorem frA_m (t : Tri1 Try.prog fn args (poolA c s) v (poolA c s')) (h : At (frA c d X s r f0 f1 f2 f3) w0 S w) : Calls Try.prog fn args w fun e w' => e = .returned v ∧ At (frA c d X s' r f0 f1 f2 f3) w0 S w' := At.tri1 h t

theorem frA_l (t : Tri1 Try.prog fn args (rpA d r) v (rpA d r')) (h : At (frA c d X s r f0 f1 f2 f3) w0 S w) : Calls Try.prog fn args w fun e w' => e = .returned v ∧ At (frA c d X s r' f0 f1 f2 f3) w0 S w' :=
  (At.tri1 (C := poolA c s * blk X (.cells #[.int .u8 f0, .int .i64 f1, .int .i64 f2, .int .u64 f3] 33 (0, 0))) (h.re (by unfold frA; ac_rfl)) t).mono fun _ _ ⟨a, b⟩ => ⟨a, b.re (by unfold frA; ac_rfl)⟩

theorem frA_lx {R : Nat → RS} {vx : Nat → Value} (t : Tri Try.prog fn args (rpA d r) vx (fun b => rpA d (R b))) (h : At (frA c d X s r f0 f1 f2 f3) w0 S w) : Calls Try.prog fn args w fun e w' => ∃ b, e = .returned (vx b) ∧ At (frA c d X s (R b) f0 f1 f2 f3) w0 S w' :=
  (At.tri (C := poolA c s * blk X (.cells #[.int .u8 f0, .int .i64 f1, .int .i64 f2, .int .u64 f3] 33 (0, 0))) (h.re (by unfold frA; ac_rfl)) t).mono fun _ _ ⟨x, a, b⟩ => ⟨x, a, b.re (by unfold frA; ac_rfl)⟩

theorem frA_am (t : Look Try.prog fn args (poolA c s) v) (h : At (frA c d X s r f0 f1 f2 f3) w0 S w) : Calls Try.prog fn args w fun e w' => e = .returned v ∧ ∃ n, w' = w.drewN n := At.look h t

theorem frA_al (t : Ask Try.prog fn args (rpA d r) v) (h : At (frA c d X s r f0 f1 f2 f3) w0 S w) : Calls Try.prog fn args w fun e w' => e = .returned v ∧ w = w' :=
  At.ask (C := poolA c s * blk X (.cells #[.int .u8 f0, .int .i64 f1, .int .i64 f2, .int .u64 f3] 33 (0, 0))) (h.re (by unfold frA; ac_rfl)) t

theorem frA_fields (h : At (frA c d X s r f0 f1 f2 f3) w0 S w) : ∃ a cap, w.cell? ⟨d, 2, none⟩ = some (.slice a r.L.length cap) ∧ w.cell? ⟨d, 5, none⟩ = some (.int .i64 r.high) ∧ w.cell? ⟨d, 6, none⟩ = some (.int .i64 r.times) := by
  obtain ⟨S1, h1⟩ := At.left (h.re (B := rpA d r * (poolA c s * blk X (.cells #[.int .u8 f0, .int .i64 f1, .int .i64 f2, .int .u64 f3] 33 (0, 0)))) (by unfold frA; ac_rfl))
  obtain ⟨a, cap, _, _, _, R⟩ := rp_open h1
  exact ⟨a, cap, R.c2, R.c5, R.c6⟩

/-- everything that is asked behind each act -/
theorem frA_asks (rf : RF s r) (h : At (frA c d X s r f0 f1 f2 f3) w0 S w) (m : Nat) :
    (Calls Try.prog 19 #[.pointer (some ⟨c, 0, none⟩)] (w.drewN m) fun e w' => e = .returned (.int .i64 (r.L.length : Nat)) ∧ ∃ n, w' = (w.drewN m).drewN n) ∧
    (Calls Try.prog 20 #[.pointer (some ⟨c, 0, none⟩)] (w.drewN m) fun e w' => e = .returned (.int .i64 (r.high : Nat)) ∧ ∃ n, w' = (w.drewN m).drewN n) ∧
    (Calls Try.prog 21 #[.pointer (some ⟨c, 0, none⟩)] (w.drewN m) fun e w' => e = .returned (.int .i64 r.times) ∧ ∃ n, w' = (w.drewN m).drewN n) ∧
    (Calls Try.prog 22 #[.pointer (some ⟨c, 0, none⟩)] (w.drewN m) fun e w' => e = .returned (.int .i64 (s.room : Nat)) ∧ ∃ n, w' = (w.drewN m).drewN n) ∧
    (Calls Try.prog 23 #[.pointer (some ⟨c, 0, none⟩)] (w.drewN m) fun e w' => e = .returned (.int .i64 (s.page : Nat)) ∧ ∃ n, w' = (w.drewN m).drewN n) := by
  have A := h.drewN m
  have U := fm_used (p := c) rf.pi.ok
  rw [← rf.len] at U
  have H := (fm_high (p := c) (s := s)).look
  rw [← rf.high] at H
  have T := (fm_taken (p := c) (s := s)).look
  rw [← rf.times] at T
  exact ⟨frA_am U A, frA_am H A, frA_am T A, frA_am fm_room.look A, frA_am fm_page.look A⟩
end

set_option maxHeartbeats 8000000 in
set_option maxRecDepth 100000 in
theorem fplays_short (room page : Nat) (h1 : 1 ≤ room) (h2 : room ≤ 64) (hp : powP page) (a : Option Addr) (len cap : Nat) (F : Nat → Nat → Int) (hl : len ≤ 200) (W : World) (hrow : RecRow [.u8, .i64, .i64, .u64] W a len cap F) :
    Calls Try.prog 3 #[.int .i64 room, .int .i64 page, .slice a len cap] W fun e W' => e = .returned (.bool true) ∧ Below W.heap.size W W' := by
  have hcl : len ≤ cap := hrow.lc
  have hcm : cap ≤ 9223372036854775807 := by have := hrow.cm; unfold maxLen at this; omega
  have cell : Hid (∀ wr, Below W.heap.size W wr → ∀ j, j < len → ∃ q off, a = some ⟨q, off, none⟩ ∧ wr.cell? ⟨q, off + j * 4, none⟩ = some (.int .u8 (F j 0)) ∧ wr.cell? ⟨q, off + j * 4 + 1, none⟩ = some (.int .i64 (F j 1)) ∧ wr.cell? ⟨q, off + j * 4 + 2, none⟩ = some (.int .i64 (F j 2)) ∧ wr.cell? ⟨q, off + j * 4 + 3, none⟩ = some (.int .u64 (F j 3)) ∧ 0 ≤ F j 0 ∧ F j 0 ≤ 255) := Lib.hid <| by
    intro wr hb j hj
    obtain ⟨q, off, ha, hq, hc⟩ := hrow.at_ j hj
    have b0 := bounds_u8 (hrow.wf j hj 0 _ rfl)
    exact ⟨q, off, ha, (hb.cell (p := ⟨q, _, none⟩) hq).trans (hc 0 _ rfl), (hb.cell (p := ⟨q, _, none⟩) hq).trans (hc 1 _ rfl), (hb.cell (p := ⟨q, _, none⟩) hq).trans (hc 2 _ rfl), (hb.cell (p := ⟨q, _, none⟩) hq).trans (hc 3 _ rfl), b0.1, b0.2⟩
  clear hrow
  have N := Lib.hid ((At.emp W).trix (fm_new_ok room page h1 (by omega) hp))
  have T2 := rp_new_ok room page h1 (by omega) ((pI_pow page).2 hp)
  have R0 := Lib.hid (RF.new room page h1 (by omega) hp)
  have T2 := Lib.hid T2
  clear hp
  go_enter Try.func3, Try.ntmps3
  go_wp2_with fail
  refine N.out.mono ?_
  rintro e w1 ⟨c, rfl, a1⟩
  have M := Lib.hid (a1.unit.re (B := pur True * poolA c (newP room page)) (by ac_rfl) |>.tri T2.out)
  clear a1 N T2
  go_wp2_with fail
  refine M.out.mono ?_
  rintro e w2 ⟨d, rfl, a2⟩
  have A0 := Lib.hid a2
  clear a2 M
  go_wp2_with fail
  go_loopw [60] (fun i wr => ∃ (k : Nat), k ≤ len ∧ i = .int .i64 k ∧ Hid (∃ (s : PS) (r : RS), RF s r ∧ s.room = room ∧ s.page = page ∧ At (rpA d r * poolA c s) W (fun _ => False) wr)) (fun i _ => len - (intOf i).toNat)
  case atStart => exact ⟨0, Nat.zero_le _, rfl, Lib.hid ⟨_, _, R0.out, rfl, rfl, A0.out⟩⟩
  case round =>
    clear A0 R0
    obtain ⟨k, hk, rfl, HR⟩ := hrel
    obtain ⟨s, r, rf0, hrm, hpg, HA⟩ := HR.out
    clear HR
    by_cases hlt : k < len
    · obtain ⟨q, off, rfl, hc0, hc1, hc2, hc3, hK0, hK1⟩ := cell.out wr HA.below k hlt
      have hltI : (k : Int) < (len : Int) := by omega
      generalize F k 0 = f0 at *
      generalize F k 1 = f1 at *
      generalize F k 2 = f2 at *
      generalize F k 3 = f3 at *
      have A2 : At (frA c d wr.heap.size s r f0 f1 f2 f3) W (fun _ => False) (wr.alloc (.cells #[.int .u8 f0, .int .i64 f1, .int .i64 f2, .int .u64 f3] 33)) := (HA.alloc _).re (by unfold frA; ac_rfl)
      obtain ⟨by0, by1, by2, by3⟩ := frA_box A2
      clear HA
      obtain ⟨X, hX⟩ : ∃ X, wr.heap.size = X := ⟨_, rfl⟩
      rw [hX] at A2 by0 by1 by2 by3
      by_cases k0 : f0 % 8 = 0
      · obtain ⟨vf, ve, s1, R, RR, p1, p2, T1, T2⟩ := pf_take rf0 c d
        have C1 := Lib.hid (frA_m T1 A2)
        have C2 := Lib.hid (fun (w' : World) (h : At (frA c d X s1 r f0 f1 f2 f3) W (fun _ => False) w') => frA_lx T2 h)
        clear T1 T2 A2
        go_wp2_with fail
        refine C1.out.mono ?_
        rintro e w2 ⟨rfl, hp3⟩
        have C3 := Lib.hid (C2.out _ hp3)
        clear hp3 C1 C2
        go_wp2_with fail
        refine C3.out.mono ?_
        rintro e w3 ⟨b, rfl, hp4⟩
        have A3 := Lib.hid hp4
        have rf := RR b
        generalize R b = r1 at *
        clear C3 hp4 by0 by1 by2 by3 RR

        have AS := Lib.hid (frA_asks rf A3.out)
        obtain ⟨la, lc, hf2, hf5, hf6⟩ := frA_fields A3.out
        have RFH := Lib.hid rf
        have FIN := Lib.hid (fun m => show At (rpA d r1 * poolA c s1) W (fun _ => False) _ from ((At.drewN A3.out m).re (B := (rpA d r1 * poolA c s1) * blk X (.cells #[.int .u8 f0, .int .i64 f1, .int .i64 f2, .int .u64 f3] 33 (0, 0))) (by unfold frA; ac_rfl)).dropr)
        have hrm2 := Lib.hid (p1.trans hrm)
        have hpg2 := Lib.hid (p2.trans hpg)
        have AS2 := AS.out
        rw [hrm2.out, hpg2.out] at AS2
        have AS := Lib.hid AS2
        clear A3 rf AS2
        have z1 : ((r1.L.length : Int) != (r1.L.length : Int)) = false := by simp
        have z2 : ((r1.high : Int) != (r1.high : Int)) = false := by simp
        have z3 : (r1.times != r1.times) = false := by simp
        have z4 : ((room : Int) != (room : Int)) = false := by simp
        have z5 : ((page : Int) != (page : Int)) = false := by simp
        go_wp2_with fail
        go_quiet (first | (go_at_call 19; exact Calls.quiet_of (AS.out _).1) | (go_at_call 20; exact Calls.quiet_of (AS.out _).2.1) | (go_at_call 21; exact Calls.quiet_of (AS.out _).2.2.1) | (go_at_call 22; exact Calls.quiet_of (AS.out _).2.2.2.1) | (go_at_call 23; exact Calls.quiet_of (AS.out _).2.2.2.2))
        go_wp2_with fail
        exact ⟨⟨k + 1, by omega, by go_num, Lib.hid ⟨s1, r1, RFH.out, hrm2.out, hpg2.out, FIN.out _⟩⟩, by simp [intOf]; omega⟩
      by_cases k1 : f0 % 8 = 1
      · obtain ⟨vf, ve, s1, R, RR, p1, p2, T1, T2⟩ := pf_take rf0 c d
        have C1 := Lib.hid (frA_m T1 A2)
        have C2 := Lib.hid (fun (w' : World) (h : At (frA c d X s1 r f0 f1 f2 f3) W (fun _ => False) w') => frA_lx T2 h)
        clear T1 T2 A2
        go_wp2_with fail
        refine C1.out.mono ?_
        rintro e w2 ⟨rfl, hp3⟩
        have C3 := Lib.hid (C2.out _ hp3)
        clear hp3 C1 C2
        go_wp2_with fail
        refine C3.out.mono ?_
        rintro e w3 ⟨b, rfl, hp4⟩
        have A3 := Lib.hid hp4
        have rf := RR b
        generalize R b = r1 at *
        clear C3 hp4 by0 by1 by2 by3 RR

        have AS := Lib.hid (frA_asks rf A3.out)
        obtain ⟨la, lc, hf2, hf5, hf6⟩ := frA_fields A3.out
        have RFH := Lib.hid rf
        have FIN := Lib.hid (fun m => show At (rpA d r1 * poolA c s1) W (fun _ => False) _ from ((At.drewN A3.out m).re (B := (rpA d r1 * poolA c s1) * blk X (.cells #[.int .u8 f0, .int .i64 f1, .int .i64 f2, .int .u64 f3] 33 (0, 0))) (by unfold frA; ac_rfl)).dropr)
        have hrm2 := Lib.hid (p1.trans hrm)
        have hpg2 := Lib.hid (p2.trans hpg)
        have AS2 := AS.out
        rw [hrm2.out, hpg2.out] at AS2
        have AS := Lib.hid AS2
        clear A3 rf AS2
        have z1 : ((r1.L.length : Int) != (r1.L.length : Int)) = false := by simp
        have z2 : ((r1.high : Int) != (r1.high : Int)) = false := by simp
        have z3 : (r1.times != r1.times) = false := by simp
        have z4 : ((room : Int) != (room : Int)) = false := by simp
        have z5 : ((page : Int) != (page : Int)) = false := by simp
        go_wp2_with fail
        go_quiet (first | (go_at_call 19; exact Calls.quiet_of (AS.out _).1) | (go_at_call 20; exact Calls.quiet_of (AS.out _).2.1) | (go_at_call 21; exact Calls.quiet_of (AS.out _).2.2.1) | (go_at_call 22; exact Calls.quiet_of (AS.out _).2.2.2.1) | (go_at_call 23; exact Calls.quiet_of (AS.out _).2.2.2.2))
        go_wp2_with fail
        exact ⟨⟨k + 1, by omega, by go_num, Lib.hid ⟨s1, r1, RFH.out, hrm2.out, hpg2.out, FIN.out _⟩⟩, by simp [intOf]; omega⟩
      by_cases k2 : f0 % 8 = 2
      · obtain ⟨vf, ve, s1, R, RR, p1, p2, T1, T2⟩ := pf_take rf0 c d
        have C1 := Lib.hid (frA_m T1 A2)
        have C2 := Lib.hid (fun (w' : World) (h : At (frA c d X s1 r f0 f1 f2 f3) W (fun _ => False) w') => frA_lx T2 h)
        clear T1 T2 A2
        go_wp2_with fail
        refine C1.out.mono ?_
        rintro e w2 ⟨rfl, hp3⟩
        have C3 := Lib.hid (C2.out _ hp3)
        clear hp3 C1 C2
        go_wp2_with fail
        refine C3.out.mono ?_
        rintro e w3 ⟨b, rfl, hp4⟩
        have A3 := Lib.hid hp4
        have rf := RR b
        generalize R b = r1 at *
        clear C3 hp4 by0 by1 by2 by3 RR

        have AS := Lib.hid (frA_asks rf A3.out)
        obtain ⟨la, lc, hf2, hf5, hf6⟩ := frA_fields A3.out
        have RFH := Lib.hid rf
        have FIN := Lib.hid (fun m => show At (rpA d r1 * poolA c s1) W (fun _ => False) _ from ((At.drewN A3.out m).re (B := (rpA d r1 * poolA c s1) * blk X (.cells #[.int .u8 f0, .int .i64 f1, .int .i64 f2, .int .u64 f3] 33 (0, 0))) (by unfold frA; ac_rfl)).dropr)
        have hrm2 := Lib.hid (p1.trans hrm)
        have hpg2 := Lib.hid (p2.trans hpg)
        have AS2 := AS.out
        rw [hrm2.out, hpg2.out] at AS2
        have AS := Lib.hid AS2
        clear A3 rf AS2
        have z1 : ((r1.L.length : Int) != (r1.L.length : Int)) = false := by simp
        have z2 : ((r1.high : Int) != (r1.high : Int)) = false := by simp
        have z3 : (r1.times != r1.times) = false := by simp
        have z4 : ((room : Int) != (room : Int)) = false := by simp
        have z5 : ((page : Int) != (page : Int)) = false := by simp
        go_wp2_with fail
        go_quiet (first | (go_at_call 19; exact Calls.quiet_of (AS.out _).1) | (go_at_call 20; exact Calls.quiet_of (AS.out _).2.1) | (go_at_call 21; exact Calls.quiet_of (AS.out _).2.2.1) | (go_at_call 22; exact Calls.quiet_of (AS.out _).2.2.2.1) | (go_at_call 23; exact Calls.quiet_of (AS.out _).2.2.2.2))
        go_wp2_with fail
        exact ⟨⟨k + 1, by omega, by go_num, Lib.hid ⟨s1, r1, RFH.out, hrm2.out, hpg2.out, FIN.out _⟩⟩, by simp [intOf]; omega⟩
      by_cases k3 : f0 % 8 = 3
      · obtain ⟨ve, s1, r1, rf, p1, p2, T1, T2⟩ := pf_give rf0 f1 c d
        have C1 := Lib.hid (fun (w' : World) (h : At (frA c d X s r f0 f1 f2 f3) W (fun _ => False) w') => frA_m T1 h)
        have C2 := Lib.hid (fun (w' : World) (h : At (frA c d X s1 r f0 f1 f2 f3) W (fun _ => False) w') => frA_l T2 h)
        have hp2d := At.drewN A2 1
        have hbx := frA_three A2
        clear T1 T2
        go_wp2_with fail
        go_region_held3 (fun w' => w'.cell? ⟨X, 1, none⟩ = some (.int .i64 f1) ∧ w'.cell? ⟨X, 2, none⟩ = some (.int .i64 f2) ∧ w'.cell? ⟨X, 3, none⟩ = some (.int .u64 f3)) (first | exact hbx | exact frA_three (by assumption)) (first | (go_at_call 13; refine (C1.out _ hp2d).mono ?_; rintro e w2 ⟨rfl, hp3⟩) | (go_at_call 14; refine (C2.out _ (by assumption)).mono ?_; rintro e w3 ⟨rfl, hp4⟩))
        have A3 := Lib.hid hp4
        clear C1 C2 hp2d hp3 hp4 hbx A2 by0 by1 by2 by3

        have AS := Lib.hid (frA_asks rf A3.out)
        obtain ⟨la, lc, hf2, hf5, hf6⟩ := frA_fields A3.out
        have RFH := Lib.hid rf
        have FIN := Lib.hid (fun m => show At (rpA d r1 * poolA c s1) W (fun _ => False) _ from ((At.drewN A3.out m).re (B := (rpA d r1 * poolA c s1) * blk X (.cells #[.int .u8 f0, .int .i64 f1, .int .i64 f2, .int .u64 f3] 33 (0, 0))) (by unfold frA; ac_rfl)).dropr)
        have hrm2 := Lib.hid (p1.trans hrm)
        have hpg2 := Lib.hid (p2.trans hpg)
        have AS2 := AS.out
        rw [hrm2.out, hpg2.out] at AS2
        have AS := Lib.hid AS2
        clear A3 rf AS2
        have z1 : ((r1.L.length : Int) != (r1.L.length : Int)) = false := by simp
        have z2 : ((r1.high : Int) != (r1.high : Int)) = false := by simp
        have z3 : (r1.times != r1.times) = false := by simp
        have z4 : ((room : Int) != (room : Int)) = false := by simp
        have z5 : ((page : Int) != (page : Int)) = false := by simp
        go_wp2_with fail
        go_quiet (first | (go_at_call 19; exact Calls.quiet_of (AS.out _).1) | (go_at_call 20; exact Calls.quiet_of (AS.out _).2.1) | (go_at_call 21; exact Calls.quiet_of (AS.out _).2.2.1) | (go_at_call 22; exact Calls.quiet_of (AS.out _).2.2.2.1) | (go_at_call 23; exact Calls.quiet_of (AS.out _).2.2.2.2))
        go_wp2_with fail
        exact ⟨⟨k + 1, by omega, by go_num, Lib.hid ⟨s1, r1, RFH.out, hrm2.out, hpg2.out, FIN.out _⟩⟩, by simp [intOf]; omega⟩
      by_cases k4 : f0 % 8 = 4
      · obtain ⟨ve, s1, r1, rf, p1, p2, T1, T2⟩ := pf_store rf0 f1 f2 f3 c d
        have C1 := Lib.hid (fun (w' : World) (h : At (frA c d X s r f0 f1 f2 f3) W (fun _ => False) w') => frA_m T1 h)
        have C2 := Lib.hid (fun (w' : World) (h : At (frA c d X s1 r f0 f1 f2 f3) W (fun _ => False) w') => frA_l T2 h)
        have hp2d := At.drewN A2 1
        have hbx := frA_three A2
        clear T1 T2
        go_wp2_with fail
        go_region_held3 (fun w' => w'.cell? ⟨X, 1, none⟩ = some (.int .i64 f1) ∧ w'.cell? ⟨X, 2, none⟩ = some (.int .i64 f2) ∧ w'.cell? ⟨X, 3, none⟩ = some (.int .u64 f3)) (first | exact hbx | exact frA_three (by assumption)) (first | (go_at_call 15; refine (C1.out _ hp2d).mono ?_; rintro e w2 ⟨rfl, hp3⟩) | (go_at_call 16; refine (C2.out _ (by assumption)).mono ?_; rintro e w3 ⟨rfl, hp4⟩))
        have A3 := Lib.hid hp4
        clear C1 C2 hp2d hp3 hp4 hbx A2 by0 by1 by2 by3

        have AS := Lib.hid (frA_asks rf A3.out)
        obtain ⟨la, lc, hf2, hf5, hf6⟩ := frA_fields A3.out
        have RFH := Lib.hid rf
        have FIN := Lib.hid (fun m => show At (rpA d r1 * poolA c s1) W (fun _ => False) _ from ((At.drewN A3.out m).re (B := (rpA d r1 * poolA c s1) * blk X (.cells #[.int .u8 f0, .int .i64 f1, .int .i64 f2, .int .u64 f3] 33 (0, 0))) (by unfold frA; ac_rfl)).dropr)
        have hrm2 := Lib.hid (p1.trans hrm)
        have hpg2 := Lib.hid (p2.trans hpg)
        have AS2 := AS.out
        rw [hrm2.out, hpg2.out] at AS2
        have AS := Lib.hid AS2
        clear A3 rf AS2
        have z1 : ((r1.L.length : Int) != (r1.L.length : Int)) = false := by simp
        have z2 : ((r1.high : Int) != (r1.high : Int)) = false := by simp
        have z3 : (r1.times != r1.times) = false := by simp
        have z4 : ((room : Int) != (room : Int)) = false := by simp
        have z5 : ((page : Int) != (page : Int)) = false := by simp
        go_wp2_with fail
        go_quiet (first | (go_at_call 19; exact Calls.quiet_of (AS.out _).1) | (go_at_call 20; exact Calls.quiet_of (AS.out _).2.1) | (go_at_call 21; exact Calls.quiet_of (AS.out _).2.2.1) | (go_at_call 22; exact Calls.quiet_of (AS.out _).2.2.2.1) | (go_at_call 23; exact Calls.quiet_of (AS.out _).2.2.2.2))
        go_wp2_with fail
        exact ⟨⟨k + 1, by omega, by go_num, Lib.hid ⟨s1, r1, RFH.out, hrm2.out, hpg2.out, FIN.out _⟩⟩, by simp [intOf]; omega⟩
      by_cases k5 : f0 % 8 = 5
      · obtain ⟨ve, s1, r1, rf, p1, p2, T1, T2⟩ := pf_store rf0 f1 f2 f3 c d
        have C1 := Lib.hid (fun (w' : World) (h : At (frA c d X s r f0 f1 f2 f3) W (fun _ => False) w') => frA_m T1 h)
        have C2 := Lib.hid (fun (w' : World) (h : At (frA c d X s1 r f0 f1 f2 f3) W (fun _ => False) w') => frA_l T2 h)
        have hp2d := At.drewN A2 1
        have hbx := frA_three A2
        clear T1 T2
        go_wp2_with fail
        go_region_held3 (fun w' => w'.cell? ⟨X, 1, none⟩ = some (.int .i64 f1) ∧ w'.cell? ⟨X, 2, none⟩ = some (.int .i64 f2) ∧ w'.cell? ⟨X, 3, none⟩ = some (.int .u64 f3)) (first | exact hbx | exact frA_three (by assumption)) (first | (go_at_call 15; refine (C1.out _ hp2d).mono ?_; rintro e w2 ⟨rfl, hp3⟩) | (go_at_call 16; refine (C2.out _ (by assumption)).mono ?_; rintro e w3 ⟨rfl, hp4⟩))
        have A3 := Lib.hid hp4
        clear C1 C2 hp2d hp3 hp4 hbx A2 by0 by1 by2 by3

        have AS := Lib.hid (frA_asks rf A3.out)
        obtain ⟨la, lc, hf2, hf5, hf6⟩ := frA_fields A3.out
        have RFH := Lib.hid rf
        have FIN := Lib.hid (fun m => show At (rpA d r1 * poolA c s1) W (fun _ => False) _ from ((At.drewN A3.out m).re (B := (rpA d r1 * poolA c s1) * blk X (.cells #[.int .u8 f0, .int .i64 f1, .int .i64 f2, .int .u64 f3] 33 (0, 0))) (by unfold frA; ac_rfl)).dropr)
        have hrm2 := Lib.hid (p1.trans hrm)
        have hpg2 := Lib.hid (p2.trans hpg)
        have AS2 := AS.out
        rw [hrm2.out, hpg2.out] at AS2
        have AS := Lib.hid AS2
        clear A3 rf AS2
        have z1 : ((r1.L.length : Int) != (r1.L.length : Int)) = false := by simp
        have z2 : ((r1.high : Int) != (r1.high : Int)) = false := by simp
        have z3 : (r1.times != r1.times) = false := by simp
        have z4 : ((room : Int) != (room : Int)) = false := by simp
        have z5 : ((page : Int) != (page : Int)) = false := by simp
        go_wp2_with fail
        go_quiet (first | (go_at_call 19; exact Calls.quiet_of (AS.out _).1) | (go_at_call 20; exact Calls.quiet_of (AS.out _).2.1) | (go_at_call 21; exact Calls.quiet_of (AS.out _).2.2.1) | (go_at_call 22; exact Calls.quiet_of (AS.out _).2.2.2.1) | (go_at_call 23; exact Calls.quiet_of (AS.out _).2.2.2.2))
        go_wp2_with fail
        exact ⟨⟨k + 1, by omega, by go_num, Lib.hid ⟨s1, r1, RFH.out, hrm2.out, hpg2.out, FIN.out _⟩⟩, by simp [intOf]; omega⟩
      · obtain ⟨vv, ve, T1, T2⟩ := pf_load rf0 f1 f2 c d
        have C1 := Lib.hid (frA_am T1 A2)
        have C2 := Lib.hid (fun m => frA_al T2 (At.drewN A2 m))
        have A2H := Lib.hid A2
        have rf := rf0
        clear T1 T2 A2
        go_wp2_with fail
        refine C1.out.mono ?_
        rintro e w2 ⟨rfl, n1, rfl⟩
        go_wp2_with fail
        refine (C2.out n1).mono ?_
        rintro e w3 ⟨rfl, rfl⟩
        have A4 := At.drewN A2H.out n1
        obtain ⟨wz, hwz⟩ : ∃ wz, (wr.alloc (.cells #[.int .u8 f0, .int .i64 f1, .int .i64 f2, .int .u64 f3] 33)).drewN n1 = wz := ⟨_, rfl⟩
        rw [hwz] at A4 ⊢
        have A3 := Lib.hid A4
        clear hwz A4 C1 C2 A2H by0 by1 by2 by3

        have AS := Lib.hid (frA_asks rf A3.out)
        obtain ⟨la, lc, hf2, hf5, hf6⟩ := frA_fields A3.out
        have RFH := Lib.hid rf
        have FIN := Lib.hid (fun m => show At (rpA d r * poolA c s) W (fun _ => False) _ from ((At.drewN A3.out m).re (B := (rpA d r * poolA c s) * blk X (.cells #[.int .u8 f0, .int .i64 f1, .int .i64 f2, .int .u64 f3] 33 (0, 0))) (by unfold frA; ac_rfl)).dropr)
        have hrm2 := Lib.hid hrm
        have hpg2 := Lib.hid hpg
        have AS2 := AS.out
        rw [hrm2.out, hpg2.out] at AS2
        have AS := Lib.hid AS2
        clear A3 rf AS2
        have z1 : ((r.L.length : Int) != (r.L.length : Int)) = false := by simp
        have z2 : ((r.high : Int) != (r.high : Int)) = false := by simp
        have z3 : (r.times != r.times) = false := by simp
        have z4 : ((room : Int) != (room : Int)) = false := by simp
        have z5 : ((page : Int) != (page : Int)) = false := by simp
        go_wp2_with fail
        go_quiet (first | (go_at_call 19; exact Calls.quiet_of (AS.out _).1) | (go_at_call 20; exact Calls.quiet_of (AS.out _).2.1) | (go_at_call 21; exact Calls.quiet_of (AS.out _).2.2.1) | (go_at_call 22; exact Calls.quiet_of (AS.out _).2.2.2.1) | (go_at_call 23; exact Calls.quiet_of (AS.out _).2.2.2.2))
        go_wp2_with fail
        exact ⟨⟨k + 1, by omega, by go_num, Lib.hid ⟨s, r, RFH.out, hrm2.out, hpg2.out, FIN.out _⟩⟩, by simp [intOf]; omega⟩
    · obtain rfl : k = len := by omega
      have hltI : ¬ (k : Int) < (k : Int) := by omega
      have B := Lib.hid HA.below
      have SZ := HA.size
      have L0 := Lib.hid (flives wr)
      clear HA
      go_wp2_with (go_at_call 8; refine L0.out.mono ?_; rintro e w3 ⟨rfl, hb⟩)
      go_ret
      exact ⟨rfl, Below.step B.out hb SZ⟩

theorem fplays_law (x0 x1 : Int) (hx1 : (Lit.int .i64 x1).wf = true) (a : Option Addr) (len cap : Nat) (F : Nat → Nat → Int) (W : World) (hrow : RecRow [.u8, .i64, .i64, .u64] W a len cap F) :
    Calls Try.prog 3 #[.int .i64 x0, .int .i64 x1, .slice a len cap] W fun e W' => e = .returned (.bool true) ∧ Below W.heap.size W W' := by
  have hcm : cap ≤ 9223372036854775807 := by have := hrow.cm; unfold maxLen at this; omega
  have hb := bounds_i64 hx1
  by_cases hl : (64 < x0 ∧ x0 ≤ 4096) ∨ 200 < len
  · exact fplays_long x0 x1 a len cap hrow.lc hcm hl W
  · by_cases h : 1 ≤ x0 ∧ x0 ≤ 64 ∧ pI x1
    · obtain ⟨h1, h2, h3⟩ := h
      obtain ⟨n, rfl⟩ := Int.eq_ofNat_of_zero_le (show 0 ≤ x0 by omega)
      have hx0 : 0 ≤ x1 := by unfold pI at h3; omega
      obtain ⟨p, rfl⟩ := Int.eq_ofNat_of_zero_le hx0
      exact fplays_short n p (by omega) (by omega) ((pI_pow p).1 h3) a len cap F (by omega) W hrow
    · refine fplays_bad x0 x1 a len cap hrow.lc hcm hb.2 (by omega) ?_ W
      by_cases h1 : x0 < 1
      · exact .inl h1
      · by_cases h2 : 4096 < x0
        · exact .inr (.inl h2)
        · exact .inr (.inr ⟨by omega, fun h3 => h ⟨by omega, by omega, h3⟩⟩)

end Go.Proofs.Ytpdnbkibnpkfbad
