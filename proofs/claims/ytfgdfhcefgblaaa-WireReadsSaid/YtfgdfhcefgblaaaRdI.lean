/- The law WireReads, walked. -/
import Derived.Test.YtfgdfhcefgblaaaRdH
import Derived.Test.YtfgdfhcefgblaaaArgs
import Derived.Deep.CutRange
import Derived.Deep.CutBlock
namespace Go.Proofs.Ytfgdfhcefgblaaa
open Go.ChangeShapes Go.WideShapes Go.ChangeAt Go.RowKit

/-- behind the switch: what both have read -/
def Read (p q e : Nat) (s : ByteArray) (W : World) (nv mv tv uv sv ev : Value) (w : World) : Prop := ∃ (x x' : Int) (y y' : ByteArray) (st E q' : Nat), nv = .int .u64 x ∧ mv = .int .u64 x' ∧ tv = .string y ∧ uv = .string y' ∧ sv = .int .i64 st ∧ ev = .int .i64 E ∧ E ≤ 3 ∧ st ≤ 1000000000 ∧
  ((e = 0 ∧ Stood E q q' st s.size (x = x' ∧ y = y') (x = 0 ∧ y = ⟨#[]⟩) ∧ At (rdA p s q' E) W (fun _ => False) w) ∨ ((e = 1 ∨ e = 2 ∨ e = 3) ∧ x = 0 ∧ y = ⟨#[]⟩ ∧ q' = q ∧ At (rdA p s q e) W (fun _ => False) w))

def Rst (p : Nat) (s : ByteArray) (W : World) (av wv : Value) (w : World) : Prop := ∃ q e : Nat, av = .int .i64 q ∧ wv = .int .i64 e ∧ q ≤ s.size ∧ e ≤ 3 ∧ At (rdA p s q e) W (fun _ => False) w

set_option maxRecDepth 100000 in
theorem reads_long (s : ByteArray) (a : Option Addr) (len cap : Nat) (hss : s.size ≤ 9223372036854775807) (hll : len ≤ 9223372036854775807) (h : 3000 < s.size ∨ 200 < len) (W : World) :
    Calls Try.prog 3 #[.string s, .slice a len cap] W fun e W' => e = .returned (.bool true) ∧ Below W.heap.size W W' := by
  have L := Lib.hid (wlives W)
  by_cases h1 : 3000 < s.size
  · have h1I : (3000 : Int) < (s.size : Int) := by omega
    clear h
    go_enter Try.func3, Try.ntmps3
    go_wp2_with (go_at_call 5; refine L.out.mono ?_; rintro e1 w2 ⟨rfl, hb⟩)
    go_ret
    exact ⟨rfl, hb⟩
  · have h1I : ¬ (3000 : Int) < (s.size : Int) := by omega
    have h2I : (200 : Int) < (len : Int) := by omega
    clear h
    go_enter Try.func3, Try.ntmps3
    go_wp2_with (go_at_call 5; refine L.out.mono ?_; rintro e1 w2 ⟨rfl, hb⟩)
    go_ret
    exact ⟨rfl, hb⟩

set_option maxRecDepth 100000 in
set_option maxHeartbeats 8000000 in
theorem reads_short (s : ByteArray) (a : Option Addr) (len cap : Nat) (zs : List Int) (hs : s.size ≤ 3000) (hl : len ≤ 200) (W : World) (hrow : IntRow .u8 W a len cap zs) :
    Calls Try.prog 3 #[.string s, .slice a len cap] W fun e W' => e = .returned (.bool true) ∧ Below W.heap.size W W' := by
  have h1I : ¬ (3000 : Int) < (s.size : Int) := by omega
  have h2I : ¬ (200 : Int) < (len : Int) := by omega
  have cell : Hid (∀ wr, Below W.heap.size W wr → ∀ j, j < len → ∃ g off, a = some ⟨g, off, none⟩ ∧ wr.cell? ⟨g, off + j, none⟩ = some (.int .u8 (zs.getD j 0)) ∧ 0 ≤ zs.getD j 0 ∧ zs.getD j 0 ≤ 255) := Lib.hid fun wr hb j hj => by
    obtain ⟨g, off, ha, hg, hc⟩ := hrow.at_ j hj
    have hb8 := bounds_u8 (hrow.wf (zs.getD j 0) (by
      have hjl : j < zs.length := by rw [hrow.length]; exact hj
      rw [List.getD_eq_getElem?_getD, List.getElem?_eq_getElem hjl]; exact List.getElem_mem hjl))
    exact ⟨g, off, ha, (hb.cell (p := ⟨g, _, none⟩) hg).trans hc, hb8.1, hb8.2⟩
  have N := Lib.hid (At.trix (At.emp W) (rd_new s))
  have END := Lib.hid (fun w => wlives w)
  clear hrow
  go_enter Try.func3, Try.ntmps3
  go_wp2_with fail
  refine N.out.mono ?_
  rintro e w1 ⟨p, rfl, a1⟩
  have A0 : Hid (Rst p s W (.int .i64 0) (.int .i64 0) w1) := Lib.hid ⟨0, 0, rfl, rfl, Nat.zero_le _, by omega, a1⟩
  clear a1 N
  go_wp2_with fail
  go_loopw [6, 7, 32] (fun av wv iv wr => ∃ k : Nat, k ≤ len ∧ iv = .int .i64 k ∧ Hid (Rst p s W av wv wr)) (fun _ _ iv _ => len - (intOf iv).toNat)
  case atStart => exact ⟨0, Nat.zero_le _, rfl, A0⟩
  case round =>
    clear A0
    obtain ⟨k, hk, rfl, HR⟩ := hrel
    obtain ⟨q, e, rfl, rfl, hq, he, hA⟩ := HR.out
    clear HR
    by_cases hlt : k < len
    · obtain ⟨g, off, rfl, hc0, b0, b1⟩ := cell.out wr hA.below k hlt
      have hltI : (k : Int) < (len : Int) := by omega
      generalize zs.getD k 0 = kd at *
      have HA := Lib.hid hA
      clear hA
      go_upto_block 2 with fail
      go_cut [10, 11, 12, 13, 14, 15, 16] from 36 to 87 (fun nv mv tv uv sv ev _ wc => Hid (Read p q e s W nv mv tv uv sv ev wc))
      case first =>
        have hqI : (q : Int) ≤ (s.size : Int) := by omega
        have hq0 : (0 : Int) ≤ (q : Int) := by omega
        clear cell END hc0
        by_cases he0 : e = 0
        · have HA0 : At (rdA p s q 0) W (fun _ => False) wr := by rw [← he0]; exact HA.out
          have HE := Lib.hid he0
          clear he0 HA
          by_cases m0 : kd % 4 = 0
          · obtain ⟨x, x', st, E, q', hE, hst, RN, TN, SD⟩ := a_num (p := p) (show s.size ≤ 1000000000 by omega) hq
            have T1 := Lib.hid (At.tri0 HA0 TN)
            have R1 := Lib.hid RN
            clear RN TN HA0
            have SD := Lib.hid SD
            go_wp2_with fail
            refine T1.out.mono ?_
            rintro e1 w2 ⟨rfl, hA2⟩
            have HA2 := Lib.hid hA2
            clear hA2 T1
            go_wp2_with fail
            refine (R1.out _).mono ?_
            rintro e1 w3 ⟨rfl, rfl⟩
            clear R1
            go_wp2_with fail
            go_meet
            case rel => exact Lib.hid ⟨x, x', ⟨#[]⟩, ⟨#[]⟩, st, E, q', rfl, rfl, rfl, rfl, rfl, rfl, hE, hst, .inl ⟨HE.out, SD.out.imp (fun h => ⟨congrArg Nat.cast h, rfl⟩) fun h => ⟨by rw [h]; rfl, rfl⟩, HA2.out⟩⟩
          · by_cases m1 : kd % 4 = 1
            · obtain ⟨x, x', st, E, q', hE, hst, RN, TN, SD⟩ := a_int (p := p) (show s.size ≤ 1000000000 by omega) hq
              have T1 := Lib.hid (At.tri0 HA0 TN)
              have R1 := Lib.hid RN
              clear RN TN HA0
              have SD := Lib.hid SD
              go_wp2_with fail
              refine T1.out.mono ?_
              rintro e1 w2 ⟨rfl, hA2⟩
              have HA2 := Lib.hid hA2
              clear hA2 T1
              go_wp2_with fail
              refine (R1.out _).mono ?_
              rintro e1 w3 ⟨rfl, rfl⟩
              clear R1
              go_wp2_with fail
              go_meet
              case rel => exact Lib.hid ⟨IntKind.u64.wrap x, IntKind.u64.wrap x', ⟨#[]⟩, ⟨#[]⟩, st, E, q', rfl, rfl, rfl, rfl, rfl, rfl, hE, hst, .inl ⟨HE.out, SD.out.imp (fun h => ⟨by rw [h], rfl⟩) fun h => ⟨by rw [h]; rfl, rfl⟩, HA2.out⟩⟩
            · by_cases m2 : kd % 4 = 2
              · obtain ⟨x, x', st, E, q', hE, hst, RN, TN, SD⟩ := a_flt (p := p) (show s.size ≤ 1000000000 by omega) hq
                have T1 := Lib.hid (At.tri0 HA0 TN)
                have R1 := Lib.hid RN
                clear RN TN HA0
                have SD := Lib.hid SD
                go_wp2_with fail
                refine T1.out.mono ?_
                rintro e1 w2 ⟨rfl, hA2⟩
                have HA2 := Lib.hid hA2
                clear hA2 T1
                go_wp2_with (go_at_call 11; with_reducible refine (fl_bits _ _).mono ?_; rintro e1 w1 ⟨rfl, rfl⟩)
                refine (R1.out _).mono ?_
                rintro e1 w3 ⟨rfl, rfl⟩
                clear R1
                go_wp2_with fail
                go_meet
                case rel => exact Lib.hid ⟨x, x', ⟨#[]⟩, ⟨#[]⟩, st, E, q', rfl, rfl, rfl, rfl, rfl, rfl, hE, hst, .inl ⟨HE.out, SD.out.imp (fun h => ⟨congrArg Nat.cast h, rfl⟩) fun h => ⟨by rw [h]; rfl, rfl⟩, HA2.out⟩⟩
              · obtain ⟨x, x', st, E, q', hE, hst, RN, TN, SD⟩ := a_txt (p := p) (show s.size ≤ 1000000000 by omega) hq
                have T1 := Lib.hid (At.tri0 HA0 TN)
                have R1 := Lib.hid RN
                clear RN TN HA0
                have SD := Lib.hid SD
                go_wp2_with fail
                refine T1.out.mono ?_
                rintro e1 w2 ⟨rfl, hA2⟩
                have HA2 := Lib.hid hA2
                clear hA2 T1
                go_wp2_with fail
                refine (R1.out _).mono ?_
                rintro e1 w3 ⟨rfl, rfl⟩
                clear R1
                go_wp2_with fail
                go_meet
                case rel => exact Lib.hid ⟨0, 0, x, x', st, E, q', rfl, rfl, rfl, rfl, rfl, rfl, hE, hst, .inl ⟨HE.out, SD.out.imp (fun h => ⟨rfl, h⟩) fun h => ⟨rfl, h⟩, HA2.out⟩⟩
        · have he1 : e = 1 ∨ e = 2 ∨ e = 3 := by omega
          have HE1 := Lib.hid he1
          have HA1 := HA.out
          clear he0
          by_cases m0 : kd % 4 = 0
          · obtain ⟨x, x', st, E, q', hE, hst, RN, TN, SD⟩ := a_num (p := p) (show s.size ≤ 1000000000 by omega) hq
            have T1 := Lib.hid (At.ask1 HA1 (tp_num_old (p := p) (q := q) (s := s) he1))
            have R1 := Lib.hid RN
            clear RN TN SD he1
            go_wp2_with fail
            refine T1.out.mono ?_
            rintro e1 w2 ⟨rfl, rfl⟩
            clear T1
            go_wp2_with fail
            refine (R1.out _).mono ?_
            rintro e1 w3 ⟨rfl, rfl⟩
            clear R1
            go_wp2_with fail
            go_meet
            case rel => exact Lib.hid ⟨0, x', ⟨#[]⟩, ⟨#[]⟩, st, E, q, rfl, rfl, rfl, rfl, rfl, rfl, hE, hst, .inr ⟨HE1.out, rfl, rfl, rfl, HA.out⟩⟩
          · by_cases m1 : kd % 4 = 1
            · obtain ⟨x, x', st, E, q', hE, hst, RN, TN, SD⟩ := a_int (p := p) (show s.size ≤ 1000000000 by omega) hq
              have T1 := Lib.hid (At.ask1 HA1 (tp_int_old (p := p) (q := q) (s := s) he1))
              have R1 := Lib.hid RN
              clear RN TN SD he1
              go_wp2_with fail
              refine T1.out.mono ?_
              rintro e1 w2 ⟨rfl, rfl⟩
              clear T1
              go_wp2_with fail
              refine (R1.out _).mono ?_
              rintro e1 w3 ⟨rfl, rfl⟩
              clear R1
              go_wp2_with fail
              go_meet
              case rel => exact Lib.hid ⟨0, IntKind.u64.wrap x', ⟨#[]⟩, ⟨#[]⟩, st, E, q, rfl, rfl, rfl, rfl, rfl, rfl, hE, hst, .inr ⟨HE1.out, rfl, rfl, rfl, HA.out⟩⟩
            · by_cases m2 : kd % 4 = 2
              · obtain ⟨x, x', st, E, q', hE, hst, RN, TN, SD⟩ := a_flt (p := p) (show s.size ≤ 1000000000 by omega) hq
                have T1 := Lib.hid (At.ask1 HA1 (tp_flt_old (p := p) (q := q) (s := s) he1))
                have R1 := Lib.hid RN
                clear RN TN SD he1
                go_wp2_with fail
                refine T1.out.mono ?_
                rintro e1 w2 ⟨rfl, rfl⟩
                clear T1
                go_wp2_with (go_at_call 11; with_reducible refine (fl_bits _ _).mono ?_; rintro e1 w1 ⟨rfl, rfl⟩)
                refine (R1.out _).mono ?_
                rintro e1 w3 ⟨rfl, rfl⟩
                clear R1
                go_wp2_with fail
                go_meet
                case rel => exact Lib.hid ⟨0, x', ⟨#[]⟩, ⟨#[]⟩, st, E, q, rfl, rfl, rfl, rfl, rfl, rfl, hE, hst, .inr ⟨HE1.out, rfl, rfl, rfl, HA.out⟩⟩
              · obtain ⟨x, x', st, E, q', hE, hst, RN, TN, SD⟩ := a_txt (p := p) (show s.size ≤ 1000000000 by omega) hq
                have T1 := Lib.hid (At.ask1 HA1 (tp_txt_old (p := p) (q := q) (s := s) he1))
                have R1 := Lib.hid RN
                clear RN TN SD he1
                go_wp2_with fail
                refine T1.out.mono ?_
                rintro e1 w2 ⟨rfl, rfl⟩
                clear T1
                go_wp2_with fail
                refine (R1.out _).mono ?_
                rintro e1 w3 ⟨rfl, rfl⟩
                clear R1
                go_wp2_with fail
                go_meet
                case rel => exact Lib.hid ⟨0, 0, ⟨#[]⟩, x', st, E, q, rfl, rfl, rfl, rfl, rfl, rfl, hE, hst, .inr ⟨HE1.out, rfl, rfl, rfl, HA.out⟩⟩
      case rest =>
        have hqI : (q : Int) ≤ (s.size : Int) := by omega
        have hq9 : (q : Int) ≤ 1000000000 := by omega
        obtain ⟨x, x', y, y', st, E, q', rfl, rfl, rfl, rfl, rfl, rfl, hE, hst, hD⟩ := hcut.out
        clear hcut HA END cell hc0
        have hstI : (st : Int) ≤ 1000000000 := by omega
        rcases hD with ⟨he0, SD, hA⟩ | ⟨he1, rfl, rfl, rfl, hA⟩
        · have ez : ((e : Int) == 0) = true := by simp; omega
          clear he0 he
          rcases SD with ⟨hE0, ⟨rfl, rfl⟩, hq2, hq3⟩ | ⟨hE1, ⟨rfl, rfl⟩, rfl⟩
          · have Ez : ((E : Int) != 0) = false := by simp; omega
            have LF := Lib.hid (rd_left (show s.size ≤ 1000000000 by omega) hq3 hA.unit)
            have ER := Lib.hid (fun m => rd_err (At.unit (hA.drewN m)))
            have FIN : Hid (∀ m, Rst p s W (.int .i64 ((q : Int) + (st : Int))) (.int .i64 E) (wc.drewN m)) := Lib.hid fun m => ⟨q', E, by rw [hq2]; push_cast; rfl, rfl, hq3, hE, hA.drewN m⟩
            have hd : ((s.size - q' : Nat) : Int) = (s.size : Int) - ((q : Int) + (st : Int)) := by omega
            rw [hd] at LF
            have hb1 : (q : Int) + (st : Int) ≤ (s.size : Int) := by omega
            have z1 : (x != x) = false := by simp
            have z3 : ((s.size : Int) - ((q : Int) + (st : Int)) != (s.size : Int) - ((q : Int) + (st : Int))) = false := by simp
            have z4 : ((E : Int) != (E : Int)) = false := by simp
            clear hA hE0 hq2 hq3 hd
            go_wp2_with (first | (go_at_call 16; with_reducible refine LF.out.mono ?_; rintro e1 w2 ⟨rfl, m, rfl⟩) | (go_at_call 17; with_reducible refine (ER.out _).mono ?_; rintro e1 w2 ⟨rfl, rfl⟩))
            exact ⟨⟨k + 1, by omega, by go_num, Lib.hid (FIN.out _)⟩, by simp [intOf]; omega⟩
          · have Ez : ((E : Int) != 0) = true := by simp; omega
            have LF := Lib.hid (rd_left (show s.size ≤ 1000000000 by omega) hq hA.unit)
            have ER := Lib.hid (fun m => rd_err (At.unit (hA.drewN m)))
            have FIN : Hid (∀ m, Rst p s W (.int .i64 (q' : Int)) (.int .i64 E) (wc.drewN m)) := Lib.hid fun m => ⟨q', E, rfl, rfl, hq, hE, hA.drewN m⟩
            have hd : ((s.size - q' : Nat) : Int) = (s.size : Int) - (q' : Int) := by omega
            rw [hd] at LF
            have z3 : ((s.size : Int) - (q' : Int) != (s.size : Int) - (q' : Int)) = false := by simp
            have z4 : ((E : Int) != (E : Int)) = false := by simp
            clear hA hE1 hd
            go_wp2_with (first | (go_at_call 16; with_reducible refine LF.out.mono ?_; rintro e1 w2 ⟨rfl, m, rfl⟩) | (go_at_call 17; with_reducible refine (ER.out _).mono ?_; rintro e1 w2 ⟨rfl, rfl⟩))
            exact ⟨⟨k + 1, by omega, by go_num, Lib.hid (FIN.out _)⟩, by simp [intOf]; omega⟩
        · have ez : ((e : Int) == 0) = false := by simp; omega
          have Ez : ((e : Int) != 0) = true := by simp; omega
          have LF := Lib.hid (rd_left (show s.size ≤ 1000000000 by omega) hq hA.unit)
          have ER := Lib.hid (fun m => rd_err (At.unit (hA.drewN m)))
          have FIN : Hid (∀ m, Rst p s W (.int .i64 (q' : Int)) (.int .i64 e) (wc.drewN m)) := Lib.hid fun m => ⟨q', e, rfl, rfl, hq, he, hA.drewN m⟩
          have hd : ((s.size - q' : Nat) : Int) = (s.size : Int) - (q' : Int) := by omega
          rw [hd] at LF
          have z3 : ((s.size : Int) - (q' : Int) != (s.size : Int) - (q' : Int)) = false := by simp
          have z4 : ((e : Int) != (e : Int)) = false := by simp
          clear hA he1 hd he
          go_wp2_with (first | (go_at_call 16; with_reducible refine LF.out.mono ?_; rintro e1 w2 ⟨rfl, m, rfl⟩) | (go_at_call 17; with_reducible refine (ER.out _).mono ?_; rintro e1 w2 ⟨rfl, rfl⟩))
          exact ⟨⟨k + 1, by omega, by go_num, Lib.hid (FIN.out _)⟩, by simp [intOf]; omega⟩
    · obtain rfl : k = len := by omega
      have hltI : ¬ (k : Int) < (k : Int) := by omega
      have L0 := Lib.hid (END.out wr)
      have B := Lib.hid hA.below
      have SZ := Lib.hid hA.size
      clear hA cell END
      go_wp2_with (go_at_call 5; refine L0.out.mono ?_; rintro e w3 ⟨rfl, hb⟩)
      go_ret
      exact ⟨rfl, Below.step B.out hb SZ.out⟩

theorem reads_law (s : ByteArray) (hss : s.size ≤ maxLen) (a : Option Addr) (len cap : Nat) (zs : List Int) (W : World) (hrow : IntRow .u8 W a len cap zs) :
    Calls Try.prog 3 #[.string s, .slice a len cap] W fun e W' => e = .returned (.bool true) ∧ Below W.heap.size W W' := by
  have h1 := hrow.lc
  have h2 := hrow.cm
  unfold maxLen at h2 hss
  by_cases h : 3000 < s.size ∨ 200 < len
  · exact reads_long s a len cap (by omega) (by omega) h W
  · exact reads_short s a len cap zs (by omega) (by omega) W hrow

end Go.Proofs.Ytfgdfhcefgblaaa
