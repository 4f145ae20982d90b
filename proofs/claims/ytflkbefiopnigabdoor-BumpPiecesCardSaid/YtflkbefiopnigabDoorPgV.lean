/- A page map of any pages (layer 8): Put, Drop, Move, New. -/
import Derived.Test.YtflkbefiopnigabDoorPgU
namespace Go.Proofs.YtflkbefiopnigabDoor.PT
open Go.ChangeShapes Go.WideShapes Go.ChangeAt Go.RowKit

theorem QS.put_ok {s : QS} (h : s.ok) (p v : Nat) (d : Int) (hv : v ≤ 2147483648) (h1 : -1000000 ≤ s.tot + d) (h2 : s.tot + d ≤ 1000000) : (s.put p v d).ok :=
  ⟨h.p1, h.p2, h1, h2, fun k => by
    show upd s.fr p v k ≤ _
    unfold upd
    split
    · exact hv
    · exact h.fb k⟩

theorem pm_put_ok {c : Nat} {s : QS} (hs : s.ok) (k f : Nat) (hk : k < s.pages) (hz : s.fr k = 0) (hf : f ≤ 2147483647) (ht : s.tot ≤ 900000) : Tri1 Tryd.prog 60 #[.pointer (some ⟨c, 0, none⟩), .int .i64 k, .int .i64 f] (pmA c s) (.int .i64 0) (pmA c (s.put k (f + 1) 1)) := by
  intro w S h
  have CK := Lib.hid (pm_check_ok hs k hk w S h)
  have MP := pm_mapped hs k hk w S h
  rw [hz] at MP
  have MP := Lib.hid MP
  have ST := Lib.hid (pm_set hs k f hk hz hf ht w S h)
  clear h hs hk hz ht
  go_enter Tryd.func60, Tryd.ntmps60
  go_wp2_with (first | (go_at_call 92; refine CK.out.mono ?_; rintro e1 w1 ⟨rfl, rfl⟩) | (go_at_call 93; refine MP.out.mono ?_; rintro e1 w1 ⟨rfl, rfl⟩) | (go_at_call 94; refine ST.out.mono ?_; rintro e1 w1 ⟨rfl, hA⟩))
  go_ret
  exact ⟨rfl, hA⟩

theorem pm_put_mapped {c : Nat} {s : QS} (hs : s.ok) (k f : Nat) (hk : k < s.pages) (hz : s.fr k ≠ 0) (hf : f ≤ 2147483647) : Ask Tryd.prog 60 #[.pointer (some ⟨c, 0, none⟩), .int .i64 k, .int .i64 f] (pmA c s) (.int .i64 13) := by
  intro w S h
  have CK := Lib.hid (pm_check_ok hs k hk w S h)
  have MP := pm_mapped hs k hk w S h
  rw [show (s.fr k != 0) = true by simpa using hz] at MP
  have MP := Lib.hid MP
  clear h hs hk hz
  go_enter Tryd.func60, Tryd.ntmps60
  go_wp2_with (first | (go_at_call 92; refine CK.out.mono ?_; rintro e1 w1 ⟨rfl, rfl⟩) | (go_at_call 93; refine MP.out.mono ?_; rintro e1 w1 ⟨rfl, rfl⟩))
  go_ret
  exact ⟨rfl, rfl⟩

theorem pm_drop_none {c : Nat} {s : QS} (hs : s.ok) (k : Nat) (hk : k < s.pages) (hz : s.fr k = 0) : Ask Tryd.prog 61 #[.pointer (some ⟨c, 0, none⟩), .int .i64 k] (pmA c s) (.tuple #[.int .i64 0, .int .i64 12]) := by
  intro w S h
  have FR := Lib.hid (pm_frame_none hs k hk hz w S h)
  clear h hs hk hz
  go_enter Tryd.func61, Tryd.ntmps61
  go_wp2_with (go_at_call 58; refine FR.out.mono ?_; rintro e1 w1 ⟨rfl, rfl⟩)
  go_ret2
  exact ⟨rfl, rfl⟩

set_option maxHeartbeats 1000000 in
theorem pm_drop_ok {c : Nat} {s : QS} (hs : s.ok) (k : Nat) (hk : k < s.pages) (hz : s.fr k ≠ 0) (ht : -900000 ≤ s.tot) : Tri1 Tryd.prog 61 #[.pointer (some ⟨c, 0, none⟩), .int .i64 k] (pmA c s) (.tuple #[.int .i64 ((s.fr k : Int) - 1), .int .i64 0]) (pmA c (s.put k 0 (-1))) := by
  intro w S h
  have FR := Lib.hid (pm_frame_ok hs k hk hz w S h)
  obtain ⟨b, ad, hX⟩ := pm_open (At.refl h)
  obtain ⟨i, j, rfl, hj, hi⟩ := ij s k hk
  have e1 : ((i * 512 + j : Nat) : Int) / 512 = i := by omega
  have e2 : ((i * 512 + j : Nat) : Int) % 512 = j := by omega
  have ntl := nt_le hs
  have hkb : ((i * 512 + j : Nat) : Int) < 524288 := by have := hs.p2; omega
  have hk0 : (0 : Int) ≤ ((i * 512 + j : Nat) : Int) := by omega
  have tb1 := hs.t1
  have tb2 := hs.t2
  have hc5 := cntN_le s.fr i
  have hoff := cntN_off s.fr i j hj hz
  cases had : ad i with
  | none =>
    rw [pmX_at c s b ad i hi, had] at hX
    have z : cntN s.fr i = 0 := At.purIs (hX.re (B := pur (cntN s.fr i = 0) * (blk c (hdr s b) * (row b 137 s.nt (fun i => ptr (ad i)) * rest s ad i))) (by show _ * (_ * (pur _ * _)) = _; ac_rfl))
    omega
  | some T =>
    rw [pmO_of hi had] at hX
    obtain ⟨hh, hr, ht, u1, u2, u3⟩ := pmO_facts hX
    obtain ⟨c0, c1, c2, f0, f1, f2⟩ := pcells hh
    have b0 : w.cell? ⟨b, i, none⟩ = some (.pointer (some ⟨T, 0, none⟩)) := by have := hr.cell (i := i) hi; rw [had] at this; exact this
    have bz := hr.frozen i
    have t0 := ht.cell (i := j) (by omega)
    have t1 := ht.cell (i := 512) (by omega)
    rw [zt _ _ _ hj] at t0
    rw [zt2] at t1
    have tz0 := ht.frozen j
    have tz1 := ht.frozen 512
    have PS := pm_store hi hj had hX 0 (-1) ((cntN s.fr i : Nat) - 1) (by omega)
    have PN := fun hz => pmA_of (pm_nil (s := s.put (i * 512 + j) 0 (-1)) hi had hz PS)
    have et : s.tot + -1 = s.tot - 1 := by omega
    rw [et] at PS PN
    have e0 : ((0 : Nat) : Int) = 0 := rfl
    rw [e0] at PS PN
    have FIN := Lib.hid (pmA_of PS)
    have FIN2 : cntN s.fr i = 1 → _ := fun h1 => PN (by show cntN (upd s.fr (i * 512 + j) 0) i = 0; omega)
    have FI2 := Lib.hid FIN2
    generalize hkk : ((i * 512 + j : Nat) : Int) = kk at *
    generalize ((s.fr (i * 512 + j) : Nat) : Int) = fp at *
    have u4 : ¬ b = c := fun e => u1 e.symm
    have u5 : ¬ T = c := fun e => u2 e.symm
    have u6 : ¬ T = b := fun e => u3 e.symm
    have u7 : ¬ j = 512 := by omega
    have u8 : ¬ 512 = j := by omega
    have hc5I : ((cntN s.fr i : Nat) : Int) ≤ 512 := by omega
    have hc6I : (1 : Int) ≤ ((cntN s.fr i : Nat) : Int) := by omega
    clear hX h hh hr ht hs had hz hoff hkk et PS PN FIN2
    by_cases h1 : cntN s.fr i = 1
    · have FI := Lib.hid (FI2.out h1)
      have h1I : ((cntN s.fr i : Nat) : Int) = 1 := by omega
      have h2I : ((cntN s.fr i : Nat) : Int) - 1 = 0 := by omega
      clear FIN FI2 h1 hc5
      rw [h2I] at FI
      rw [h1I] at t1
      clear h2I h1I hc5I hc6I
      go_enter Tryd.func61, Tryd.ntmps61
      go_wp2_with (go_at_call 58; refine FR.out.mono ?_; rintro e1 w1 ⟨rfl, rfl⟩)
      go_ret2
      exact ⟨rfl, FI.out⟩
    · have h1I : ¬ ((cntN s.fr i : Nat) : Int) - 1 = 0 := by omega
      clear FI2 h1 hc5
      generalize ((cntN s.fr i : Nat) : Int) = cn at *
      go_enter Tryd.func61, Tryd.ntmps61
      go_wp2_with (go_at_call 58; refine FR.out.mono ?_; rintro e1 w1 ⟨rfl, rfl⟩)
      go_ret2
      exact ⟨rfl, FIN.out⟩

theorem pm_move_un {c : Nat} {s : QS} (hs : s.ok) (k q : Nat) (hk : k < s.pages) (hq : q < s.pages) (hz : s.fr k = 0) : Ask Tryd.prog 63 #[.pointer (some ⟨c, 0, none⟩), .int .i64 k, .int .i64 q] (pmA c s) (.int .i64 12) := by
  intro w S h
  have CK := Lib.hid (pm_check_ok hs k hk w S h)
  have CQ := Lib.hid (pm_check_ok hs q hq w S h)
  have MP := pm_mapped hs k hk w S h
  rw [hz] at MP
  have MP := Lib.hid MP
  clear h hs hk hz hq
  go_enter Tryd.func63, Tryd.ntmps63
  go_wp2_with (first | (go_at_call 92; (first | with_reducible refine CK.out.mono ?_ | with_reducible refine CQ.out.mono ?_); rintro e1 w1 ⟨rfl, rfl⟩) | (go_at_call 93; refine MP.out.mono ?_; rintro e1 w1 ⟨rfl, rfl⟩))
  go_ret
  exact ⟨rfl, rfl⟩

theorem pm_move_mapped {c : Nat} {s : QS} (hs : s.ok) (k q : Nat) (hk : k < s.pages) (hq : q < s.pages) (hz : s.fr k ≠ 0) (hz2 : s.fr q ≠ 0) : Ask Tryd.prog 63 #[.pointer (some ⟨c, 0, none⟩), .int .i64 k, .int .i64 q] (pmA c s) (.int .i64 13) := by
  intro w S h
  have CK := Lib.hid (pm_check_ok hs k hk w S h)
  have CQ := Lib.hid (pm_check_ok hs q hq w S h)
  have MP := pm_mapped hs k hk w S h
  have MQ := pm_mapped hs q hq w S h
  rw [show (s.fr k != 0) = true by simpa using hz] at MP
  rw [show (s.fr q != 0) = true by simpa using hz2] at MQ
  have MP := Lib.hid MP
  have MQ := Lib.hid MQ
  clear h hs hk hz hq hz2
  go_enter Tryd.func63, Tryd.ntmps63
  go_wp2_with (first | (go_at_call 92; (first | with_reducible refine CK.out.mono ?_ | with_reducible refine CQ.out.mono ?_); rintro e1 w1 ⟨rfl, rfl⟩) | (go_at_call 93; (first | with_reducible refine MP.out.mono ?_ | with_reducible refine MQ.out.mono ?_); rintro e1 w1 ⟨rfl, rfl⟩))
  go_ret
  exact ⟨rfl, rfl⟩

theorem pm_move_ok {c : Nat} {s : QS} (hs : s.ok) (k q : Nat) (hk : k < s.pages) (hq : q < s.pages) (hz : s.fr k ≠ 0) (hz2 : s.fr q = 0) (ht1 : -900000 ≤ s.tot) (ht2 : s.tot ≤ 900000) : Tri1 Tryd.prog 63 #[.pointer (some ⟨c, 0, none⟩), .int .i64 k, .int .i64 q] (pmA c s) (.int .i64 0) (pmA c ((s.put k 0 (-1)).put q (s.fr k) 1)) := by
  intro w S h
  have CK := Lib.hid (pm_check_ok hs k hk w S h)
  have CQ := Lib.hid (pm_check_ok hs q hq w S h)
  have MP := pm_mapped hs k hk w S h
  have MQ := pm_mapped hs q hq w S h
  rw [show (s.fr k != 0) = true by simpa using hz] at MP
  rw [hz2] at MQ
  have MP := Lib.hid MP
  have MQ := Lib.hid MQ
  have DR := Lib.hid ((At.refl h).tri0 (pm_drop_ok hs k hk hz ht1))
  have fb := hs.fb k
  have hs2 := QS.put_ok hs k 0 (-1) (by omega) (by omega) (by omega)
  have ST := pm_set (c := c) hs2 q (s.fr k - 1) hq (by
    show upd s.fr k 0 q = 0
    unfold upd
    by_cases e : q = k
    · rw [if_pos e]
    · rw [if_neg e]; exact hz2) (by omega) (by show s.tot + -1 ≤ _; omega)
  rw [show s.fr k - 1 + 1 = s.fr k by omega] at ST
  have ef : ((s.fr k - 1 : Nat) : Int) = (s.fr k : Int) - 1 := by omega
  rw [ef] at ST
  have ST := Lib.hid ST
  generalize ((s.fr k : Nat) : Int) - 1 = fp at *
  clear h hs hk hz hq hz2 hs2 ef fb
  go_enter Tryd.func63, Tryd.ntmps63
  go_wp2_with (first | (go_at_call 92; (first | with_reducible refine CK.out.mono ?_ | with_reducible refine CQ.out.mono ?_); rintro e1 w1 ⟨rfl, rfl⟩) | (go_at_call 93; (first | with_reducible refine MP.out.mono ?_ | with_reducible refine MQ.out.mono ?_); rintro e1 w1 ⟨rfl, rfl⟩) | (go_at_call 61; refine DR.out.mono ?_; rintro e1 w2 ⟨rfl, hA⟩) | (go_at_call 94; refine (hA.tri0 ST.out).mono ?_; rintro e1 w3 ⟨rfl, hB⟩))
  go_ret
  exact ⟨rfl, hB⟩

theorem infTab : (Tryd.prog.info? 137).map (fun i => (i.zero, i.size, i.bytes)) = some (some (.pointer none), 1, 8) := by kernel_rfl

def newQ (n : Nat) : QS := { pages := n, tot := 0, fr := fun _ => 0 }

theorem newQ_ok (n : Nat) (h1 : 1 ≤ n) (h2 : n ≤ 524288) : (newQ n).ok := ⟨h1, h2, by show (-1000000 : Int) ≤ 0; omega, by show (0 : Int) ≤ 1000000; omega, fun _ => Nat.zero_le _⟩

theorem cntN_none (i : Nat) : cntN (fun _ => 0) i = 0 := by
  unfold cntN
  have : ∀ n, cnt (fun _ => (0 : Nat) != 0) n = 0 := fun n => by
    induction n with
    | zero => rfl
    | succ n ih => unfold cnt; rw [ih]; rfl
  exact this 512

theorem pm_new_fin {w0 w : World} {S : Nat → Prop} (n : Nat) (h : At (pur True) w0 S w) : At (pmA (w.heap.size + 1) (newQ n)) w0 S
    ((w.alloc (.cells (madeCells #[.pointer none] (newQ n).nt) 137)).alloc (hdr (newQ n) w.heap.size)) := by
  refine pmA_of (b := w.heap.size) (ad := fun _ => none) ?_
  have h2 := ((h.made (.pointer none) (newQ n).nt 137).alloc (hdr (newQ n) w.heap.size))
  rw [show (w.alloc (.cells (madeCells #[.pointer none] (newQ n).nt) 137)).heap.size = w.heap.size + 1 by simp] at h2
  refine h2.re ?_
  unfold pmX
  have e : allA (newQ n).nt (fun i => tabA (newQ n).fr i none) = pur True := by
    rw [allA_congr (newQ n).nt (g := fun _ => pur True) (fun j _ => by
      show pur (cntN (fun _ => 0) j = 0) = pur True
      rw [cntN_none]; simp)]
    exact allA_ones _
  rw [e]
  rfl

set_option maxRecDepth 20000 in
theorem pm_new (n : Nat) (h1 : 1 ≤ n) (h2 : n ≤ 524288) : Tri Tryd.prog 53 #[.int .i64 n] (pur True) (fun p : Nat => .tuple #[.pointer (some ⟨p, 0, none⟩), .int .i64 0]) (fun p => pmA p (newQ n)) := by
  intro w S h
  have FIN := Lib.hid (pm_new_fin n (At.refl h))
  have en : ((n : Int) + 512 - 1) / 512 = ((newQ n).nt : Nat) := by show _ = (((n + 511) / 512 : Nat) : Int); omega
  have nl : ((newQ n).nt : Int) ≤ 1024 := by show (((n + 511) / 512 : Nat) : Int) ≤ 1024; omega
  have nl0 : (newQ n).nt ≤ 1024 := by omega
  unfold hdr at FIN
  have ep : (newQ n).pages = n := rfl
  have et : (newQ n).tot = 0 := rfl
  rw [ep, et] at FIN
  generalize (newQ n).nt = m at *
  have MK := fun w => run_make_row' (P := Tryd.prog) 127 137 (.pointer none) 8 Tryd.underlying127 infTab rfl .i64 .i64 m (by omega) (by omega) w
  clear h ep et
  go_enter Tryd.func53, Tryd.ntmps53
  go_wp2
  go_ret2
  exact ⟨_, rfl, FIN.out⟩

end Go.Proofs.YtflkbefiopnigabDoor.PT
