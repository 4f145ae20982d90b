/- The law VmemKeeps, walked. -/
import Derived.Test.YtflkbefiopnigabDoorVmP
import Derived.Test.YtflkbefiopnigabDoorVmG
import Derived.Test.YtflkbefiopnigabDoorRecs
namespace Go.Proofs.YtflkbefiopnigabDoor.VM
open Go.ChangeShapes Go.WideShapes Go.ChangeAt Go.RowKit
open PT (QS upd pmA newQ)

theorem kcells4 {w : World} {b : Nat} {x0 x1 x2 x3 : Value} {t : TypeId} (h : w.heap[b]? = some (.cells #[x0, x1, x2, x3] t (0, 0))) :
    w.cell? ⟨b, 0, none⟩ = some x0 ∧ w.cell? ⟨b, 1, none⟩ = some x1 ∧ w.cell? ⟨b, 2, none⟩ = some x2 ∧ w.cell? ⟨b, 3, none⟩ = some x3 := by
  simp [World.cell?, h]

def kA (c X : Nat) (m : MV) (f0 f1 f2 f3 : Int) : Asn := memA c m * blk X (.cells #[.int .u8 f0, .int .i64 f1, .int .i64 f2, .int .u64 f3] 33 (0, 0))

theorem kA_box {w0 w : World} {S : Nat → Prop} {c X : Nat} {m : MV} {f0 f1 f2 f3 : Int} (h : At (kA c X m f0 f1 f2 f3) w0 S w) :
    w.cell? ⟨X, 0, none⟩ = some (.int .u8 f0) ∧ w.cell? ⟨X, 1, none⟩ = some (.int .i64 f1) ∧ w.cell? ⟨X, 2, none⟩ = some (.int .i64 f2) ∧ w.cell? ⟨X, 3, none⟩ = some (.int .u64 f3) :=
  kcells4 (At.blkIs (A := memA c m) (h.re (by unfold kA; ac_rfl)))

/-- the page that is asked for -/
theorem k_pg (x : Int) (n : Nat) (h1 : 1 ≤ n) (h2 : n ≤ 4096) : ∃ j : Nat, j < n ∧ wrap64 ((IntKind.u64.wrap x).tmod n) = (j : Int) := by
  have h0 : ∃ m : Nat, IntKind.u64.wrap x = m := by
    refine ⟨(IntKind.u64.wrap x).toNat, ?_⟩
    have : 0 ≤ IntKind.u64.wrap x := by unfold IntKind.wrap; simp [IntKind.bits, IntKind.signed]; omega
    omega
  obtain ⟨m, hm⟩ := h0
  rw [hm]
  have : (m : Int).tmod (n : Int) = ((m % n : Nat) : Int) := by
    rw [Int.tmod_eq_emod_of_nonneg (by omega)]; rfl
  rw [this]
  have hlt := Nat.mod_lt m (show 0 < n by omega)
  refine ⟨m % n, hlt, ?_⟩
  generalize m % n = q at *
  unfold wrap64
  omega

set_option maxRecDepth 100000 in
theorem vkeeps_long (x0 x1 : Int) (a : Option Addr) (len cap : Nat) (hl : len ≤ cap) (hc : cap ≤ 9223372036854775807) (h : 150 < len) (W : World) (hT : Tab W) :
    Calls Tryd.prog 3 #[.int .u16 x0, .int .u64 x1, .slice a len cap] W fun e W' => e = .returned (.bool true) ∧ Below W.heap.size W W' := by
  have L := Lib.hid vlives
  have HT := Lib.hid hT
  clear hT
  go_enter Tryd.func3, Tryd.ntmps3
  go_wp2_with (go_at_call 9; refine (L.out _ HT.out).mono ?_; rintro e1 w1 ⟨rfl, hb⟩)
  go_ret
  exact ⟨rfl, hb⟩

set_option maxHeartbeats 8000000 in
set_option maxRecDepth 100000 in
theorem vkeeps_short (P J : Nat) (hP : P < 4096) (hJ : J < 16) (x1 : Int) (a : Option Addr) (len cap : Nat) (F : Nat → Nat → Int) (hl : len ≤ 150) (W : World) (hT : Tab W) (hrow : RecRow [.u8, .i64, .i64, .u64] W a len cap F) :
    Calls Tryd.prog 3 #[.int .u16 (P * 16 + J : Nat), .int .u64 x1, .slice a len cap] W fun e W' => e = .returned (.bool true) ∧ Below W.heap.size W W' := by
  have hcl : len ≤ cap := hrow.lc
  have hcm : cap ≤ 9223372036854775807 := by have := hrow.cm; unfold maxLen at this; omega
  have cell : Hid (∀ wr, Below W.heap.size W wr → ∀ j, j < len → ∃ q off, a = some ⟨q, off, none⟩ ∧ wr.cell? ⟨q, off + j * 4, none⟩ = some (.int .u8 (F j 0)) ∧ wr.cell? ⟨q, off + j * 4 + 1, none⟩ = some (.int .i64 (F j 1)) ∧ wr.cell? ⟨q, off + j * 4 + 2, none⟩ = some (.int .i64 (F j 2)) ∧ wr.cell? ⟨q, off + j * 4 + 3, none⟩ = some (.int .u64 (F j 3)) ∧ 0 ≤ F j 0 ∧ F j 0 ≤ 255) := Lib.hid <| by
    intro wr hb j hj
    obtain ⟨q, off, ha, hq, hc⟩ := hrow.at_ j hj
    have b0 := bounds_u8 (hrow.wf j hj 0 _ rfl)
    exact ⟨q, off, ha, (hb.cell (p := ⟨q, _, none⟩) hq).trans (hc 0 _ rfl), (hb.cell (p := ⟨q, _, none⟩) hq).trans (hc 1 _ rfl), (hb.cell (p := ⟨q, _, none⟩) hq).trans (hc 2 _ rfl), (hb.cell (p := ⟨q, _, none⟩) hq).trans (hc 3 _ rfl), b0.1, b0.2⟩
  clear hrow
  have p16 : powP 16 := by unfold powP; omega
  have m0 := newM_ok 65536 16 100 (by omega) (by omega) p16 (by omega) (by omega) (by decide)
  have N := Lib.hid (vm_new_ok 65536 16 100 (by omega) (by omega) p16 (by omega) (by omega) (by decide) W hT (fun _ => False) ⟨trivial, fun _ => id⟩)
  have hd1 : (P * 16 + J) / 16 = P := by omega
  have hn1 : needN (newM 65536 16 100) (P * 16 + J) (P * 16 + J + 1) = 1 := by
    show (P * 16 + J + 1 - 1) / 16 - (P * 16 + J) / 16 + 1 = 1
    rw [Nat.add_sub_cancel]; omega
  have nf : needFits (newM 65536 16 100) P 1 := fun j hj => by
    have : j = 0 := by omega
    subst this
    exact .inr (by show (0 : Nat) < 100; omega)
  have T1 := fun c => vm_need_ok (p := c) m0 (P * 16 + J) (P * 16 + J + 1) (by omega) (by show P * 16 + J + 1 ≤ 65536; omega) (by
    rw [hn1]
    show needFits _ ((P * 16 + J) / 16) 1
    rw [hd1]; exact nf)
  rw [hn1, show (P * 16 + J) / (newM 65536 16 100).page = P from hd1] at T1
  have o1 : ((newM 65536 16 100).map P).ok := m0.map P (by show P < 65536 / 16; omega) (by show (0 : Nat) < 100; omega)
  have em : needM (newM 65536 16 100) P 1 = (newM 65536 16 100).map P := rfl
  rw [em] at T1
  have mp1 : ((newM 65536 16 100).map P).mp P = true := by show (if P = P then true else false) = true; rw [if_pos rfl]
  have T2 := fun c => vm_store_ok (p := c) o1 P J x1 mp1 hJ
  have o2 := o1.put P J x1
  have START : Hid (∀ c w', At (memA c (((newM 65536 16 100).map P).put P J x1)) W (fun _ => False) w' → ∃ m : MV, m.ok ∧ m.words = 65536 ∧ m.page = 16 ∧ m.room = 100 ∧ m.mp P = true ∧ m.val P J = x1 ∧ At (memA c m) W (fun _ => False) w') := Lib.hid fun c w' h => ⟨_, o2, rfl, rfl, rfl, mp1, by
    show (if P = P then fun i => if i = J then x1 else _ else _) J = x1
    rw [if_pos rfl, if_pos rfl], h⟩
  have hpj : ((P * 16 + J + 1 : Nat) : Int) = ((P * 16 + J : Nat) : Int) + 1 := by omega
  rw [hpj] at T1
  have T1 := Lib.hid T1
  have T2 := Lib.hid (show ∀ c, Tri1 Tryd.prog 12 #[.pointer (some ⟨c, 0, none⟩), .int .i64 (P * 16 + J : Nat), .int .u64 x1] (memA c ((newM 65536 16 100).map P)) (.int .i64 0) (memA c (((newM 65536 16 100).map P).put P J x1)) from T2)
  generalize ((newM 65536 16 100).map P).put P J x1 = m2 at *
  generalize (newM 65536 16 100).map P = m1 at *
  generalize newM 65536 16 100 = m00 at *
  have HT := Lib.hid hT
  have hdv : (((P * 16 + J : Nat) : Int)) / 16 = (P : Int) := by omega
  have hdt : (((P * 16 + J : Nat) : Int)).tdiv 16 = (P : Int) := by rw [Int.tdiv_eq_ediv_of_nonneg (by omega)]; exact hdv
  have hbd : P * 16 + J < 65536 := by omega
  obtain ⟨A, hA⟩ : ∃ A, P * 16 + J = A := ⟨_, rfl⟩
  rw [hA] at hdv hdt T1 T2 hbd ⊢
  have HA := Lib.hid hA
  clear o1 o2 m0 p16 em mp1 nf hn1 hd1 hT hA hpj
  go_enter Tryd.func3, Tryd.ntmps3
  go_wp2_with fail
  refine N.out.mono ?_
  rintro e w1 ⟨c, rfl, a1⟩
  have C1 := Lib.hid (a1.tri0 (T1.out c))
  clear a1 N T1
  go_wp2_with fail
  refine C1.out.mono ?_
  rintro e w2 ⟨rfl, a2⟩
  have C2 := Lib.hid (a2.tri0 (T2.out c))
  clear a2 C1 T2
  go_wp2_with fail
  refine C2.out.mono ?_
  rintro e w3 ⟨rfl, a3⟩
  have A0 := Lib.hid (START.out c _ a3)
  clear a3 C2 START
  go_wp2_with fail
  go_loopw [45] (fun i wr => ∃ (k : Nat), k ≤ len ∧ i = .int .i64 k ∧ Hid (∃ m : MV, m.ok ∧ m.words = 65536 ∧ m.page = 16 ∧ m.room = 100 ∧ m.mp P = true ∧ m.val P J = x1 ∧ At (memA c m) W (fun _ => False) wr)) (fun i _ => len - (intOf i).toNat)
  case atStart => exact ⟨0, Nat.zero_le _, rfl, A0⟩
  case round =>
    clear A0
    obtain ⟨k, hk, rfl, HR⟩ := hrel
    obtain ⟨m, hm, hm1, hm2, hm3, hm4, hm5, hmA⟩ := HR.out
    clear HR
    by_cases hlt : k < len
    · obtain ⟨q, off, rfl, hc0, hc1, hc2, hc3, hK0, hK1⟩ := cell.out wr hmA.below k hlt
      have hltI : (k : Int) < (len : Int) := by omega
      generalize F k 0 = f0 at *
      generalize F k 1 = f1 at *
      generalize F k 2 = f2 at *
      generalize F k 3 = f3 at *
      have A2 : At (kA c wr.heap.size m f0 f1 f2 f3) W (fun _ => False) (wr.alloc (.cells #[.int .u8 f0, .int .i64 f1, .int .i64 f2, .int .u64 f3] 33)) := (hmA.alloc _).re (by unfold kA; ac_rfl)
      obtain ⟨by0, by1, by2, by3⟩ := kA_box A2
      clear hmA
      obtain ⟨X, hX⟩ : ∃ X, wr.heap.size = X := ⟨_, rfl⟩
      rw [hX] at A2 by0 by1 by2 by3
      obtain ⟨p1, hp1, ep1⟩ := k_pg f1 4096 (by omega) (by omega)
      obtain ⟨p2, hp2, ep2⟩ := k_pg f2 4096 (by omega) (by omega)
      have ep1 : wrap64 ((IntKind.u64.wrap f1).tmod 4096) = (p1 : Int) := ep1
      have ep2 : wrap64 ((IntKind.u64.wrap f2).tmod 4096) = (p2 : Int) := ep2
      have EP1 := Lib.hid ep1
      have EP2 := Lib.hid ep2
      clear ep1 ep2
      go_wp2_with fail
      go_quiet (fail)
      rw [EP1.out, EP2.out]
      have A3 := A2.drewN nq
      clear A2 by0 by1 by2 by3
      obtain ⟨wz, hwz⟩ : ∃ wz, (wr.alloc (.cells #[.int .u8 f0, .int .i64 f1, .int .i64 f2, .int .u64 f3] 33)).drewN nq = wz := ⟨_, rfl⟩
      rw [hwz] at A3 ⊢
      clear hwz
      obtain ⟨by0, by1, by2, by3⟩ := kA_box A3
      have HM2 := Lib.hid hm2
      have HA3 := Lib.hid A3
      clear A3
      by_cases hpP : p1 = P
      · have hpI : (p1 : Int) = (P : Int) := by omega
        have FIN := Lib.hid (At.dropr HA3.out)
        clear HA3 HM2 by0 by1 by2 by3
        go_wp2_with fail
        exact ⟨⟨k + 1, by omega, by go_num, Lib.hid ⟨m, hm, hm1, hm2, hm3, hm4, hm5, FIN.out⟩⟩, by simp [intOf]; omega⟩
      have hpI : ¬ (p1 : Int) = (P : Int) := by omega
      have hpg : m.pages = 4096 := by show m.words / m.page = 4096; rw [hm1, hm2]
      by_cases k0 : f0 % 8 = 0
      · obtain ⟨ve, m', K, T⟩ := kp_map hm p1 (by omega) hpP c
        have C1 := Lib.hid (At.tri1 HA3.out T)
        have LD0 := vm_load_ok (p := c) K.ok P J (by rw [K.mp]; exact hm4) (by rw [K.page, hm2]; exact hJ)
        have ea : P * m'.page + J = A := by rw [K.page, hm2]; exact HA.out
        have ev : m'.val P J = x1 := by rw [K.val, hm5]
        rw [ea, ev] at LD0
        have LD := Lib.hid LD0
        have KH : Hid (m'.ok ∧ m'.words = 65536 ∧ m'.page = 16 ∧ m'.room = 100 ∧ m'.mp P = true ∧ m'.val P J = x1) := Lib.hid ⟨K.ok, by rw [K.words, hm1], by rw [K.page, hm2], by rw [K.room, hm3], by rw [K.mp]; exact hm4, ev⟩
        clear HA3 LD0 ea ev K T hm hm1 hm2 hm3 hm4 hm5
        have z1 : (x1 != x1) = false := by simp
        go_wp2_with fail
        refine C1.out.mono ?_
        rintro e w2 ⟨rfl, a4⟩
        have CL := Lib.hid (At.look a4 LD.out)
        have FIN := Lib.hid (fun n => (At.drewN a4 n).dropr)
        clear a4 C1 by0 by1 by2 by3
        go_wp2_with fail
        refine CL.out.mono ?_
        rintro e w5 ⟨rfl, n5, rfl⟩
        go_wp2_with fail
        exact ⟨⟨k + 1, by omega, by go_num, Lib.hid ⟨m', KH.out.1, KH.out.2.1, KH.out.2.2.1, KH.out.2.2.2.1, KH.out.2.2.2.2.1, KH.out.2.2.2.2.2, FIN.out _⟩⟩, by simp [intOf]; omega⟩
      by_cases k5 : f0 % 8 = 5
      · obtain ⟨ve, m', K, T⟩ := kp_map hm p1 (by omega) hpP c
        have C1 := Lib.hid (At.tri1 HA3.out T)
        have LD0 := vm_load_ok (p := c) K.ok P J (by rw [K.mp]; exact hm4) (by rw [K.page, hm2]; exact hJ)
        have ea : P * m'.page + J = A := by rw [K.page, hm2]; exact HA.out
        have ev : m'.val P J = x1 := by rw [K.val, hm5]
        rw [ea, ev] at LD0
        have LD := Lib.hid LD0
        have KH : Hid (m'.ok ∧ m'.words = 65536 ∧ m'.page = 16 ∧ m'.room = 100 ∧ m'.mp P = true ∧ m'.val P J = x1) := Lib.hid ⟨K.ok, by rw [K.words, hm1], by rw [K.page, hm2], by rw [K.room, hm3], by rw [K.mp]; exact hm4, ev⟩
        clear HA3 LD0 ea ev K T hm hm1 hm2 hm3 hm4 hm5
        have z1 : (x1 != x1) = false := by simp
        go_wp2_with fail
        refine C1.out.mono ?_
        rintro e w2 ⟨rfl, a4⟩
        have CL := Lib.hid (At.look a4 LD.out)
        have FIN := Lib.hid (fun n => (At.drewN a4 n).dropr)
        clear a4 C1 by0 by1 by2 by3
        go_wp2_with fail
        refine CL.out.mono ?_
        rintro e w5 ⟨rfl, n5, rfl⟩
        go_wp2_with fail
        exact ⟨⟨k + 1, by omega, by go_num, Lib.hid ⟨m', KH.out.1, KH.out.2.1, KH.out.2.2.1, KH.out.2.2.2.1, KH.out.2.2.2.2.1, KH.out.2.2.2.2.2, FIN.out _⟩⟩, by simp [intOf]; omega⟩
      by_cases k1 : f0 % 8 = 1
      · obtain ⟨ve, m', K, T⟩ := kp_unmap hm p1 (by omega) hpP c
        have C1 := Lib.hid (At.tri1 HA3.out T)
        have LD0 := vm_load_ok (p := c) K.ok P J (by rw [K.mp]; exact hm4) (by rw [K.page, hm2]; exact hJ)
        have ea : P * m'.page + J = A := by rw [K.page, hm2]; exact HA.out
        have ev : m'.val P J = x1 := by rw [K.val, hm5]
        rw [ea, ev] at LD0
        have LD := Lib.hid LD0
        have KH : Hid (m'.ok ∧ m'.words = 65536 ∧ m'.page = 16 ∧ m'.room = 100 ∧ m'.mp P = true ∧ m'.val P J = x1) := Lib.hid ⟨K.ok, by rw [K.words, hm1], by rw [K.page, hm2], by rw [K.room, hm3], by rw [K.mp]; exact hm4, ev⟩
        clear HA3 LD0 ea ev K T hm hm1 hm2 hm3 hm4 hm5
        have z1 : (x1 != x1) = false := by simp
        go_wp2_with fail
        refine C1.out.mono ?_
        rintro e w2 ⟨rfl, a4⟩
        have CL := Lib.hid (At.look a4 LD.out)
        have FIN := Lib.hid (fun n => (At.drewN a4 n).dropr)
        clear a4 C1 by0 by1 by2 by3
        go_wp2_with fail
        refine CL.out.mono ?_
        rintro e w5 ⟨rfl, n5, rfl⟩
        go_wp2_with fail
        exact ⟨⟨k + 1, by omega, by go_num, Lib.hid ⟨m', KH.out.1, KH.out.2.1, KH.out.2.2.1, KH.out.2.2.2.1, KH.out.2.2.2.2.1, KH.out.2.2.2.2.2, FIN.out _⟩⟩, by simp [intOf]; omega⟩
      by_cases k2 : f0 % 8 = 2
      · obtain ⟨ve, m', K, T⟩ := kp_move hm p1 p2 (by omega) hpP hm4 c
        have C1 := Lib.hid (At.tri1 HA3.out T)
        have LD0 := vm_load_ok (p := c) K.ok P J (by rw [K.mp]; exact hm4) (by rw [K.page, hm2]; exact hJ)
        have ea : P * m'.page + J = A := by rw [K.page, hm2]; exact HA.out
        have ev : m'.val P J = x1 := by rw [K.val, hm5]
        rw [ea, ev] at LD0
        have LD := Lib.hid LD0
        have KH : Hid (m'.ok ∧ m'.words = 65536 ∧ m'.page = 16 ∧ m'.room = 100 ∧ m'.mp P = true ∧ m'.val P J = x1) := Lib.hid ⟨K.ok, by rw [K.words, hm1], by rw [K.page, hm2], by rw [K.room, hm3], by rw [K.mp]; exact hm4, ev⟩
        clear HA3 LD0 ea ev K T hm hm1 hm2 hm3 hm4 hm5
        have z1 : (x1 != x1) = false := by simp
        go_wp2_with fail
        refine C1.out.mono ?_
        rintro e w2 ⟨rfl, a4⟩
        have CL := Lib.hid (At.look a4 LD.out)
        have FIN := Lib.hid (fun n => (At.drewN a4 n).dropr)
        clear a4 C1 by0 by1 by2 by3
        go_wp2_with fail
        refine CL.out.mono ?_
        rintro e w5 ⟨rfl, n5, rfl⟩
        go_wp2_with fail
        exact ⟨⟨k + 1, by omega, by go_num, Lib.hid ⟨m', KH.out.1, KH.out.2.1, KH.out.2.2.1, KH.out.2.2.2.1, KH.out.2.2.2.2.1, KH.out.2.2.2.2.2, FIN.out _⟩⟩, by simp [intOf]; omega⟩
      by_cases k6 : f0 % 8 = 6
      · obtain ⟨ve, m', K, T⟩ := kp_free hm p1 (by omega) hpP c
        rw [hm2, show ((p1 * 16 + 16 : Nat) : Int) = 16 * (p1 : Int) + 16 by omega, show ((p1 * 16 : Nat) : Int) = 16 * (p1 : Int) by omega] at T
        have C1 := Lib.hid (At.tri1 HA3.out T)
        have LD0 := vm_load_ok (p := c) K.ok P J (by rw [K.mp]; exact hm4) (by rw [K.page, hm2]; exact hJ)
        have ea : P * m'.page + J = A := by rw [K.page, hm2]; exact HA.out
        have ev : m'.val P J = x1 := by rw [K.val, hm5]
        rw [ea, ev] at LD0
        have LD := Lib.hid LD0
        have KH : Hid (m'.ok ∧ m'.words = 65536 ∧ m'.page = 16 ∧ m'.room = 100 ∧ m'.mp P = true ∧ m'.val P J = x1) := Lib.hid ⟨K.ok, by rw [K.words, hm1], by rw [K.page, hm2], by rw [K.room, hm3], by rw [K.mp]; exact hm4, ev⟩
        clear HA3 LD0 ea ev K T hm hm1 hm2 hm3 hm4 hm5
        have z1 : (x1 != x1) = false := by simp
        go_wp2_with fail
        refine C1.out.mono ?_
        rintro e w2 ⟨rfl, a4⟩
        have CL := Lib.hid (At.look a4 LD.out)
        have FIN := Lib.hid (fun n => (At.drewN a4 n).dropr)
        clear a4 C1 by0 by1 by2 by3
        go_wp2_with fail
        refine CL.out.mono ?_
        rintro e w5 ⟨rfl, n5, rfl⟩
        go_wp2_with fail
        exact ⟨⟨k + 1, by omega, by go_num, Lib.hid ⟨m', KH.out.1, KH.out.2.1, KH.out.2.2.1, KH.out.2.2.2.1, KH.out.2.2.2.2.1, KH.out.2.2.2.2.2, FIN.out _⟩⟩, by simp [intOf]; omega⟩
      · obtain ⟨ve, m', K, T⟩ := kp_store hm p1 (p2 % 16) f3 (by rw [hm2]; omega) (by omega) hpP c
        rw [hm2, show ((p1 * 16 + p2 % 16 : Nat) : Int) = 16 * (p1 : Int) + (p2 : Int) % 16 by omega] at T
        have tm : (p2 : Int).tmod 16 = (p2 : Int) % 16 := Int.tmod_eq_emod_of_nonneg (by omega)
        have C1 := Lib.hid (At.tri1 HA3.out T)
        have LD0 := vm_load_ok (p := c) K.ok P J (by rw [K.mp]; exact hm4) (by rw [K.page, hm2]; exact hJ)
        have ea : P * m'.page + J = A := by rw [K.page, hm2]; exact HA.out
        have ev : m'.val P J = x1 := by rw [K.val, hm5]
        rw [ea, ev] at LD0
        have LD := Lib.hid LD0
        have KH : Hid (m'.ok ∧ m'.words = 65536 ∧ m'.page = 16 ∧ m'.room = 100 ∧ m'.mp P = true ∧ m'.val P J = x1) := Lib.hid ⟨K.ok, by rw [K.words, hm1], by rw [K.page, hm2], by rw [K.room, hm3], by rw [K.mp]; exact hm4, ev⟩
        clear HA3 LD0 ea ev K T hm hm1 hm2 hm3 hm4 hm5
        have z1 : (x1 != x1) = false := by simp
        go_wp2_with fail
        refine C1.out.mono ?_
        rintro e w2 ⟨rfl, a4⟩
        have CL := Lib.hid (At.look a4 LD.out)
        have FIN := Lib.hid (fun n => (At.drewN a4 n).dropr)
        clear a4 C1 by0 by1 by2 by3
        go_wp2_with fail
        refine CL.out.mono ?_
        rintro e w5 ⟨rfl, n5, rfl⟩
        go_wp2_with fail
        exact ⟨⟨k + 1, by omega, by go_num, Lib.hid ⟨m', KH.out.1, KH.out.2.1, KH.out.2.2.1, KH.out.2.2.2.1, KH.out.2.2.2.2.1, KH.out.2.2.2.2.2, FIN.out _⟩⟩, by simp [intOf]; omega⟩
    · obtain rfl : k = len := by omega
      have hltI : ¬ (k : Int) < (k : Int) := by omega
      have B := Lib.hid hmA.below
      have SZ := hmA.size
      have L0 := Lib.hid (vlives wr (Tab.frame HT.out hmA))
      clear hmA
      go_wp2_with (go_at_call 9; refine L0.out.mono ?_; rintro e w3 ⟨rfl, hb⟩)
      go_ret
      exact ⟨rfl, Below.step B.out hb SZ⟩

theorem vkeeps_law (x0 x1 : Int) (h0 : (Lit.int .u16 x0).wf = true) (a : Option Addr) (len cap : Nat) (F : Nat → Nat → Int) (W : World) (hT : Tab W) (hrow : RecRow [.u8, .i64, .i64, .u64] W a len cap F) :
    Calls Tryd.prog 3 #[.int .u16 x0, .int .u64 x1, .slice a len cap] W fun e W' => e = .returned (.bool true) ∧ Below W.heap.size W W' := by
  have hcm : cap ≤ 9223372036854775807 := by have := hrow.cm; unfold maxLen at this; omega
  have hb : 0 ≤ x0 ∧ x0 ≤ 65535 := by
    have := bounds_u16 h0
    omega
  by_cases hl : 150 < len
  · exact vkeeps_long x0 x1 a len cap hrow.lc hcm hl W hT
  · obtain ⟨n, rfl⟩ := Int.eq_ofNat_of_zero_le hb.1
    have := vkeeps_short (n / 16) (n % 16) (by omega) (by omega) x1 a len cap F (by omega) W hT hrow
    rw [show n / 16 * 16 + n % 16 = n by omega] at this
    exact this

end Go.Proofs.YtflkbefiopnigabDoor.VM
