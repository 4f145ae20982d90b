/- A paged memory (layer 9): the example; the law VmemNobody. -/
import Derived.Test.YtflkbefiopnigabDoorVmF
import Derived.Test.YtflkbefiopnigabDoorVmN
import Derived.Test.YtflkbefiopnigabDoorMTabA
namespace Go.Proofs.YtflkbefiopnigabDoor.VM
open Go.ChangeShapes Go.WideShapes Go.ChangeAt Go.RowKit
open PT (QS upd pmA newQ)

theorem tab_below {w w' : World} (hT : Tab w) (h : Below w.heap.size w w') : Tab w' := fun j hj => by
  rw [h.cell (p := ⟨1, j, none⟩) (Tab.blk hT)]
  exact hT j hj

theorem tab_alloc {w : World} (hT : Tab w) (o : Obj) : Tab (w.alloc o) := tab_below hT ((Below.refl w.heap.size w).alloc (Nat.le_refl _) o)

def lm1 : MV := { newM 16 4 2 with high := 2 }

theorem vlives (w : World) (hT : Tab w) : Calls Tryd.prog 9 #[] w fun e w' => e = .returned (.bool true) ∧ Below w.heap.size w w' := by
  have p4 : powP 4 := by unfold powP; omega
  have m0 := newM_ok 16 4 2 (by omega) (by omega) p4 (by omega) (by omega) (by decide)
  have N := Lib.hid (vm_new_ok 16 4 2 (by omega) (by omega) p4 (by omega) (by omega) (by decide) w hT (fun _ => False) ⟨trivial, fun _ => id⟩)
  have f0 : ¬ needFits (newM 16 4 2) (3 / 4) (needN (newM 16 4 2) 3 9) := by
    intro h
    rcases h 2 (by decide) with g | g
    · revert g; decide
    · revert g; decide
  have T1 := fun p => vm_need_full (p := p) m0 3 9 (by omega) (by decide) f0
  have o1 : lm1.ok := ⟨by decide, by decide, p4, by decide, by decide, by decide, by decide, by decide, by decide, fun p h => by cases h⟩
  have f1 : needFits lm1 (3 / 4) (needN lm1 3 8) := by
    intro j hj
    have : j = 0 ∨ j = 1 := by
      have : needN lm1 3 8 = 2 := by decide
      omega
    rcases this with rfl | rfl
    · exact .inr (by decide)
    · exact .inr (by decide)
  have T2 := fun p => vm_need_ok (p := p) o1 3 8 (by omega) (by decide) f1
  have U1 := fun p => vm_used (p := p) (m := lm1)
  have U2 := fun p => vm_used (p := p) (m := needM lm1 (3 / 4) (needN lm1 3 8))
  have M0 := fun p => vm_mapped (p := p) (m := needM lm1 (3 / 4) (needN lm1 3 8)) 0
  have M1 := fun p => vm_mapped (p := p) (m := needM lm1 (3 / 4) (needN lm1 3 8)) 1
  have e0 : (frE (needM lm1 (3 / 4) (needN lm1 3 8)) 0 == 0) = true := by decide +kernel
  have e1 : (frE (needM lm1 (3 / 4) (needN lm1 3 8)) 1 == 0) = true := by decide +kernel
  rw [e0] at M0
  rw [e1] at M1
  have u1 : lm1.used = 0 := rfl
  have u2 : (needM lm1 (3 / 4) (needN lm1 3 8)).used = 2 := by decide +kernel
  rw [u1] at U1
  rw [u2] at U2
  have T1 := Lib.hid (show ∀ p, Tri1 Tryd.prog 11 #[.pointer (some ⟨p, 0, none⟩), .int .i64 3, .int .i64 9] (memA p (newM 16 4 2)) (.int .i64 14) (memA p lm1) from T1)
  have T2 := Lib.hid (show ∀ p, Tri1 Tryd.prog 11 #[.pointer (some ⟨p, 0, none⟩), .int .i64 3, .int .i64 8] (memA p lm1) (.int .i64 0) (memA p (needM lm1 (3 / 4) (needN lm1 3 8))) from T2)
  generalize needM lm1 (3 / 4) (needN lm1 3 8) = m2 at *
  have U1 := Lib.hid U1
  have U2 := Lib.hid U2
  have M0 := Lib.hid M0
  have M1 := Lib.hid M1
  clear f0 f1 o1 m0 p4 e0 e1 u1 u2
  go_enter Tryd.func9, Tryd.ntmps9
  go_wp2_with fail
  refine N.out.mono ?_
  rintro e w1 ⟨p, rfl, a1⟩
  have C1 := Lib.hid (a1.tri0 (T1.out p))
  clear a1 N T1
  go_wp2_with fail
  refine C1.out.mono ?_
  rintro e w2 ⟨rfl, a2⟩
  have CU := Lib.hid (a2.look1 (U1.out p))
  have A2 := Lib.hid a2
  clear a2 C1 U1
  go_wp2_with fail
  refine CU.out.mono ?_
  rintro e w3 ⟨rfl, n3, rfl⟩
  have C2 := Lib.hid ((A2.out.drewN n3).tri0 (T2.out p))
  clear CU A2 T2
  go_wp2_with fail
  refine C2.out.mono ?_
  rintro e w4 ⟨rfl, a4⟩
  have CM0 := Lib.hid (a4.ask1 (M0.out p))
  have CM1 := Lib.hid (a4.ask1 (M1.out p))
  have CU2 := Lib.hid (a4.look1 (U2.out p))
  have B4 := Lib.hid (fun n => (a4.drewN n).below)
  clear a4 C2 M0 M1 U2
  go_wp2_with fail
  refine CM0.out.mono ?_
  rintro e w5 ⟨rfl, rfl⟩
  go_wp2_with fail
  refine CM1.out.mono ?_
  rintro e w5 ⟨rfl, rfl⟩
  go_wp2_with fail
  refine CU2.out.mono ?_
  rintro e w5 ⟨rfl, n5, rfl⟩
  go_wp2
  go_ret
  exact ⟨rfl, B4.out _⟩

set_option maxRecDepth 100000 in
set_option maxHeartbeats 1000000 in
theorem vnobody_any (a b u : Int) (w : World) (hT : Tab w) : Calls Tryd.prog 4 #[.int .i64 a, .int .i64 b, .int .u64 u] w fun e w' => e = .returned (.bool true) ∧ Below w.heap.size w w' := by
  have LL := Lib.hid vlives
  have HT := Lib.hid hT
  clear hT
  go_enter Tryd.func4, Tryd.ntmps4
  go_wp2_with (first | (go_at_call 17; with_reducible refine (vn_load _ _).mono ?_; rintro e1 w1 ⟨rfl, rfl⟩) | (go_at_call 13; with_reducible refine (vn_map _ _).mono ?_; rintro e1 w1 ⟨rfl, rfl⟩) | (go_at_call 14; with_reducible refine (vn_unmap _ _).mono ?_; rintro e1 w1 ⟨rfl, rfl⟩) | (go_at_call 15; with_reducible refine (vn_move _ _ _).mono ?_; rintro e1 w1 ⟨rfl, rfl⟩) | (go_at_call 12; with_reducible refine (vn_store _ _ _).mono ?_; rintro e1 w1 ⟨rfl, rfl⟩) | (go_at_call 11; with_reducible refine (vn_need _ _ _).mono ?_; rintro e1 w1 ⟨rfl, rfl⟩) | (go_at_call 16; with_reducible refine (vn_free _ _ _).mono ?_; rintro e1 w1 ⟨rfl, rfl⟩) | (go_at_call 18; with_reducible refine (vn_mapped _ _).mono ?_; rintro e1 w1 ⟨rfl, rfl⟩) | (go_at_call 19; with_reducible refine (vn_page _).mono ?_; rintro e1 w1 ⟨rfl, rfl⟩) | (go_at_call 20; with_reducible refine (vn_words _).mono ?_; rintro e1 w1 ⟨rfl, rfl⟩) | (go_at_call 21; with_reducible refine (vn_used _).mono ?_; rintro e1 w1 ⟨rfl, rfl⟩) | (go_at_call 22; with_reducible refine (vn_high _).mono ?_; rintro e1 w1 ⟨rfl, rfl⟩) | (go_at_call 23; with_reducible refine (vn_room _).mono ?_; rintro e1 w1 ⟨rfl, rfl⟩) | (go_at_call 9; refine (LL.out _ (tab_alloc HT.out _)).mono ?_; rintro e1 w1 ⟨rfl, hb⟩))
  go_ret
  exact ⟨rfl, Below.step ((Below.refl w.heap.size w).alloc (Nat.le_refl _) _) hb (by simp)⟩

end Go.Proofs.YtflkbefiopnigabDoor.VM
