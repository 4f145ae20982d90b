/- A region (layer 16): the example; the law BumpNobody. -/
import Derived.Test.YtflkbefiopnigabDoorBuA
import Derived.Test.YtflkbefiopnigabDoorMTabA
namespace Go.Proofs.YtflkbefiopnigabDoor.BU
open Go.ChangeShapes Go.WideShapes Go.ChangeAt Go.RowKit
open VM

def bm0 : MV := newM 8 2 4
def bm1 : MV := needM bm0 (5 / 2) (needN bm0 5 7)
def bm2 : MV := needM bm1 (7 / 2) (needN bm1 7 8)

set_option maxRecDepth 100000 in
theorem blives (w : World) (hT : Tab w) : Calls Tryd.prog 24 #[] w fun e w' => e = .returned (.bool true) ∧ Below w.heap.size w w' := by
  have p2 : powP 2 := by unfold powP; omega
  have m0 : bm0.ok := newM_ok 8 2 4 (by omega) (by omega) p2 (by omega) (by omega) (by decide)
  have N := Lib.hid (show Calls Tryd.prog 10 #[.int .i64 8, .int .i64 2, .int .i64 4] w fun e w' => ∃ p : Nat, e = .returned (.tuple #[.pointer (some ⟨p, 0, none⟩), .int .i64 0]) ∧ At (memA p bm0) w (fun _ => False) w' from vm_new_ok 8 2 4 (by omega) (by omega) p2 (by omega) (by omega) (by decide) w hT (fun _ => False) ⟨trivial, fun _ => id⟩)
  have f0 : needFits bm0 (5 / 2) (needN bm0 5 7) := by
    intro j hj
    have : j = 0 ∨ j = 1 := by
      have : needN bm0 5 7 = 2 := by decide
      omega
    rcases this with rfl | rfl
    · exact .inr (by decide)
    · exact .inr (by decide)
  have m1 : bm1.ok := needM_ok m0 (5 / 2) _ (by decide) f0
  have f1 : needFits bm1 (7 / 2) (needN bm1 7 8) := by
    intro j hj
    have : j = 0 := by
      have : needN bm1 7 8 = 1 := by decide
      omega
    rw [this]
    exact .inl (by decide)
  have T0 := fun p => bu_new_ok (p := p) (m := bm0) 5 8 (by omega) (by decide)
  have T1 := fun r p => bu_alloc_ok (r := r) (p := p) (base := 5) (limit := 8) (top := 5) (by omega) (by omega) 2 (by omega) (by omega) (vm_need_ok (p := p) m0 5 7 (by omega) (by decide) f0)
  have T2 := fun r p => bu_alloc_full (r := r) (p := p) (base := 5) (limit := 8) (top := 7) (m := bm1) (by omega) (by omega) 2 (by omega) (by omega)
  have T3 := fun r p => bu_alloc_ok (r := r) (p := p) (base := 5) (limit := 8) (top := 7) (by omega) (by omega) 1 (by omega) (by omega) (vm_need_ok (p := p) m1 7 8 (by omega) (by decide) f1)
  have T4 := fun r p => bu_left (r := r) (p := p) (base := 5) (limit := 8) (top := 8) (m := bm2) (by omega) (by omega)
  have U := fun p => vm_used (p := p) (m := bm2)
  have u2 : bm2.used = 2 := by decide +kernel
  rw [u2] at U
  have T0 := Lib.hid (show ∀ p, Tri Tryd.prog 26 #[.pointer (some ⟨p, 0, none⟩), .int .i64 5, .int .i64 8] (memA p bm0) (fun r : Nat => .tuple #[.pointer (some ⟨r, 0, none⟩), .int .i64 0]) (fun r => buA r p 5 8 5 bm0) from T0)
  have T1 := Lib.hid (show ∀ r p, Tri1 Tryd.prog 33 #[.pointer (some ⟨r, 0, none⟩), .int .i64 2] (buA r p 5 8 5 bm0) (.tuple #[.int .i64 5, .int .i64 0]) (buA r p 5 8 7 bm1) from T1)
  have T2 := Lib.hid (show ∀ r p, Ask Tryd.prog 33 #[.pointer (some ⟨r, 0, none⟩), .int .i64 2] (buA r p 5 8 7 bm1) (.tuple #[.int .i64 0, .int .i64 21]) from T2)
  have T3 := Lib.hid (show ∀ r p, Tri1 Tryd.prog 33 #[.pointer (some ⟨r, 0, none⟩), .int .i64 1] (buA r p 5 8 7 bm1) (.tuple #[.int .i64 7, .int .i64 0]) (buA r p 5 8 8 bm2) from T3)
  have T4 := Lib.hid (show ∀ r p, Ask Tryd.prog 39 #[.pointer (some ⟨r, 0, none⟩)] (buA r p 5 8 8 bm2) (.int .i64 0) from T4)
  have U := Lib.hid U
  clear u2 f0 f1 m0 m1 p2
  generalize bm2 = m2 at *
  generalize bm1 = m1 at *
  generalize bm0 = m0 at *
  go_enter Tryd.func24, Tryd.ntmps24
  go_wp2_with fail
  refine N.out.mono ?_
  rintro e w1 ⟨p, rfl, a1⟩
  have C0 := Lib.hid (a1.trix (T0.out p))
  clear a1 N T0
  go_wp2_with fail
  refine C0.out.mono ?_
  rintro e w2 ⟨r, rfl, a2⟩
  have C1 := Lib.hid (a2.tri0 (T1.out r p))
  clear a2 C0 T1
  go_wp2_with fail
  refine C1.out.mono ?_
  rintro e w3 ⟨rfl, a3⟩
  have C2 := Lib.hid (a3.ask1 (T2.out r p))
  have C3 := Lib.hid (a3.tri0 (T3.out r p))
  clear a3 C1 T2 T3
  go_wp2_with fail
  refine C2.out.mono ?_
  rintro e w4 ⟨rfl, rfl⟩
  go_wp2_with fail
  refine C3.out.mono ?_
  rintro e w5 ⟨rfl, a5⟩
  have C4 := Lib.hid (a5.ask1 (T4.out r p))
  have C5 := Lib.hid (bu_look (U.out p) a5)
  have B5 := Lib.hid (fun n => (a5.drewN n).below)
  clear a5 C2 C3 T4 U
  go_wp2_with fail
  refine C4.out.mono ?_
  rintro e w6 ⟨rfl, rfl⟩
  go_wp2_with fail
  refine C5.out.mono ?_
  rintro e w7 ⟨rfl, n7, rfl⟩
  go_wp2
  go_ret
  exact ⟨rfl, B5.out _⟩

set_option maxRecDepth 100000 in
set_option maxHeartbeats 1000000 in
theorem bnobody_any (a b : Int) (w : World) (hT : Tab w) : Calls Tryd.prog 7 #[.int .i64 a, .int .i64 b] w fun e w' => e = .returned (.bool true) ∧ Below w.heap.size w w' := by
  have LL := Lib.hid blives
  have HT := Lib.hid hT
  clear hT
  go_enter Tryd.func7, Tryd.ntmps7
  go_wp2_with (first | (go_at_call 26; with_reducible refine (bn_new _ _ _).mono ?_; rintro e1 w1 ⟨rfl, rfl⟩) | (go_at_call 33; with_reducible refine (bn_alloc _ _).mono ?_; rintro e1 w1 ⟨rfl, rfl⟩) | (go_at_call 28; with_reducible refine (bn_set _ _).mono ?_; rintro e1 w1 ⟨rfl, rfl⟩) | (go_at_call 36; with_reducible refine (bn_base _).mono ?_; rintro e1 w1 ⟨rfl, rfl⟩) | (go_at_call 38; with_reducible refine (bn_limit _).mono ?_; rintro e1 w1 ⟨rfl, rfl⟩) | (go_at_call 37; with_reducible refine (bn_top _).mono ?_; rintro e1 w1 ⟨rfl, rfl⟩) | (go_at_call 39; with_reducible refine (bn_left _).mono ?_; rintro e1 w1 ⟨rfl, rfl⟩) | (go_at_call 30; with_reducible refine (bn_release _).mono ?_; rintro e1 w1 ⟨rfl, rfl⟩) | (go_at_call 24; refine (LL.out _ HT.out).mono ?_; rintro e1 w1 ⟨rfl, hb⟩))
  go_ret
  exact ⟨rfl, hb⟩

end Go.Proofs.YtflkbefiopnigabDoor.BU
