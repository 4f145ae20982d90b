/- The pool of frames (layer 7): the example, the law FramesNobody. -/
import Derived.Test.YtpdnbkibnpkfbadFmP
import Derived.Test.YtpdnbkibnpkfbadFmN
namespace Go.Proofs.Ytpdnbkibnpkfbad
open Go.ChangeShapes Go.WideShapes Go.ChangeAt Go.RowKit

/-- the example's pools -/
def lp1 : PS := (newP 2 4).took 0 1 [] 1
def lp2 : PS := lp1.took 1 2 [] 2
def lp3 : PS := lp2.give 0
def lp4 : PS := lp3.took 0 2 [] 2

theorem flives (w : World) : Calls Try.prog 8 #[] w fun e w' => e = .returned (.bool true) ∧ Below w.heap.size w w' := by
  have p4 : powP 4 := by unfold powP; omega
  have T0 := Lib.hid (fm_new_ok 2 4 (by omega) (by omega) p4)
  have k0 := newP_ok 2 4 (by omega) (by omega) p4
  have T1 := fun c => fm_take_fresh (p := c) k0 rfl (by decide)
  have k1 : lp1.ok := ⟨by decide, by decide, by decide, by decide, by decide, by decide, by decide⟩
  have T2 := fun c => fm_take_fresh (p := c) k1 rfl (by decide)
  have k2 : lp2.ok := ⟨by decide, by decide, by decide, by decide, by decide, by decide, by decide⟩
  have T3 := fun c => fm_take_full (p := c) k2 rfl rfl
  have T4 := fun c => fm_give_ok (p := c) k2 0 (by decide) rfl
  have k3 : lp3.ok := ⟨by decide, by decide, by decide, by decide, by decide, by decide, by decide⟩
  have T5 := fun c => fm_take_rel (p := c) k3 (ys := []) (z := 0) rfl (by decide)
  have H1 : ∀ c, Tri1 Try.prog 11 #[.pointer (some ⟨c, 0, none⟩)] (poolA c (newP 2 4)) (.tuple #[.int .i64 0, .int .i64 0]) (poolA c lp1) := T1
  have H2 : ∀ c, Tri1 Try.prog 11 #[.pointer (some ⟨c, 0, none⟩)] (poolA c lp1) (.tuple #[.int .i64 1, .int .i64 0]) (poolA c lp2) := T2
  have H3 : ∀ c, Ask Try.prog 11 #[.pointer (some ⟨c, 0, none⟩)] (poolA c lp2) (.tuple #[.int .i64 0, .int .i64 14]) := T3
  have H4 : ∀ c, Tri1 Try.prog 13 #[.pointer (some ⟨c, 0, none⟩), .int .i64 0] (poolA c lp2) (.int .i64 0) (poolA c lp3) := T4
  have H5 : ∀ c, Tri1 Try.prog 11 #[.pointer (some ⟨c, 0, none⟩)] (poolA c lp3) (.tuple #[.int .i64 0, .int .i64 0]) (poolA c lp4) := T5
  have H6 : ∀ c, Ask Try.prog 20 #[.pointer (some ⟨c, 0, none⟩)] (poolA c lp4) (.int .i64 2) := fun c => fm_high
  have H7 : ∀ c, Ask Try.prog 21 #[.pointer (some ⟨c, 0, none⟩)] (poolA c lp4) (.int .i64 3) := fun c => (show lp4.taken = 3 by decide +kernel) ▸ fm_taken (p := c) (s := lp4)
  have N1 := Lib.hid H1
  have N2 := Lib.hid H2
  have N3 := Lib.hid H3
  have N4 := Lib.hid H4
  have N5 := Lib.hid H5
  have N6 := Lib.hid H6
  have N7 := Lib.hid H7
  clear T1 T2 T3 T4 T5 H1 H2 H3 H4 H5 H6 H7 k0 k1 k2 k3 p4
  have E := Lib.hid (At.emp w)
  go_enter Try.func8, Try.ntmps8
  go_wp2_with fail
  refine (E.out.trix T0.out).mono ?_
  rintro e w1 ⟨c, rfl, a1⟩
  have C1 := Lib.hid (a1.tri0 (N1.out c))
  clear a1
  go_wp2_with fail
  refine C1.out.mono ?_
  rintro e w2 ⟨rfl, a2⟩
  have C2 := Lib.hid (a2.tri0 (N2.out c))
  clear a2 C1
  go_wp2_with fail
  refine C2.out.mono ?_
  rintro e w3 ⟨rfl, a3⟩
  have C3 := Lib.hid (a3.ask1 (N3.out c))
  have A3 := Lib.hid a3
  clear a3 C2
  go_wp2_with fail
  refine C3.out.mono ?_
  rintro e w4 ⟨rfl, rfl⟩
  have C4 := Lib.hid (A3.out.tri0 (N4.out c))
  clear A3 C3
  go_wp2_with fail
  refine C4.out.mono ?_
  rintro e w5 ⟨rfl, a5⟩
  have C5 := Lib.hid (a5.tri0 (N5.out c))
  clear a5 C4
  go_wp2_with fail
  refine C5.out.mono ?_
  rintro e w6 ⟨rfl, a6⟩
  have C6 := Lib.hid (a6.ask1 (N6.out c))
  have C7 := Lib.hid (a6.ask1 (N7.out c))
  have B6 := Lib.hid a6.below
  clear a6 C5
  go_wp2_with (first | (go_at_call 20; refine C6.out.mono ?_; rintro e7 w7 ⟨rfl, rfl⟩) | (go_at_call 21; refine C7.out.mono ?_; rintro e8 w8 ⟨rfl, rfl⟩))
  go_ret
  exact ⟨rfl, B6.out⟩

theorem fnobody_any (i j u : Int) (w : World) : Calls Try.prog 5 #[.int .i64 i, .int .i64 j, .int .u64 u] w fun e w' => e = .returned (.bool true) ∧ Below w.heap.size w w' := fnobody_core i j u w flives

end Go.Proofs.Ytpdnbkibnpkfbad
