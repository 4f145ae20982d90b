/- The law BitvecPlays, walked. -/
import Derived.Test.YtflkbefiopnigacDoorBvU
import Derived.Test.YtflkbefiopnigacDoorRecs
namespace Go.Proofs.YtflkbefiopnigacDoor.BV
open Go.ChangeShapes Go.WideShapes Go.ChangeAt Go.RowKit

theorem infBool : (Tryd.prog.info? 4).map (fun i => (i.zero, i.size, i.bytes)) = some (some (.bool false), 1, 1) := by kernel_rfl

theorem lA_made {A : Asn} {w0 w : World} {S : Nat → Prop} (n : Nat) (h : At A w0 S w) : At (A * lA w.heap.size n (newB n).b) w0 S (w.alloc (.cells (madeCells #[.bool false] n) 4)) :=
  (h.made (.bool false) n 4).re (Asn.star_comm _ _)

set_option maxRecDepth 100000 in
theorem plays_bad (n : Int) (hn : ¬ (1 ≤ n ∧ n ≤ 1048576)) (a : Option Addr) (len cap : Nat) (hl : len ≤ cap) (hc : cap ≤ 9223372036854775807) (W : World) (hT : Tab W) :
    Calls Tryd.prog 3 #[.int .i64 n, .slice a len cap] W fun e W' => e = .returned (.bool true) ∧ Below W.heap.size W W' := by
  have N := Lib.hid (bv_new_bad n (by omega) W)
  have M := Lib.hid (may_any n W)
  rw [decide_eq_false hn] at M
  have L := Lib.hid (blives W hT)
  clear hT
  go_enter Tryd.func3, Tryd.ntmps3
  go_wp2_with (first | (go_at_call 9; with_reducible refine N.out.mono ?_; rintro e1 w1 ⟨rfl, rfl⟩) | (go_at_call 10; with_reducible refine M.out.mono ?_; rintro e1 w1 ⟨rfl, rfl⟩) | (go_at_call 11; refine L.out.mono ?_; rintro e1 w1 ⟨rfl, hb⟩))
  go_ret
  exact ⟨rfl, hb⟩

set_option maxRecDepth 100000 in
theorem plays_long (n : Nat) (h1 : 1 ≤ n) (h2 : n ≤ 1048576) (a : Option Addr) (len cap : Nat) (hl : len ≤ cap) (hc : cap ≤ 9223372036854775807) (hbig : 2000 < n ∨ 100 < len) (W : World) (hT : Tab W) :
    Calls Tryd.prog 3 #[.int .i64 n, .slice a len cap] W fun e W' => e = .returned (.bool true) ∧ Below W.heap.size W W' := by
  have N := Lib.hid (bv_new_ok n h1 h2 W (fun _ => False) ⟨trivial, fun _ => id⟩)
  have M := Lib.hid (fun w => may_any (n : Int) w)
  rw [decide_eq_true (by omega : 1 ≤ (n : Int) ∧ (n : Int) ≤ 1048576)] at M
  have L := Lib.hid (fun (w : World) (p : Nat) (h : At (bvA p (newB n)) W (fun _ => False) w) => blives w (At.tabB hT h))
  clear hT
  go_enter Tryd.func3, Tryd.ntmps3
  go_wp2_with fail
  refine N.out.mono ?_
  rintro e w1 ⟨p, rfl, a1⟩
  have L0 := Lib.hid (L.out _ p a1)
  have M0 := Lib.hid (M.out w1)
  have B := Lib.hid a1.below
  have SZ := Lib.hid a1.size
  clear N M L a1
  by_cases hn : 2000 < n
  · have hnI : (2000 : Int) < (n : Int) := by omega
    clear hbig
    go_wp2_with (first | (go_at_call 10; with_reducible refine M0.out.mono ?_; rintro e1 w1 ⟨rfl, rfl⟩) | (go_at_call 11; refine L0.out.mono ?_; rintro e1 w2 ⟨rfl, hb⟩))
    go_ret
    exact ⟨rfl, Below.step B.out hb SZ.out⟩
  · have hnI : ¬ (2000 : Int) < (n : Int) := by omega
    have hll : (100 : Int) < (len : Int) := by omega
    clear hbig
    go_wp2_with (first | (go_at_call 10; with_reducible refine M0.out.mono ?_; rintro e1 w1 ⟨rfl, rfl⟩) | (go_at_call 11; refine L0.out.mono ?_; rintro e1 w2 ⟨rfl, hb⟩))
    go_ret
    exact ⟨rfl, Below.step B.out hb SZ.out⟩

end Go.Proofs.YtflkbefiopnigacDoor.BV
