/- A vector of bits (layer 11): the example. -/
import Derived.Test.YtflkbefiopnigacDoorBvG
import Derived.Test.YtflkbefiopnigacDoorBvJ
import Derived.Test.YtflkbefiopnigacDoorBvK
namespace Go.Proofs.YtflkbefiopnigacDoor.BV
open Go.ChangeShapes Go.WideShapes Go.ChangeAt Go.RowKit

theorem tabB_blk {w : World} (h : Tab w) : 0 < w.heap.size := World.block_lt_of_cell? w ⟨0, 0, none⟩ (h 0 (by omega))

theorem tabB {w w' : World} (hT : Tab w) (h : Below w.heap.size w w') : Tab w' := fun j hj => by
  rw [h.cell (p := ⟨0, j, none⟩) (tabB_blk hT)]; exact hT j hj

theorem At.tabB {A : Asn} {W w : World} (hT : Tab W) (h : At A W (fun _ => False) w) : Tab w := BV.tabB hT h.below

def ex70 : Bits := (newB 100).lay 60 70 true

theorem ex_fill : cp (offR (newB 100).b (newB 100).n 60 70 true) (newB 100).n = 10 := by decide +kernel
theorem ex_next : nxF ex70.b (max (65 : Int) 0).toNat (ex70.n - (max (65 : Int) 0).toNat) = some 65 := by decide +kernel
theorem ex_last : lsF ex70.b (min (65 : Int) ex70.n).toNat = some 64 := by decide +kernel
theorem ex_pick : nxF (pkP ex70.b 9) 0 ex70.n = some 69 := by decide +kernel

set_option maxRecDepth 100000 in
theorem blives (w : World) (hT : Tab w) : Calls Tryd.prog 11 #[] w fun e w' => e = .returned (.bool true) ∧ Below w.heap.size w w' := by
  have N := Lib.hid (bv_new_ok 100 (by omega) (by omega) w (fun _ => False) ⟨trivial, fun _ => id⟩)
  have ok1 := newB_ok 100 (by omega) (by omega)
  have ok2 : ex70.ok := ok1.lay 60 70 true
  have F0 := fun p => bv_fill (p := p) ok1 60 70
  rw [ex_fill] at F0
  have F0 : ∀ p : Nat, Tri1 Tryd.prog 25 #[.pointer (some ⟨p, 0, none⟩), .int .i64 60, .int .i64 70] (bvA p (newB 100)) (.int .i64 10) (bvA p ex70) := F0
  have N0 := fun (p : Nat) w hT S h => bv_next (p := p) ok2 65 w hT S h
  have L0 := fun (p : Nat) w S h => bv_last (p := p) ok2 65 w S h
  have P0 := fun (p : Nat) w S h => bv_pick (p := p) ok2 9 (by omega) (by omega) w S h
  rw [ex_next] at N0
  rw [ex_last] at L0
  rw [ex_pick] at P0
  have REST : Hid (∀ (p : Nat) w', At (bvA p ex70) w (fun _ => False) w' →
    (Calls Tryd.prog 13 #[.pointer (some ⟨p, 0, none⟩), .int .i64 65] w' fun e w2 => e = .returned (.tuple #[.int .i64 65, .bool true]) ∧ w' = w2) ∧
    (Calls Tryd.prog 15 #[.pointer (some ⟨p, 0, none⟩), .int .i64 65] w' fun e w2 => e = .returned (.tuple #[.int .i64 64, .bool true]) ∧ w' = w2) ∧
    (Calls Tryd.prog 17 #[.pointer (some ⟨p, 0, none⟩), .int .i64 9] w' fun e w2 => e = .returned (.tuple #[.int .i64 69, .bool true]) ∧ w' = w2)) := Lib.hid fun p w' h => by
    obtain ⟨S, hS⟩ := At.left h.unit
    exact ⟨N0 p w' (At.tabB hT h) S hS, L0 p w' S hS, P0 p w' S hS⟩
  have F0 := Lib.hid F0
  clear N0 L0 P0 ok1 ok2 hT
  generalize ex70 = v2 at *
  generalize newB 100 = v1 at *
  go_enter Tryd.func11, Tryd.ntmps11
  go_wp2_with fail
  refine N.out.mono ?_
  rintro e w1 ⟨p, rfl, a1⟩
  have C := Lib.hid (a1.tri0 (F0.out p))
  clear a1 N F0
  go_wp2_with fail
  refine C.out.mono ?_
  rintro e w2 ⟨rfl, a2⟩
  obtain ⟨r1, r2, r3⟩ := REST.out p w2 a2
  have R1 := Lib.hid r1
  have R2 := Lib.hid r2
  have R3 := Lib.hid r3
  have B := Lib.hid a2.below
  clear r1 r2 r3 C REST a2
  go_wp2_with (first | (go_at_call 13; with_reducible refine R1.out.mono ?_; rintro e1 w1 ⟨rfl, rfl⟩) | (go_at_call 15; with_reducible refine R2.out.mono ?_; rintro e1 w1 ⟨rfl, rfl⟩) | (go_at_call 17; with_reducible refine R3.out.mono ?_; rintro e1 w1 ⟨rfl, rfl⟩))
  go_ret
  exact ⟨rfl, B.out⟩

end Go.Proofs.YtflkbefiopnigacDoor.BV
