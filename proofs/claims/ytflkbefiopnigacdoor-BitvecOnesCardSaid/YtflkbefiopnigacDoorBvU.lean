/- The law BitvecPlays: what a round asks. -/
import Derived.Test.YtflkbefiopnigacDoorBvT
namespace Go.Proofs.YtflkbefiopnigacDoor.BV
open Go.ChangeShapes Go.WideShapes Go.ChangeAt Go.RowKit

theorem oV_ex (r : Option Nat) : ∃ (k : Nat) (z : Bool), oV r = .tuple #[.int .i64 k, .bool z] := ⟨_, _, rfl⟩

theorem bv_pick_any {p : Nat} {v : Bits} (hv : v.ok) (x : Int) (hx2 : x ≤ 9223372036854775807) (w : World) (S : Nat → Prop) (h : (bvA p v).holds w S) :
    Calls Tryd.prog 17 #[.pointer (some ⟨p, 0, none⟩), .int .i64 x] w fun e w' => e = .returned (oV (nxF (pkP v.b x) 0 v.n)) ∧ w = w' := by
  by_cases h0 : 0 ≤ x
  · exact bv_pick hv x h0 hx2 w S h
  · rw [nxF_none v.n 0 fun k _ _ => by unfold pkP; rw [decide_eq_false (by omega), Bool.and_false]]
    exact bv_pick_neg x (by omega) w

theorem bv_test_any {p : Nat} {v : Bits} (hv : v.ok) (x : Int) : Ask Tryd.prog 21 #[.pointer (some ⟨p, 0, none⟩), .int .i64 x] (bvA p v) (.bool (decide (0 ≤ x ∧ x < (v.n : Int)) && v.b x.toNat)) := by
  by_cases h : 0 ≤ x ∧ x < (v.n : Int)
  · obtain ⟨k, rfl⟩ := Int.eq_ofNat_of_zero_le h.1
    rw [decide_eq_true h, Bool.true_and, Int.toNat_natCast]
    exact bv_test_ok hv k (by omega)
  · rw [decide_eq_false h, Bool.false_and]
    exact bv_test_bad hv x (by omega)

section
variable {w0 w : World} {S : Nat → Prop} {c q Y : Nat} {v v' : Bits} {b : Nat → Bool} {f0 f1 f2 : Int} {fn : FuncId} {args : Array Value} {r : Value}

theorem dn_pair (T : Tri1 Tryd.prog fn args (bvA c v * lA q v.n v.b) r (bvA c v' * lA q v'.n v'.b)) (h : At (dnA c q Y v v.b f0 f1 f2) w0 S w) : Calls Tryd.prog fn args w fun e w' => e = .returned r ∧ At (dnA c q Y v' v'.b f0 f1 f2) w0 S w' :=
  (At.tri1 (C := blk Y (.cells #[.int .u8 f0, .int .i64 f1, .int .i64 f2] 31 (0, 0))) (h.re (by unfold dnA; ac_rfl)) T).mono fun _ _ ⟨a, b⟩ => ⟨a, b.re (by unfold dnA; ac_rfl)⟩

theorem dn_askB (T : Ask Tryd.prog fn args (bvA c v) r) (h : At (dnA c q Y v b f0 f1 f2) w0 S w) : Calls Tryd.prog fn args w fun e w' => e = .returned r ∧ w = w' := At.ask (A := bvA c v) h T

theorem dn_askL (T : Ask Tryd.prog fn args (lA q v.n b) r) (h : At (dnA c q Y v b f0 f1 f2) w0 S w) : Calls Tryd.prog fn args w fun e w' => e = .returned r ∧ w = w' :=
  At.ask (C := bvA c v * blk Y (.cells #[.int .u8 f0, .int .i64 f1, .int .i64 f2] 31 (0, 0))) (h.re (by unfold dnA; ac_rfl)) T

/-- one question, asked of both -/
def Both (k1 k2 : FuncId) (a1 a2 : Array Value) (w : World) (r : Value) : Prop :=
  (Calls Tryd.prog k1 a1 w fun e w' => e = .returned r ∧ w = w') ∧ (Calls Tryd.prog k2 a2 w fun e w' => e = .returned r ∧ w = w')

theorem dn_next (hv : v.ok) (hT : Tab w) (h : At (dnA c q Y v v.b f0 f1 f2) w0 S w) (x : Int) : ∃ (k : Nat) (z : Bool), Both 13 14 #[.pointer (some ⟨c, 0, none⟩), .int .i64 x] #[.slice (some ⟨q, 0, none⟩) v.n v.n, .int .i64 x] w (.tuple #[.int .i64 k, .bool z]) := by
  obtain ⟨k, z, e⟩ := oV_ex (nxF v.b (max x 0).toNat (v.n - (max x 0).toNat))
  obtain ⟨S1, h1⟩ := At.left (A := bvA c v) h
  have c1 := bv_next hv x w hT S1 h1
  have c2 := dn_askL (r_next (q := q) (b := v.b) hv.n2 x) h
  rw [e] at c1 c2
  exact ⟨k, z, c1, c2⟩

theorem dn_last (hv : v.ok) (h : At (dnA c q Y v v.b f0 f1 f2) w0 S w) (x : Int) : ∃ (k : Nat) (z : Bool), Both 15 16 #[.pointer (some ⟨c, 0, none⟩), .int .i64 x] #[.slice (some ⟨q, 0, none⟩) v.n v.n, .int .i64 x] w (.tuple #[.int .i64 k, .bool z]) := by
  obtain ⟨k, z, e⟩ := oV_ex (lsF v.b (min x v.n).toNat)
  obtain ⟨S1, h1⟩ := At.left (A := bvA c v) h
  have c1 := bv_last hv x w S1 h1
  have c2 := dn_askL (r_last (q := q) (b := v.b) hv.n2 x) h
  rw [e] at c1 c2
  exact ⟨k, z, c1, c2⟩

theorem dn_pick (hv : v.ok) (h : At (dnA c q Y v v.b f0 f1 f2) w0 S w) (x : Int) (hx : x ≤ 9223372036854775807) : ∃ (k : Nat) (z : Bool), Both 17 18 #[.pointer (some ⟨c, 0, none⟩), .int .i64 x] #[.slice (some ⟨q, 0, none⟩) v.n v.n, .int .i64 x] w (.tuple #[.int .i64 k, .bool z]) := by
  obtain ⟨k, z, e⟩ := oV_ex (nxF (pkP v.b x) 0 v.n)
  obtain ⟨S1, h1⟩ := At.left (A := bvA c v) h
  have c1 := bv_pick_any hv x hx w S1 h1
  have c2 := dn_askL (r_pick (q := q) (b := v.b) hv.n2 x) h
  rw [e] at c1 c2
  exact ⟨k, z, c1, c2⟩

theorem dn_test (hv : v.ok) (h : At (dnA c q Y v v.b f0 f1 f2) w0 S w) (x : Int) : ∃ (z : Bool), Both 21 22 #[.pointer (some ⟨c, 0, none⟩), .int .i64 x] #[.slice (some ⟨q, 0, none⟩) v.n v.n, .int .i64 x] w (.bool z) :=
  ⟨_, dn_askB (bv_test_any hv x) h, dn_askL (r_is (q := q) (b := v.b) hv.n2 x) h⟩
end

end Go.Proofs.YtflkbefiopnigacDoor.BV
