/- The law BitvecCopies: the pieces. -/
import Derived.Test.YtflkbefiopnigacDoorBvX
import Derived.Test.YtflkbefiopnigacDoorBvW
namespace Go.Proofs.YtflkbefiopnigacDoor.BV
open Go.ChangeShapes Go.WideShapes Go.ChangeAt Go.RowKit

/-- vector and reference, and whatever else -/
theorem box_pair {w0 w : World} {S : Nat → Prop} {c q : Nat} {v : Bits} {C : Asn} (f0 f1 f2 : Int) (h : At (plA c q v * C) w0 S w) :
    At (plA c q v * (C * blk w.heap.size (.cells #[.int .u8 f0, .int .i64 f1, .int .i64 f2] 31 (0, 0)))) w0 S (w.alloc (.cells #[.int .u8 f0, .int .i64 f1, .int .i64 f2] 31)) :=
  (h.alloc _).re (by ac_rfl)

theorem pair_done {w0 w : World} {S : Nat → Prop} {c q n : Nat} {v : Bits} {C : Asn} (hv : v.ok) (hn : v.n = n) (f0 f1 f2 : Int) (b0 : 0 ≤ f0 ∧ f0 ≤ 255) (b1 : -9223372036854775808 ≤ f1 ∧ f1 ≤ 9223372036854775807) (Y : Nat)
    (h : At (plA c q v * (C * blk Y (.cells #[.int .u8 f0, .int .i64 f1, .int .i64 f2] 31 (0, 0)))) w0 S w) :
    Calls Tryd.prog 12 #[.pointer (some ⟨c, 0, none⟩), .slice (some ⟨q, 0, none⟩) n n, .agg #[.int .u8 f0, .int .i64 f1, .int .i64 f2]] w fun e w' => e = .returned (.bool true) ∧ ∃ v' : Bits, v'.ok ∧ v'.n = n ∧ At (plA c q v' * C) w0 S w' := by
  obtain ⟨v', ok', n', T⟩ := done_any (c := c) (q := q) hv f0 f1 f2 b0 b1
  rw [hn] at n'
  have T' : Tri1 Tryd.prog 12 #[.pointer (some ⟨c, 0, none⟩), .slice (some ⟨q, 0, none⟩) n n, .agg #[.int .u8 f0, .int .i64 f1, .int .i64 f2]] (plA c q v) (.bool true) (plA c q v') := by
    rw [← hn]; exact T
  refine (At.tri1 h T').mono ?_
  rintro e w' ⟨rfl, hA⟩
  exact ⟨rfl, v', ok', n', At.dropr (hA.re (B := plA c q v' * C * blk Y _) (by ac_rfl))⟩

/-- the element of a row of acts -/
theorem act_cells {w : World} {Y : Nat} {f0 f1 f2 : Int} {A : Asn} {w0 : World} {S : Nat → Prop} (h : At (A * blk Y (.cells #[.int .u8 f0, .int .i64 f1, .int .i64 f2] 31 (0, 0))) w0 S w) :
    w.cell? ⟨Y, 0, none⟩ = some (.int .u8 f0) ∧ w.cell? ⟨Y, 1, none⟩ = some (.int .i64 f1) ∧ w.cell? ⟨Y, 2, none⟩ = some (.int .i64 f2) :=
  vcells (At.blkIs (A := A) (h.re (by ac_rfl)))

theorem rec_cells {W : World} {a : Option Addr} {len cap : Nat} {F : Nat → Nat → Int} (hrow : RecRow [.u8, .i64, .i64] W a len cap F) : ∀ wr, Below W.heap.size W wr → ∀ j, j < len → ∃ q off, a = some ⟨q, off, none⟩ ∧ wr.cell? ⟨q, off + j * 3, none⟩ = some (.int .u8 (F j 0)) ∧ wr.cell? ⟨q, off + j * 3 + 1, none⟩ = some (.int .i64 (F j 1)) ∧ wr.cell? ⟨q, off + j * 3 + 2, none⟩ = some (.int .i64 (F j 2)) ∧ (0 ≤ F j 0 ∧ F j 0 ≤ 255) ∧ (-9223372036854775808 ≤ F j 1 ∧ F j 1 ≤ 9223372036854775807) ∧ (-9223372036854775808 ≤ F j 2 ∧ F j 2 ≤ 9223372036854775807) := by
  intro wr hb j hj
  obtain ⟨q, off, ha, hq, hc⟩ := hrow.at_ j hj
  exact ⟨q, off, ha, (hb.cell (p := ⟨q, _, none⟩) hq).trans (hc 0 _ rfl), (hb.cell (p := ⟨q, _, none⟩) hq).trans (hc 1 _ rfl), (hb.cell (p := ⟨q, _, none⟩) hq).trans (hc 2 _ rfl), bounds_u8 (hrow.wf j hj 0 _ rfl), bounds_i64 (hrow.wf j hj 1 _ rfl), bounds_i64 (hrow.wf j hj 2 _ rfl)⟩

theorem infBoolC : ∃ i, Tryd.prog.info? 4 = some i ∧ i.zero = some (.bool false) ∧ i.size = 1 ∧ i.bytes = 1 := by
  obtain ⟨i, hi, hzz⟩ := Option.map_eq_some_iff.1 infBool
  simp only [Prod.mk.injEq] at hzz
  exact ⟨i, hi, hzz.1, hzz.2.1, hzz.2.2⟩

/-- the copies: the second vector and the row of bools -/
def cpA (d : Nat) (u : Bits) (x : Loc) : Asn := bvA d u * lrow x 4 u.n (fun i => .bool (u.b i))

section
variable {w0 w : World} {S : Nat → Prop} {c q d n : Nat} {v u : Bits} {x : Loc}

/-- one round of the comparison -/
structure CQ (w0 : World) (S : Nat → Prop) (c q d n : Nat) (v u : Bits) (x : Loc) (i : Nat) (z1 z2 : Bool) (w : World) : Prop where
  h : At (plA c q v * cpA d u x) w0 S w
  cw : w.cell? ⟨x.b, i, none⟩ = some (.bool z1)
  cm : w.cell? ⟨q, i, none⟩ = some (.bool z2)
  tw : Calls Tryd.prog 21 #[.pointer (some ⟨d, 0, none⟩), .int .i64 i] w fun e w' => e = .returned (.bool z1) ∧ w = w'
  tv : Calls Tryd.prog 21 #[.pointer (some ⟨c, 0, none⟩), .int .i64 i] w fun e w' => e = .returned (.bool z2) ∧ w = w'

theorem CQ.of (hv : v.ok) (hu : u.ok) (hn : v.n = n) (hm : u.n = n) (i : Nat) (hi : i < n) : ∃ z1 z2 : Bool, ∀ w, At (plA c q v * cpA d u x) w0 S w → CQ w0 S c q d n v u x i z1 z2 w :=
  have hiu : i < u.n := by omega
  have hiv : i < v.n := by omega
  ⟨u.b i, v.b i, fun w h =>
    have a1 : LR w x.b u.n (fun i => .bool (u.b i)) := At.lrowIs (A := plA c q v * bvA d u) (h.re (by unfold cpA; ac_rfl))
    have a2 : w.rowIs q 4 v.n (fun i => .bool (v.b i)) := At.rowIs (A := bvA c v * cpA d u x) (h.re (B := lA q v.n v.b * (bvA c v * cpA d u x)) (by unfold plA; ac_rfl))
    ⟨h, a1.cell hiu, a2.cell hiv,
    At.ask (C := plA c q v * lrow x 4 u.n (fun i => .bool (u.b i))) (h.re (by unfold cpA; ac_rfl)) (bv_test_ok hu i hiu),
    At.ask (C := lA q v.n v.b * cpA d u x) (h.re (by unfold plA; ac_rfl)) (bv_test_ok hv i hiv)⟩⟩

theorem cp_lens (hn : v.n = n) (hm : u.n = n) (h : At (plA c q v * cpA d u x) w0 S w) :
    (Calls Tryd.prog 23 #[.pointer (some ⟨c, 0, none⟩)] w fun e w' => e = .returned (.int .i64 n) ∧ w = w') ∧ (Calls Tryd.prog 23 #[.pointer (some ⟨d, 0, none⟩)] w fun e w' => e = .returned (.int .i64 n) ∧ w = w') := by
  have a := At.ask (C := lA q v.n v.b * cpA d u x) (h.re (by unfold plA; ac_rfl)) (bv_len (p := c) (v := v))
  have b := At.ask (C := plA c q v * lrow x 4 u.n (fun i => .bool (u.b i))) (h.re (by unfold cpA; ac_rfl)) (bv_len (p := d) (v := u))
  rw [hn] at a
  rw [hm] at b
  exact ⟨a, b⟩

theorem cp_fill (hu : u.ok) (X Y : Int) (h : At (plA c q v * cpA d u x) w0 S w) :
    Calls Tryd.prog 25 #[.pointer (some ⟨d, 0, none⟩), .int .i64 X, .int .i64 Y] w fun e w' => ∃ g : Int, e = .returned (.int .i64 g) ∧ At (plA c q v) w0 S w' :=
  (At.tri1 (C := plA c q v * lrow x 4 u.n (fun i => .bool (u.b i))) (h.re (by unfold cpA; ac_rfl)) (bv_fill hu X Y)).mono fun _ _ ⟨a, b⟩ => ⟨_, a, At.dropr (b.re (B := plA c q v * (bvA d (u.lay X Y true) * lrow x 4 u.n (fun i => .bool (u.b i)))) (by ac_rfl))⟩

theorem cp_count (hv : v.ok) (hn : v.n = n) (X Y : Int) : ∃ G : Nat, ∀ w, At (plA c q v) w0 S w →
    (Calls Tryd.prog 19 #[.pointer (some ⟨c, 0, none⟩), .int .i64 X, .int .i64 Y] w fun e w' => e = .returned (.int .i64 G) ∧ At (plA c q v) w0 S w') ∧
    (Calls Tryd.prog 20 #[.slice (some ⟨q, 0, none⟩) n n, .int .i64 X, .int .i64 Y] w fun e w' => e = .returned (.int .i64 G) ∧ w = w') := by
  subst hn
  exact ⟨_, fun w h => ⟨At.tri1 h (bv_count hv X Y), At.ask (C := bvA c v) (h.re (by unfold plA; ac_rfl)) (r_count hv.n2 X Y)⟩⟩

/-- both are copied -/
theorem cp_copy (hv : v.ok) (h : At (plA c q v) w0 S w) : Calls Tryd.prog 27 #[.pointer (some ⟨c, 0, none⟩)] w fun e w' => ∃ d : Nat, e = .returned (.pointer (some ⟨d, 0, none⟩)) ∧ At (plA c q v * bvA d v) w0 S w' := by
  refine (At.tri h (bv_copy hv)).mono ?_
  rintro e w' ⟨d, rfl, hA⟩
  exact ⟨d, rfl, hA.re (by unfold plA; ac_rfl)⟩
end

end Go.Proofs.YtflkbefiopnigacDoor.BV
