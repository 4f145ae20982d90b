/- The law ExtentAdds: the boxes. -/
import Derived.Test.YtaaapbfhedgnjaaDoorExQ
import Derived.Test.YtaaapbfhedgnjaaDoorExV
import Derived.Test.YtaaapbfhedgnjaaDoorRfE
import Derived.Test.YtaaapbfhedgnjaaDoorRfS
import Derived.Test.YtaaapbfhedgnjaaDoorRecs
namespace Go.Proofs.YtaaapbfhedgnjaaDoor.BV
open Go.ChangeShapes Go.WideShapes Go.ChangeAt Go.RowKit Go.Shelf

theorem ex_live {w0 w : World} {S : Nat → Prop} {c p q n : Nat} {sz : Nat → Nat} {k : Int} {C : Asn} (ok : ExOk n sz) (x y : Int) (hT : Tab w) (h : At (exX c p q n sz k * C) w0 S w) : Calls Tryd.prog 38 #[.pointer (some ⟨c, 0, none⟩), .int .i64 x, .int .i64 y] w fun e w' => e = .returned (.int .i64 (cp (lvR sz x y) n : Nat)) ∧ w = w' := by
  by_cases g : min y (n : Int) ≤ max x 0
  · exact ex_live_none ok x y g h
  · exact ex_live_some ok x y (max x 0).toNat (min y (n : Int)).toNat (by omega) (by omega) (by omega) hT h

theorem ex_objs {w0 w : World} {S : Nat → Prop} {c p q n : Nat} {sz : Nat → Nat} {k : Int} {C : Asn} (h : At (exX c p q n sz k * C) w0 S w) : Calls Tryd.prog 40 #[.pointer (some ⟨c, 0, none⟩)] w fun e w' => e = .returned (.int .i64 k) ∧ w = w' := by
  obtain ⟨c0, c1, c2⟩ := ex_cells h
  clear h
  go_enter Tryd.func40, Tryd.ntmps40
  go_wp2
  go_ret
  exact ⟨rfl, rfl⟩

/-- whatever small object is asked for -/
theorem ex_add_any {w0 w : World} {S : Nat → Prop} {c p q : Nat} {sz : Nat → Nat} {C : Asn} (ok : ExOk 1000 sz) (s z : Nat) (hs : s < 1000) (hz : z < 30) (hT : Tab w) (h : At (exX c p q 1000 sz (cp (fst' sz) 1000 : Nat) * C) w0 S w) :
    Calls Tryd.prog 30 #[.pointer (some ⟨c, 0, none⟩), .int .i64 s, .int .i64 z] w fun e w' => ∃ (ev : Int) (sz' : Nat → Nat), e = .returned (.int .i64 ev) ∧ ExOk 1000 sz' ∧ At (exX c p q 1000 sz' (cp (fst' sz') 1000 : Nat) * C) w0 S w' := by
  by_cases h0 : z < 1
  · refine (ex_add_size (c := c) (s : Int) (z : Int) (by omega)).mono ?_
    rintro e w' ⟨rfl, rfl⟩
    exact ⟨_, sz, rfl, ok, h⟩
  · by_cases h1 : s + z ≤ 1000
    · have hk : cp (fst' sz) 1000 ≤ 1000 := cp_le _ _
      refine (ex_add_in ok s z (by omega) h1 (by omega) hT h).mono ?_
      rintro e w' (⟨_, rfl, hA⟩ | ⟨hl, rfl, ok', hA⟩)
      · exact ⟨_, sz, rfl, ok, hA⟩
      · obtain ⟨_, hz0⟩ := live_free ok.s (show 0 < z by omega) hl
        refine ⟨_, putZ sz s z, rfl, ok', ?_⟩
        rw [fst_cp (show 0 < z by omega) hz0 (show s < 1000 by omega)]
        rw [show ((cp (fst' sz) 1000 + 1 : Nat) : Int) = (cp (fst' sz) 1000 : Nat) + 1 by omega]
        exact hA
    · refine (ex_add_range (k := (cp (fst' sz) 1000 : Nat)) ok (s : Int) (z : Int) (by omega) (by right; show ((1000 : Nat) : Int) - _ < _; omega) h).mono ?_
      rintro e w' ⟨rfl, rfl⟩
      exact ⟨_, sz, rfl, ok, h⟩

structure Ax where
  T : Nat
  R : Nat
  M : Nat
  A : Nat
  L : Nat
  N : Nat
  B : Nat
  c : Nat
  p : Nat
  q : Nat
  sz : Nat → Nat
  cnt : Int
  stop : Int

/-- what stays as it is -/
def axF (x : Ax) : Asn := blk x.T (.cells #[.int .u8 x.stop] 5 (0, 0)) * (blk x.M (.cells #[.pointer (some ⟨x.c, 0, none⟩)] 48 (0, 0)) * blk x.B (.cells #[.pointer (some ⟨x.c, 0, none⟩)] 48 (0, 0)))

def axA (x : Ax) (al ll nl : Int) : Asn := exX x.c x.p x.q 1000 x.sz x.cnt * (blk x.R (.cells #[.bool false] 4 (0, 0)) * (blk x.A (.cells #[.int .i64 al] 3 (0, 0)) * (blk x.L (.cells #[.int .i64 ll] 3 (0, 0)) * (blk x.N (.cells #[.int .i64 nl] 3 (0, 0)) * axF x))))

section
variable {w0 w : World} {S : Nat → Prop} {x : Ax} {al ll nl : Int} {C : Asn}

def axo (x : Ax) (al ll nl : Int) : Asn := blk x.R (.cells #[.bool false] 4 (0, 0)) * (blk x.A (.cells #[.int .i64 al] 3 (0, 0)) * (blk x.L (.cells #[.int .i64 ll] 3 (0, 0)) * (blk x.N (.cells #[.int .i64 nl] 3 (0, 0)) * axF x)))

theorem ax_ex : axA x al ll nl * C = exX x.c x.p x.q 1000 x.sz x.cnt * (axo x al ll nl * C) := by unfold axA axo; ac_rfl
def axrA (x : Ax) (ll nl : Int) : Asn := exX x.c x.p x.q 1000 x.sz x.cnt * (blk x.R (.cells #[.bool false] 4 (0, 0)) * (blk x.L (.cells #[.int .i64 ll] 3 (0, 0)) * (blk x.N (.cells #[.int .i64 nl] 3 (0, 0)) * axF x)))
def axrL (x : Ax) (al nl : Int) : Asn := exX x.c x.p x.q 1000 x.sz x.cnt * (blk x.R (.cells #[.bool false] 4 (0, 0)) * (blk x.A (.cells #[.int .i64 al] 3 (0, 0)) * (blk x.N (.cells #[.int .i64 nl] 3 (0, 0)) * axF x)))
def axrN (x : Ax) (al ll : Int) : Asn := exX x.c x.p x.q 1000 x.sz x.cnt * (blk x.R (.cells #[.bool false] 4 (0, 0)) * (blk x.A (.cells #[.int .i64 al] 3 (0, 0)) * (blk x.L (.cells #[.int .i64 ll] 3 (0, 0)) * axF x)))
def axrR (x : Ax) (al ll nl : Int) : Asn := exX x.c x.p x.q 1000 x.sz x.cnt * (blk x.A (.cells #[.int .i64 al] 3 (0, 0)) * (blk x.L (.cells #[.int .i64 ll] 3 (0, 0)) * (blk x.N (.cells #[.int .i64 nl] 3 (0, 0)) * axF x)))
theorem ax_A : axA x al ll nl * C = blk x.A (.cells #[.int .i64 al] 3 (0, 0)) * (axrA x ll nl * C) := by unfold axA axrA; ac_rfl
theorem ax_L : axA x al ll nl * C = blk x.L (.cells #[.int .i64 ll] 3 (0, 0)) * (axrL x al nl * C) := by unfold axA axrL; ac_rfl
theorem ax_N : axA x al ll nl * C = blk x.N (.cells #[.int .i64 nl] 3 (0, 0)) * (axrN x al ll * C) := by unfold axA axrN; ac_rfl
theorem ax_R : axA x al ll nl * C = blk x.R (.cells #[.bool false] 4 (0, 0)) * (axrR x al ll nl * C) := by unfold axA axrR; ac_rfl

structure AxC (x : Ax) (al ll nl : Int) (w : World) : Prop where
  T : w.cell? ⟨x.T, 0, none⟩ = some (.int .u8 x.stop)
  M : w.cell? ⟨x.M, 0, none⟩ = some (.pointer (some ⟨x.c, 0, none⟩))
  B : w.cell? ⟨x.B, 0, none⟩ = some (.pointer (some ⟨x.c, 0, none⟩))
  A : w.cell? ⟨x.A, 0, none⟩ = some (.int .i64 al)
  Af : w.frozen? ⟨x.A, 0, none⟩ = false
  L : w.cell? ⟨x.L, 0, none⟩ = some (.int .i64 ll)
  Lf : w.frozen? ⟨x.L, 0, none⟩ = false
  N : w.cell? ⟨x.N, 0, none⟩ = some (.int .i64 nl)
  Nf : w.frozen? ⟨x.N, 0, none⟩ = false
  R : w.cell? ⟨x.R, 0, none⟩ = some (.bool false)
  Rf : w.frozen? ⟨x.R, 0, none⟩ = false

theorem ax_cells (h : At (axA x al ll nl * C) w0 S w) : AxC x al ll nl w := by
  have hA := cell1 (At.blkIs (h.re ax_A))
  have hL := cell1 (At.blkIs (h.re ax_L))
  have hN := cell1 (At.blkIs (h.re ax_N))
  have hR := cell1 (At.blkIs (h.re ax_R))
  have h1 : At (axF x * (exX x.c x.p x.q 1000 x.sz x.cnt * (blk x.R (.cells #[.bool false] 4 (0, 0)) * (blk x.A (.cells #[.int .i64 al] 3 (0, 0)) * (blk x.L (.cells #[.int .i64 ll] 3 (0, 0)) * blk x.N (.cells #[.int .i64 nl] 3 (0, 0))))) * C)) w0 S w := h.re (by unfold axA; ac_rfl)
  have h2 := h1.dropr
  have hT := cell1 (At.blkIs h2)
  have h3 := At.dropr (C := blk x.T (.cells #[.int .u8 x.stop] 5 (0, 0))) (h2.re (Asn.star_comm _ _))
  have hM := cell1 (At.blkIs h3)
  have hB := cell1 (At.blkIs (A := blk x.M (.cells #[.pointer (some ⟨x.c, 0, none⟩)] 48 (0, 0))) (h3.re (Asn.star_comm _ _)))
  exact ⟨hT.1, hM.1, hB.1, hA.1, hA.2, hL.1, hL.2, hN.1, hN.2, hR.1, hR.2⟩

theorem ax_setA (h : At (axA x al ll nl * C) w0 S w) (v : Int) : At (axA x v ll nl * C) w0 S (w.setCell ⟨x.A, 0, none⟩ (.int .i64 v)) := (At.set_blk (h.re ax_A) 0 (.int .i64 v)).re (by rw [ax_A]; rfl)
theorem ax_setL (h : At (axA x al ll nl * C) w0 S w) (v : Int) : At (axA x al v nl * C) w0 S (w.setCell ⟨x.L, 0, none⟩ (.int .i64 v)) := (At.set_blk (h.re ax_L) 0 (.int .i64 v)).re (by rw [ax_L]; rfl)
theorem ax_setN (h : At (axA x al ll nl * C) w0 S w) (v : Int) : At (axA x al ll v * C) w0 S (w.setCell ⟨x.N, 0, none⟩ (.int .i64 v)) := (At.set_blk (h.re ax_N) 0 (.int .i64 v)).re (by rw [ax_N]; rfl)
theorem ax_setR (h : At (axA x al ll nl * C) w0 S w) (v : Value) : At (blk x.R (.cells #[v] 4 (0, 0)) * C) w0 S (w.setCell ⟨x.R, 0, none⟩ v) :=
  At.dropr (C := axrR x al ll nl) ((At.set_blk (h.re ax_R) 0 v).re (by show blk x.R (.cells #[v] 4 (0, 0)) * _ = _; ac_rfl))
end

def AxP (x : Ax) (s : (Nat → Nat) × Int) (pre : List (Nat × Nat)) : Prop := s = (x.sz, x.cnt) ∧ EdgeAt x.sz (stq pre) ∧ stq pre ≤ 1000 ∧ pre.length = cp (fst' x.sz) (stq pre)
/-- between two rounds -/
def axI (x : Ax) (s : (Nat → Nat) × Int) (pre : List (Nat × Nat)) : Asn := pur (AxP x s pre) * axA x (cp (lv x.sz) (stq pre) : Nat) ((stq pre : Int) - 1) pre.length

theorem axI_of {w0 w : World} {S : Nat → Prop} {x : Ax} {s : (Nat → Nat) × Int} {pre : List (Nat × Nat)} {C : Asn} (h : At (axI x s pre * C) w0 S w) : AxP x s pre ∧ At (axA x (cp (lv x.sz) (stq pre) : Nat) ((stq pre : Int) - 1) pre.length * C) w0 S w :=
  have h1 := h.re (Asn.star_assoc _ _ _)
  ⟨h1.purIs, h1.pure_out⟩
theorem axI_mk {w0 w : World} {S : Nat → Prop} {x : Ax} {s : (Nat → Nat) × Int} {pre : List (Nat × Nat)} {C : Asn} (hp : AxP x s pre) (h : At (axA x (cp (lv x.sz) (stq pre) : Nat) ((stq pre : Int) - 1) pre.length * C) w0 S w) : At (axI x s pre * C) w0 S w :=
  (At.pure_in hp h).re (Asn.star_assoc _ _ _).symm

def axX (x : Ax) : Code → Asn
  | .ret => blk x.R (.cells #[.bool true] 4 (0, 0))
  | _ => pur False

end Go.Proofs.YtaaapbfhedgnjaaDoor.BV
