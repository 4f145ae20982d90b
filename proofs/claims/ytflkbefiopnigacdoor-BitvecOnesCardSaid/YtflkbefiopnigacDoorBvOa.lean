/- The law BitvecOnes: what lies in its boxes. -/
import Derived.Test.YtflkbefiopnigacDoorBvNb
import Derived.Test.YtflkbefiopnigacDoorBvY
namespace Go.Proofs.YtflkbefiopnigacDoor.BV
open Go.ChangeShapes Go.WideShapes Go.ChangeAt Go.RowKit Go.Shelf

/-- where the boxes lie -/
structure Bx where
  T : Nat
  X : Nat
  V : Nat
  M : Nat
  L : Nat
  K : Nat
  R : Nat
  B : Nat
  c : Nat
  q : Nat
  n : Nat
  tv : Value
  stop : Int

def fxA (x : Bx) : Asn := blk x.T (.cells #[x.tv, .int .u8 x.stop] 42 (0, 0)) * (blk x.X (.cells #[x.tv] 22 (0, 0)) * (blk x.V (.cells #[.pointer (some ⟨x.c, 0, none⟩)] 23 (0, 0)) * (blk x.M (.cells #[.slice (some ⟨x.q, 0, none⟩) x.n x.n] 29 (0, 0)) * blk x.B (.cells #[.pointer (some ⟨x.c, 0, none⟩)] 23 (0, 0)))))

def onB (x : Bx) (s : Bits) (lv kv : Int) : Asn := plA x.c x.q s * (blk x.L (.cells #[.int .i64 lv] 3 (0, 0)) * (blk x.K (.cells #[.int .i64 kv] 3 (0, 0)) * (blk x.R (.cells #[.bool false] 4 (0, 0)) * fxA x)))

section
variable {w0 w : World} {S : Nat → Prop} {x : Bx} {s s' : Bits} {lv kv : Int} {C : Asn} {fn : FuncId} {args : Array Value} {r : Value}

theorem two_cells {w : World} {b : Nat} {x0 x1 : Value} {t : TypeId} (h : w.heap[b]? = some (.cells #[x0, x1] t (0, 0))) : w.cell? ⟨b, 0, none⟩ = some x0 ∧ w.cell? ⟨b, 1, none⟩ = some x1 := by
  simp [World.cell?, h]

structure OnC (x : Bx) (lv kv : Int) (w : World) : Prop where
  T0 : w.cell? ⟨x.T, 0, none⟩ = some x.tv
  T1 : w.cell? ⟨x.T, 1, none⟩ = some (.int .u8 x.stop)
  X : w.cell? ⟨x.X, 0, none⟩ = some x.tv
  V : w.cell? ⟨x.V, 0, none⟩ = some (.pointer (some ⟨x.c, 0, none⟩))
  M : w.cell? ⟨x.M, 0, none⟩ = some (.slice (some ⟨x.q, 0, none⟩) x.n x.n)
  B : w.cell? ⟨x.B, 0, none⟩ = some (.pointer (some ⟨x.c, 0, none⟩))
  L : w.cell? ⟨x.L, 0, none⟩ = some (.int .i64 lv)
  Lf : w.frozen? ⟨x.L, 0, none⟩ = false
  K : w.cell? ⟨x.K, 0, none⟩ = some (.int .i64 kv)
  Kf : w.frozen? ⟨x.K, 0, none⟩ = false
  R : w.cell? ⟨x.R, 0, none⟩ = some (.bool false)
  Rf : w.frozen? ⟨x.R, 0, none⟩ = false

def onL (x : Bx) (s : Bits) (kv : Int) : Asn := plA x.c x.q s * (blk x.K (.cells #[.int .i64 kv] 3 (0, 0)) * (blk x.R (.cells #[.bool false] 4 (0, 0)) * fxA x))
def onK (x : Bx) (s : Bits) (lv : Int) : Asn := plA x.c x.q s * (blk x.L (.cells #[.int .i64 lv] 3 (0, 0)) * (blk x.R (.cells #[.bool false] 4 (0, 0)) * fxA x))
def onRes (x : Bx) (s : Bits) (lv kv : Int) : Asn := plA x.c x.q s * (blk x.L (.cells #[.int .i64 lv] 3 (0, 0)) * (blk x.K (.cells #[.int .i64 kv] 3 (0, 0)) * fxA x))

theorem on_L : onB x s lv kv * C = blk x.L (.cells #[.int .i64 lv] 3 (0, 0)) * (onL x s kv * C) := by unfold onB onL; ac_rfl
theorem on_K : onB x s lv kv * C = blk x.K (.cells #[.int .i64 kv] 3 (0, 0)) * (onK x s lv * C) := by unfold onB onK; ac_rfl
theorem on_R : onB x s lv kv * C = blk x.R (.cells #[.bool false] 4 (0, 0)) * (onRes x s lv kv * C) := by unfold onB onRes; ac_rfl

theorem on_cells (h : At (onB x s lv kv * C) w0 S w) : OnC x lv kv w := by
  have hL := cell1 (At.blkIs (h.re on_L))
  have hK := cell1 (At.blkIs (h.re on_K))
  have hR := cell1 (At.blkIs (h.re on_R))
  have h1 : At (fxA x * (plA x.c x.q s * (blk x.L (.cells #[.int .i64 lv] 3 (0, 0)) * (blk x.K (.cells #[.int .i64 kv] 3 (0, 0)) * blk x.R (.cells #[.bool false] 4 (0, 0)))))) w0 S w := At.dropr (C := C) (h.re (by unfold onB; ac_rfl))
  have h2 : At (fxA x) w0 S w := h1.dropr
  have hT := two_cells (At.blkIs h2)
  have h3 : At (blk x.X (.cells #[x.tv] 22 (0, 0)) * (blk x.V (.cells #[.pointer (some ⟨x.c, 0, none⟩)] 23 (0, 0)) * (blk x.M (.cells #[.slice (some ⟨x.q, 0, none⟩) x.n x.n] 29 (0, 0)) * blk x.B (.cells #[.pointer (some ⟨x.c, 0, none⟩)] 23 (0, 0))))) w0 S w := At.dropr (C := blk x.T (.cells #[x.tv, .int .u8 x.stop] 42 (0, 0))) (h2.re (by unfold fxA; ac_rfl))
  have hX := cell1 (At.blkIs h3)
  have h4 := At.dropr (C := blk x.X (.cells #[x.tv] 22 (0, 0))) (h3.re (Asn.star_comm _ _))
  have hV := cell1 (At.blkIs h4)
  have h5 := At.dropr (C := blk x.V (.cells #[.pointer (some ⟨x.c, 0, none⟩)] 23 (0, 0))) (h4.re (Asn.star_comm _ _))
  have hM := cell1 (At.blkIs h5)
  have hB := cell1 (At.blkIs (A := blk x.M (.cells #[.slice (some ⟨x.q, 0, none⟩) x.n x.n] 29 (0, 0))) (h5.re (Asn.star_comm _ _)))
  exact ⟨hT.1, hT.2, hX.1, hV.1, hM.1, hB.1, hL.1, hL.2, hK.1, hK.2, hR.1, hR.2⟩

theorem on_setL (h : At (onB x s lv kv * C) w0 S w) (v : Int) : At (onB x s v kv * C) w0 S (w.setCell ⟨x.L, 0, none⟩ (.int .i64 v)) :=
  (At.set_blk (h.re on_L) 0 (.int .i64 v)).re (by rw [on_L]; rfl)
theorem on_setK (h : At (onB x s lv kv * C) w0 S w) (v : Int) : At (onB x s lv v * C) w0 S (w.setCell ⟨x.K, 0, none⟩ (.int .i64 v)) :=
  (At.set_blk (h.re on_K) 0 (.int .i64 v)).re (by rw [on_K]; rfl)

/-- a result is laid -/
theorem on_setR (h : At (onB x s lv kv * C) w0 S w) (v : Value) : At (blk x.R (.cells #[v] 4 (0, 0)) * C) w0 S (w.setCell ⟨x.R, 0, none⟩ v) :=
  At.dropr (C := onRes x s lv kv) ((At.set_blk (h.re on_R) 0 v).re (by show blk x.R (.cells #[v] 4 (0, 0)) * _ = _; ac_rfl))

theorem on_done {f0 f1 f2 : Int} (hv : s.ok) (hn : s.n = x.n) (b0 : 0 ≤ f0 ∧ f0 ≤ 255) (b1 : -9223372036854775808 ≤ f1 ∧ f1 ≤ 9223372036854775807) (h : At (onB x s lv kv * C) w0 S w) :
    Calls Tryd.prog 12 #[.pointer (some ⟨x.c, 0, none⟩), .slice (some ⟨x.q, 0, none⟩) x.n x.n, .agg #[.int .u8 f0, .int .i64 f1, .int .i64 f2]] w fun e w' => e = .returned (.bool true) ∧ ∃ s' : Bits, s'.ok ∧ s'.n = x.n ∧ At (onB x s' lv kv * C) w0 S w' := by
  obtain ⟨v', ok', n', T⟩ := done_any (c := x.c) (q := x.q) hv f0 f1 f2 b0 b1
  rw [hn] at n' T
  have T' : Tri1 Tryd.prog 12 #[.pointer (some ⟨x.c, 0, none⟩), .slice (some ⟨x.q, 0, none⟩) x.n x.n, .agg #[.int .u8 f0, .int .i64 f1, .int .i64 f2]] (plA x.c x.q s) (.bool true) (plA x.c x.q v') := by
    unfold plA; rw [hn]; exact T
  have h' : At (plA x.c x.q s * ((blk x.L (.cells #[.int .i64 lv] 3 (0, 0)) * (blk x.K (.cells #[.int .i64 kv] 3 (0, 0)) * (blk x.R (.cells #[.bool false] 4 (0, 0)) * fxA x))) * C)) w0 S w := h.re (by unfold onB; ac_rfl)
  refine (At.tri1 h' T').mono ?_
  rintro e w' ⟨rfl, hA⟩
  exact ⟨rfl, v', ok', n', hA.re (by unfold onB; ac_rfl)⟩

theorem on_look (hv : s.ok) (hn : s.n = x.n) (i : Nat) (h : At (onB x s lv kv * C) w0 S w) : ∃ (k : Nat) (b : Bool), Fnd x.n s i k b ∧ Calls Tryd.prog 14 #[.slice (some ⟨x.q, 0, none⟩) x.n x.n, .int .i64 i] w fun e w' => e = .returned (.tuple #[.int .i64 k, .bool b]) ∧ w = w' := by
  have a := At.ask (C := bvA x.c s * ((blk x.L (.cells #[.int .i64 lv] 3 (0, 0)) * (blk x.K (.cells #[.int .i64 kv] 3 (0, 0)) * (blk x.R (.cells #[.bool false] 4 (0, 0)) * fxA x))) * C)) (h.re (by unfold onB plA; ac_rfl)) (r_next (q := x.q) (b := s.b) hv.n2 (i : Int))
  rw [hn, show (max (i : Int) 0).toNat = i by omega] at a
  cases hr : nxF s.b i (x.n - i) with
  | none => rw [hr] at a; exact ⟨0, false, .inr ⟨rfl, hr⟩, a⟩
  | some y => rw [hr] at a; exact ⟨y, true, .inl ⟨rfl, hr⟩, a⟩
end

/-- between two rounds -/
def onA (x : Bx) (s : Bits) (pre : List Nat) : Asn := pur (s.ok ∧ s.n = x.n ∧ pre.length ≤ stp pre ∧ stp pre ≤ x.n) * onB x s ((stp pre : Int) - 1) pre.length

theorem onA_of {w0 w : World} {S : Nat → Prop} {x : Bx} {s : Bits} {pre : List Nat} {C : Asn} (h : At (onA x s pre * C) w0 S w) : (s.ok ∧ s.n = x.n ∧ pre.length ≤ stp pre ∧ stp pre ≤ x.n) ∧ At (onB x s ((stp pre : Int) - 1) pre.length * C) w0 S w := by
  have h1 : At (pur (s.ok ∧ s.n = x.n ∧ pre.length ≤ stp pre ∧ stp pre ≤ x.n) * (onB x s ((stp pre : Int) - 1) pre.length * C)) w0 S w := h.re (by unfold onA; ac_rfl)
  exact ⟨h1.purIs, h1.pure_out⟩

theorem onA_mk {w0 w : World} {S : Nat → Prop} {x : Bx} {s : Bits} {pre : List Nat} {C : Asn} (hp : s.ok ∧ s.n = x.n ∧ pre.length ≤ stp pre ∧ stp pre ≤ x.n) (h : At (onB x s ((stp pre : Int) - 1) pre.length * C) w0 S w) : At (onA x s pre * C) w0 S w :=
  (At.pure_in hp h).re (by unfold onA; ac_rfl)

theorem onA_rd {W w : World} {x : Bx} {s : Bits} {pre : List Nat} {C : Asn} (hT : Tab W) (h : At (onA x s pre * C) W (fun _ => False) w) : OnRd x.B x.c x.n s w := by
  obtain ⟨⟨h1, h2, _, _⟩, h3⟩ := onA_of h
  have hb := (on_cells h3).B
  have h4 : At (bvA x.c s * (lA x.q s.n s.b * ((blk x.L (.cells #[.int .i64 ((stp pre : Int) - 1)] 3 (0, 0)) * (blk x.K (.cells #[.int .i64 pre.length] 3 (0, 0)) * (blk x.R (.cells #[.bool false] 4 (0, 0)) * fxA x))) * C))) W (fun _ => False) w := h3.re (by unfold onB plA; ac_rfl)
  exact ⟨hb, At.tabB hT h, h1, h2, h4.left⟩

end Go.Proofs.YtflkbefiopnigacDoor.BV
