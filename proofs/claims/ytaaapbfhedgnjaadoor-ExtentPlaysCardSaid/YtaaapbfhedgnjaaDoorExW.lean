/- A map of objects (layer 13): Word. -/
import Derived.Test.YtaaapbfhedgnjaaDoorExO
import Derived.RangeFuncRecord
namespace Go.Proofs.YtaaapbfhedgnjaaDoor.BV
open Go.ChangeShapes Go.WideShapes Go.ChangeAt Go.RowKit Go.Shelf

attribute [local go_sem] Oper.semAt_some

/-- the live word with k ahead, from an address on -/
def wdF (sz : Nat → Nat) (n : Nat) : Nat → Nat → Nat → Option Nat
  | 0, _, _ => none
  | f + 1, pos, k => match nxF (fst' sz) pos (n - pos) with
    | none => none
    | some s => if k < sz s then some (s + k) else wdF sz n f (s + sz s) (k - sz s)

def wdI (n : Nat) (sz : Nat → Nat) (k : Int) : Option Nat := if k < 0 then none else wdF sz n (n + 1) 0 k.toNat

/-- how far it is -/
def WdAt (sz : Nat → Nat) (n : Nat) (r0 : Option Nat) (pos k : Nat) : Prop := ∃ f, n < f + pos ∧ wdF sz n f pos k = r0

theorem WdAt.found {sz : Nat → Nat} {n pos k s : Nat} {r0 : Option Nat} (h : WdAt sz n r0 pos k) (hs : nxF (fst' sz) pos (n - pos) = some s) (hk : k < sz s) : r0 = some (s + k) := by
  obtain ⟨f, hf, e⟩ := h
  obtain ⟨g1, g2, _, _⟩ := nxF_lt hs
  cases f with
  | zero => omega
  | succ f => rw [← e]; simp only [wdF, hs]; rw [if_pos hk]

theorem WdAt.on {sz : Nat → Nat} {n pos k s : Nat} {r0 : Option Nat} (h : WdAt sz n r0 pos k) (hs : nxF (fst' sz) pos (n - pos) = some s) (hk : ¬ k < sz s) : WdAt sz n r0 (s + sz s) (k - sz s) := by
  obtain ⟨f, hf, e⟩ := h
  obtain ⟨g1, g2, g3, _⟩ := nxF_lt hs
  have := fst_iff.1 g3
  cases f with
  | zero => omega
  | succ f =>
    refine ⟨f, by omega, ?_⟩
    rw [← e]; simp only [wdF, hs]; rw [if_neg hk]

theorem WdAt.none {sz : Nat → Nat} {n pos k : Nat} {r0 : Option Nat} (h : WdAt sz n r0 pos k) (hs : nxF (fst' sz) pos (n - pos) = Option.none) : r0 = Option.none := by
  obtain ⟨f, hf, e⟩ := h
  cases f with
  | zero => rw [← e]; rfl
  | succ f => rw [← e]; simp only [wdF, hs]

structure Wx where
  K : Nat
  P : Nat
  Q : Nat
  B : Nat
  c : Nat
  p : Nat
  q : Nat
  n : Nat
  sz : Nat → Nat
  cnt : Int

def wxA (x : Wx) (kk : Int) : Asn := exX x.c x.p x.q x.n x.sz x.cnt * (blk x.K (.cells #[.int .i64 kk] 3 (0, 0)) * (blk x.P (.cells #[.int .i64 0] 3 (0, 0)) * (blk x.Q (.cells #[.bool false] 4 (0, 0)) * blk x.B (.cells #[.pointer (some ⟨x.c, 0, none⟩)] 48 (0, 0)))))

section
variable {w0 w : World} {S : Nat → Prop} {x : Wx} {kk : Int} {C : Asn}

def wxK (x : Wx) : Asn := exX x.c x.p x.q x.n x.sz x.cnt * (blk x.P (.cells #[.int .i64 0] 3 (0, 0)) * (blk x.Q (.cells #[.bool false] 4 (0, 0)) * blk x.B (.cells #[.pointer (some ⟨x.c, 0, none⟩)] 48 (0, 0))))
theorem wx_K : wxA x kk * C = blk x.K (.cells #[.int .i64 kk] 3 (0, 0)) * (wxK x * C) := by unfold wxA wxK; ac_rfl
theorem wx_P : wxA x kk * C = blk x.P (.cells #[.int .i64 0] 3 (0, 0)) * (exX x.c x.p x.q x.n x.sz x.cnt * (blk x.K (.cells #[.int .i64 kk] 3 (0, 0)) * (blk x.Q (.cells #[.bool false] 4 (0, 0)) * blk x.B (.cells #[.pointer (some ⟨x.c, 0, none⟩)] 48 (0, 0)))) * C) := by unfold wxA; ac_rfl
theorem wx_Q : wxA x kk * C = blk x.Q (.cells #[.bool false] 4 (0, 0)) * (exX x.c x.p x.q x.n x.sz x.cnt * (blk x.K (.cells #[.int .i64 kk] 3 (0, 0)) * (blk x.P (.cells #[.int .i64 0] 3 (0, 0)) * blk x.B (.cells #[.pointer (some ⟨x.c, 0, none⟩)] 48 (0, 0)))) * C) := by unfold wxA; ac_rfl
theorem wx_B : wxA x kk * C = blk x.B (.cells #[.pointer (some ⟨x.c, 0, none⟩)] 48 (0, 0)) * (exX x.c x.p x.q x.n x.sz x.cnt * (blk x.K (.cells #[.int .i64 kk] 3 (0, 0)) * (blk x.P (.cells #[.int .i64 0] 3 (0, 0)) * blk x.Q (.cells #[.bool false] 4 (0, 0)))) * C) := by unfold wxA; ac_rfl

theorem wx_cells (h : At (wxA x kk * C) w0 S w) : (w.cell? ⟨x.K, 0, none⟩ = some (.int .i64 kk) ∧ w.frozen? ⟨x.K, 0, none⟩ = false) ∧ (w.cell? ⟨x.P, 0, none⟩ = some (.int .i64 0) ∧ w.frozen? ⟨x.P, 0, none⟩ = false) ∧ (w.cell? ⟨x.Q, 0, none⟩ = some (.bool false) ∧ w.frozen? ⟨x.Q, 0, none⟩ = false) ∧ w.cell? ⟨x.B, 0, none⟩ = some (.pointer (some ⟨x.c, 0, none⟩)) :=
  ⟨cell1 (At.blkIs (h.re wx_K)), cell1 (At.blkIs (h.re wx_P)), cell1 (At.blkIs (h.re wx_Q)), (cell1 (At.blkIs (h.re wx_B))).1⟩

theorem wx_setK (h : At (wxA x kk * C) w0 S w) (v : Int) : At (wxA x v * C) w0 S (w.setCell ⟨x.K, 0, none⟩ (.int .i64 v)) :=
  (At.set_blk (h.re wx_K) 0 (.int .i64 v)).re (by rw [wx_K]; rfl)

/-- both results are laid -/
def wxR (x : Wx) (v : Value) (u : Value) : Asn := exX x.c x.p x.q x.n x.sz x.cnt * (blk x.P (.cells #[v] 3 (0, 0)) * blk x.Q (.cells #[u] 4 (0, 0)))

theorem wx_res (h : At (wxA x kk * C) w0 S w) (v u : Value) : At (wxR x v u * C) w0 S ((w.setCell ⟨x.P, 0, none⟩ v).setCell ⟨x.Q, 0, none⟩ u) ∧ (w.setCell ⟨x.P, 0, none⟩ v).cell? ⟨x.Q, 0, none⟩ = some (.bool false) ∧ (w.setCell ⟨x.P, 0, none⟩ v).frozen? ⟨x.Q, 0, none⟩ = false := by
  have h1 : At (blk x.P (.cells #[v] 3 (0, 0)) * (exX x.c x.p x.q x.n x.sz x.cnt * (blk x.K (.cells #[.int .i64 kk] 3 (0, 0)) * (blk x.Q (.cells #[.bool false] 4 (0, 0)) * blk x.B (.cells #[.pointer (some ⟨x.c, 0, none⟩)] 48 (0, 0)))) * C)) w0 S (w.setCell ⟨x.P, 0, none⟩ v) := At.set_blk (h.re wx_P) 0 v
  have h2 := h1.re (B := blk x.Q (.cells #[.bool false] 4 (0, 0)) * (blk x.P (.cells #[v] 3 (0, 0)) * (exX x.c x.p x.q x.n x.sz x.cnt * (blk x.K (.cells #[.int .i64 kk] 3 (0, 0)) * blk x.B (.cells #[.pointer (some ⟨x.c, 0, none⟩)] 48 (0, 0))) * C))) (by ac_rfl)
  have h3 : At (blk x.Q (.cells #[u] 4 (0, 0)) * (blk x.P (.cells #[v] 3 (0, 0)) * (exX x.c x.p x.q x.n x.sz x.cnt * (blk x.K (.cells #[.int .i64 kk] 3 (0, 0)) * blk x.B (.cells #[.pointer (some ⟨x.c, 0, none⟩)] 48 (0, 0))) * C))) w0 S _ := At.set_blk h2 0 u
  refine ⟨At.dropr (C := blk x.K (.cells #[.int .i64 kk] 3 (0, 0)) * blk x.B (.cells #[.pointer (some ⟨x.c, 0, none⟩)] 48 (0, 0))) (h3.re (by unfold wxR; ac_rfl)), cell1 (At.blkIs h2)⟩

/-- the end: the results are read, the map lies there -/
theorem wx_end {D : Nat} {v u : Value} (h : At (wxR x v u * C * blk D (.deferred (some []))) w0 S w) :
    w.heap[D]? = some (.deferred (some [])) ∧ (w.putObj D (.deferred none)).cell? ⟨x.P, 0, none⟩ = some v ∧ (w.putObj D (.deferred none)).cell? ⟨x.Q, 0, none⟩ = some u ∧ At (exX x.c x.p x.q x.n x.sz x.cnt * C) w0 S (w.putObj D (.deferred none)) := by
  have h2 : At (blk D (.deferred (some [])) * (wxR x v u * C)) w0 S w := h.re (by ac_rfl)
  have h3 := h2.putObj (.deferred none)
  refine ⟨h2.blkIs, (cell1 (At.blkIs (A := exX x.c x.p x.q x.n x.sz x.cnt * blk x.Q (.cells #[u] 4 (0, 0)) * C * blk D (.deferred none)) (h3.re (by unfold wxR; ac_rfl)))).1, (cell1 (At.blkIs (A := exX x.c x.p x.q x.n x.sz x.cnt * blk x.P (.cells #[v] 3 (0, 0)) * C * blk D (.deferred none)) (h3.re (by unfold wxR; ac_rfl)))).1, ?_⟩
  exact At.dropr (C := blk x.P (.cells #[v] 3 (0, 0)) * blk x.Q (.cells #[u] 4 (0, 0)) * blk D (.deferred none)) (h3.re (by unfold wxR; ac_rfl))

def wxI (x : Wx) (r0 : Option Nat) (s : (Nat → Nat) × Int) (pre : List (Nat × Nat)) : Asn := exa fun kk : Nat => pur (s = (x.sz, x.cnt) ∧ (kk : Int) ≤ 9223372036854775807 ∧ WdAt x.sz x.n r0 (stq pre) kk) * wxA x kk

theorem wxI_of {r0 : Option Nat} {s : (Nat → Nat) × Int} {pre : List (Nat × Nat)} (h : At (wxI x r0 s pre * C) w0 S w) : ∃ kk : Nat, (s = (x.sz, x.cnt) ∧ (kk : Int) ≤ 9223372036854775807 ∧ WdAt x.sz x.n r0 (stq pre) kk) ∧ At (wxA x kk * C) w0 S w := by
  obtain ⟨kk, h⟩ := At.opens h
  have h1 := h.re (Asn.star_assoc _ _ _)
  exact ⟨kk, h1.purIs, h1.pure_out⟩

theorem wxI_mk {r0 : Option Nat} {s : (Nat → Nat) × Int} {pre : List (Nat × Nat)} (kk : Nat) (hp : s = (x.sz, x.cnt) ∧ (kk : Int) ≤ 9223372036854775807 ∧ WdAt x.sz x.n r0 (stq pre) kk) (h : At (wxA x kk * C) w0 S w) : At (wxI x r0 s pre * C) w0 S w :=
  At.shuts kk ((At.pure_in hp h).re (Asn.star_assoc _ _ _).symm)

def wxX (x : Wx) (r0 : Option Nat) (C : Asn) : Code → Asn
  | .ret => exa fun v : Nat => pur (r0 = some v) * (wxR x (.int .i64 v) (.bool true) * C)
  | _ => pur False
end

end Go.Proofs.YtaaapbfhedgnjaaDoor.BV
