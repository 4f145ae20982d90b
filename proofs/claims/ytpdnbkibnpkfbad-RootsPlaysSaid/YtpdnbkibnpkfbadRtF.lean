/- RootsPlays: the two tables beside each other. -/
import Derived.Test.YtpdnbkibnpkfbadRtE
import Derived.Test.YtpdnbkibnpkfbadRecs
namespace Go.Proofs.Ytpdnbkibnpkfbad
open Go.ChangeShapes Go.WideShapes Go.ChangeAt Go.RowKit

theorem Rt.fr {w w' : World} {c b n : Nat} {xs : Nat → Int} {S : Nat → Prop} (h : Rt w c b n xs) (f : Fr S w w') (hb : ¬ S b) (hc : ¬ S c) : Rt w' c b n xs :=
  ⟨(f.block c (lt_of_block h.1) hc).trans h.1, f.row h.2.1 hb, h.2.2⟩

def okN (n : Nat) (xs : Nat → Int) : Prop := ∀ i, i < n → 0 ≤ xs i ∧ xs i ≤ 9223372036854775807

theorem okN_put {n : Nat} {xs : Nat → Int} (h : okN n xs) (k : Nat) (a : Int) (ha : 0 ≤ a ∧ a ≤ 9223372036854775807) : okN n (put xs k a) := by
  intro i hi; unfold put; split
  · exact ha
  · exact h i hi
theorem okN_set {n : Nat} {xs : Nat → Int} (h : okN n xs) (i a : Int) (ha : a ≤ 9223372036854775807) : okN n (setF n xs i a) := by
  unfold setF; split
  · rename_i g; exact okN_put h _ _ ⟨g.2, ha⟩
  · exact h
theorem okN_copy {n : Nat} {xs : Nat → Int} (h : okN n xs) (i j : Int) : okN n (copyF n xs i j) := by
  unfold copyF; split
  · rename_i g; obtain ⟨q, rfl, hq⟩ := inn_nat g.2; exact okN_put h _ _ (h q hq)
  · exact h
theorem okN_turn {n : Nat} {xs : Nat → Int} (h : okN n xs) (B : Int) (k : Nat) : okN n (turnF B xs k) := by
  intro i hi; unfold turnF
  have := turnedV_bd (xs i) B
  have := h i hi
  split
  · split <;> omega
  · omega

/-- table, row of the reference, and the act at hand (block X) -/
structure QQ (W w : World) (c b d n : Nat) (xs ys : Nat → Int) (X : Nat) (o : Option Obj) : Prop where
  rt : Rt w c b n xs
  rw : Rw w d n ys
  db : d ≠ b
  dc : d ≠ c
  cW : W.heap.size ≤ c
  bW : W.heap.size ≤ b
  dW : W.heap.size ≤ d
  ox : okN n xs
  hx : o ≠ none → w.heap[X]? = o
  xn : o ≠ none → X ≠ b ∧ X ≠ d
  fr : Fr (fun _ => False) W w

theorem QQ.fr1 {W w w' : World} {c b d n X : Nat} {xs ys : Nat → Int} {o : Option Obj} {S : Nat → Prop} (h : QQ W w c b d n xs ys X o) (f : Fr S w w') (hb : ¬ S b) (hc : ¬ S c) (hd : ¬ S d) (hX : o ≠ none → ¬ S X) (hS : ∀ k, S k → W.heap.size ≤ k) : QQ W w' c b d n xs ys X o :=
  ⟨h.rt.fr f hb hc, f.row h.rw hd, h.db, h.dc, h.cW, h.bW, h.dW, h.ox, fun hne => by
    have e := h.hx hne
    rcases o with _ | o
    · exact absurd rfl hne
    · exact (f.block X (lt_of_block e) (hX hne)).trans e, h.xn, h.fr.trans f (fun q hq s => by have := hS q s; omega)⟩

theorem QQ.t {W w w' : World} {c b d n X : Nat} {xs ys xs' : Nat → Int} {o : Option Obj} (h : QQ W w c b d n xs ys X o) (r : Rt w' c b n xs') (f : Fr (fun k => k = b) w w') (ok : okN n xs') : QQ W w' c b d n xs' ys X o :=
  ⟨r, f.row h.rw h.db, h.db, h.dc, h.cW, h.bW, h.dW, ok, fun hne => by
    have e := h.hx hne
    rcases o with _ | o
    · exact absurd rfl hne
    · exact (f.block X (lt_of_block e) (h.xn hne).1).trans e, h.xn, h.fr.trans f (fun q hq s => by have := h.bW; omega)⟩

theorem QQ.r {W w w' : World} {c b d n X : Nat} {xs ys ys' : Nat → Int} {o : Option Obj} (h : QQ W w c b d n xs ys X o) (r : Rw w' d n ys') (f : Fr (fun k => k = d) w w') : QQ W w' c b d n xs ys' X o :=
  ⟨h.rt.fr f (fun e => h.db e.symm) (fun e => h.dc e.symm), r, h.db, h.dc, h.cW, h.bW, h.dW, h.ox, fun hne => by
    have e := h.hx hne
    rcases o with _ | o
    · exact absurd rfl hne
    · exact (f.block X (lt_of_block e) (h.xn hne).2).trans e, h.xn, h.fr.trans f (fun q hq s => by have := h.dW; omega)⟩

theorem QQ.new {W w w' : World} {c b d n X : Nat} {xs ys : Nat → Int} {o : Option Obj} (h : QQ W w c b d n xs ys X o) (f : Fr (fun _ => False) w w') : QQ W w' c b d n xs ys X o :=
  h.fr1 f (fun e => e) (fun e => e) (fun e => e) (fun _ e => e) (fun _ e => e.elim)

theorem QQ.drewN {W w : World} {c b d n X : Nat} {xs ys : Nat → Int} {o : Option Obj} (h : QQ W w c b d n xs ys X o) (m : Nat) : QQ W (w.drewN m) c b d n xs ys X o := h.new ((Fr.refl _ w).drewN m)

theorem QQ.act {W w : World} {c b d n X : Nat} {xs ys : Nat → Int} {o : Option Obj} (h : QQ W w c b d n xs ys X o) (ob : Obj) : QQ W (w.alloc ob) c b d n xs ys w.heap.size (some ob) := by
  have g := h.new ((Fr.refl _ w).alloc ob)
  have hb := lt_of_block h.rt.1
  have hb2 := h.rt.2.1.lt
  have hd := World.rowIs.lt h.rw
  exact ⟨g.rt, g.rw, g.db, g.dc, g.cW, g.bW, g.dW, g.ox, fun _ => heap_alloc_new _ _, fun _ => ⟨by omega, by omega⟩, g.fr⟩

theorem cells3 {w : World} {b : Nat} {x0 x1 x2 : Value} {t : TypeId} (h : w.heap[b]? = some (.cells #[x0, x1, x2] t (0, 0))) :
    w.cell? ⟨b, 0, none⟩ = some x0 ∧ w.cell? ⟨b, 1, none⟩ = some x1 ∧ w.cell? ⟨b, 2, none⟩ = some x2 := by
  simp [World.cell?, h]


theorem QQ.drop {W w : World} {c b d n X : Nat} {xs ys : Nat → Int} {o : Option Obj} (h : QQ W w c b d n xs ys X o) : QQ W w c b d n xs ys 0 none :=
  ⟨h.rt, h.rw, h.db, h.dc, h.cW, h.bW, h.dW, h.ox, fun e => absurd rfl e, fun e => absurd rfl e, h.fr⟩

theorem QQ.box {W w : World} {c b d n X : Nat} {xs ys : Nat → Int} {v : Value} {A B : Int} {ty : TypeId} (h : QQ W w c b d n xs ys X (some (.cells #[v, .int .i64 A, .int .i64 B] ty (0, 0)))) :
    w.cell? ⟨X, 1, none⟩ = some (.int .i64 A) ∧ w.cell? ⟨X, 2, none⟩ = some (.int .i64 B) := by
  have := cells3 (h.hx (by simp))
  exact ⟨this.2.1, this.2.2⟩

theorem QQ.set {W w : World} {c b d n X : Nat} {xs ys : Nat → Int} {o : Option Obj} (h : QQ W w c b d n xs ys X o) (i a : Int) (ha : a ≤ 9223372036854775807) : Calls Try.prog 26 #[.pointer (some ⟨c, 0, none⟩), .int .i64 i, .int .i64 a] w fun e w' => e = .returned (.int .i64 (setE n i a)) ∧ QQ W w' c b d n (setF n xs i a) ys X o :=
  (set_any h.rt i a).mono fun _ _ ⟨he, r, f⟩ => ⟨he, h.t r f (okN_set h.ox i a ha)⟩
theorem QQ.rset {W w : World} {c b d n X : Nat} {xs ys : Nat → Int} {o : Option Obj} (h : QQ W w c b d n xs ys X o) (hn : n ≤ 64) (i a : Int) : Calls Try.prog 27 #[.slice (some ⟨d, 0, none⟩) n n, .int .i64 i, .int .i64 a] w fun e w' => e = .returned (.int .i64 (setE n i a)) ∧ QQ W w' c b d n xs (setF n ys i a) X o :=
  (rset_any h.rw hn i a).mono fun _ _ ⟨he, r, f⟩ => ⟨he, h.r r f⟩
theorem QQ.copy {W w : World} {c b d n X : Nat} {xs ys : Nat → Int} {o : Option Obj} (h : QQ W w c b d n xs ys X o) (i j : Int) : Calls Try.prog 28 #[.pointer (some ⟨c, 0, none⟩), .int .i64 i, .int .i64 j] w fun e w' => e = .returned (.int .i64 (copyE n i j)) ∧ QQ W w' c b d n (copyF n xs i j) ys X o :=
  (copy_any h.rt (fun i hi => (h.ox i hi).1) i j).mono fun _ _ ⟨he, r, f⟩ => ⟨he, h.t r f (okN_copy h.ox i j)⟩
theorem QQ.rcopy {W w : World} {c b d n X : Nat} {xs ys : Nat → Int} {o : Option Obj} (h : QQ W w c b d n xs ys X o) (hn : n ≤ 64) (i j : Int) : Calls Try.prog 29 #[.slice (some ⟨d, 0, none⟩) n n, .int .i64 i, .int .i64 j] w fun e w' => e = .returned (.int .i64 (copyE n i j)) ∧ QQ W w' c b d n xs (copyF n ys i j) X o :=
  (rcopy_any h.rw hn i j).mono fun _ _ ⟨he, r, f⟩ => ⟨he, h.r r f⟩
theorem QQ.get {W w : World} {c b d n X : Nat} {xs ys : Nat → Int} {o : Option Obj} (h : QQ W w c b d n xs ys X o) (i : Int) : Calls Try.prog 33 #[.pointer (some ⟨c, 0, none⟩), .int .i64 i] w fun e w' => e = .returned (.tuple #[.int .i64 (getV n xs i), .int .i64 (getE n i)]) ∧ QQ W w' c b d n xs ys X o :=
  (get_any h.rt i).mono fun _ _ ⟨he, m, hm⟩ => ⟨he, hm ▸ h.drewN m⟩
theorem QQ.rget {W w : World} {c b d n X : Nat} {xs ys : Nat → Int} {o : Option Obj} (h : QQ W w c b d n xs ys X o) (hn : n ≤ 64) (i : Int) : Calls Try.prog 34 #[.slice (some ⟨d, 0, none⟩) n n, .int .i64 i] w fun e w' => e = .returned (.tuple #[.int .i64 (getV n ys i), .int .i64 (getE n i)]) ∧ QQ W w' c b d n xs ys X o :=
  (rget_any h.rw hn i).mono fun _ _ ⟨he, hm⟩ => ⟨he, hm ▸ h⟩
theorem QQ.turn {W w : World} {c b d n X : Nat} {xs ys : Nat → Int} {v0 v1 : Value} {B : Int} {ty : TypeId} (h : QQ W w c b d n xs ys X (some (.cells #[v0, v1, .int .i64 B] ty (0, 0)))) (hn : n ≤ 64) :
    Calls Try.prog 30 #[.pointer (some ⟨c, 0, none⟩), .func (.func 31) #[] #[.pointer (some ⟨X, 0, none⟩)]] w fun e w' => e = .returned (.tuple #[]) ∧ QQ W w' c b d n (turnF B xs n) ys X (some (.cells #[v0, v1, .int .i64 B] ty (0, 0))) :=
  (turn_any h.rt hn (h.hx (by simp)) (h.xn (by simp)).1).mono fun _ _ ⟨he, r, f⟩ => ⟨he, h.t r f (okN_turn h.ox B n)⟩

/-- behind All: its row is beside everything -/
structure AA (W w : World) (c b d n g cap : Nat) (xs : Nat → Int) (X : Nat) (o : Option Obj) : Prop where
  q : QQ W w c b d n xs xs X o
  nc : n ≤ cap
  gW : W.heap.size ≤ g
  gb : g ≠ b
  gc : g ≠ c
  gd : g ≠ d
  cell : ∀ i, i < n → w.cell? ⟨g, i, none⟩ = some (.int .i64 (xs i))
  frz : ∀ i, w.frozen? ⟨g, i, none⟩ = false

theorem QQ.all {W w : World} {c b d n X : Nat} {xs : Nat → Int} {o : Option Obj} (h : QQ W w c b d n xs xs X o) (hn : n ≤ 64) (h1 : 1 ≤ n) : Calls Try.prog 35 #[.pointer (some ⟨c, 0, none⟩)] w fun e w' => ∃ g cap, e = .returned (.slice (some ⟨g, 0, none⟩) n cap) ∧ AA W w' c b d n g cap xs X o :=
  (all_any h.rt hn h1).mono fun _ w' ⟨g, cap, he, q1, q2, q3, q4, q5⟩ => by
    have hb := lt_of_block h.rt.1
    have hb2 := h.rt.2.1.lt
    have hd := World.rowIs.lt h.rw
    have hs := h.fr.size
    exact ⟨g, cap, he, h.new (Fr.ofBelow q5 (fun k hk _ => hk)), q1, by omega, by omega, by omega, by omega, q3, q4⟩

theorem AA.drewN {W w : World} {c b d n g cap X : Nat} {xs : Nat → Int} {o : Option Obj} (h : AA W w c b d n g cap xs X o) (m : Nat) : AA W (w.drewN m) c b d n g cap xs X o := ⟨h.q.drewN m, h.nc, h.gW, h.gb, h.gc, h.gd, h.cell, h.frz⟩

theorem AA.same {W w : World} {c b d n g cap X : Nat} {xs : Nat → Int} {o : Option Obj} (h : AA W w c b d n g cap xs X o) (hn : n ≤ 64) : Calls Try.prog 36 #[.slice (some ⟨g, 0, none⟩) n cap, .slice (some ⟨d, 0, none⟩) n n] w fun e w' => e = .returned (.bool true) ∧ ∃ m, w' = w.drewN m := same_any h.q.rw hn h.cell
theorem AA.len {W w : World} {c b d n g cap X : Nat} {xs : Nat → Int} {o : Option Obj} (h : AA W w c b d n g cap xs X o) : Calls Try.prog 37 #[.pointer (some ⟨c, 0, none⟩)] w fun e w' => e = .returned (.int .i64 n) ∧ ∃ m, w' = w.drewN m := len_any h.q.rt

/-- what is told may be changed -/
theorem AA.poke {W w : World} {c b d n g cap X : Nat} {xs : Nat → Int} {o : Option Obj} (h : AA W w c b d n g cap xs X o) (u : Value) : QQ W (w.setCell ⟨g, 0, none⟩ u) c b d n xs xs 0 none :=
  h.q.drop.fr1 (S := fun k => k = g) ((Fr.refl (fun k => k = g) w).setCell (p := ⟨g, 0, none⟩) (fun _ => rfl) u) (fun e => h.gb e.symm) (fun e => h.gc e.symm) (fun e => h.gd e.symm) (fun e => absurd rfl e) (fun k e => by have := h.gW; omega)

end Go.Proofs.Ytpdnbkibnpkfbad
