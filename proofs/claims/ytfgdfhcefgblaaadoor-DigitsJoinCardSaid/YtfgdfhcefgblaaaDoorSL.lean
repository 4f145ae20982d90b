/- A small logic of blocks that are owned apart: assertions with footprints, products of them, what a call does to them. -/
import Derived.Test.YtfgdfhcefgblaaaDoorSep
import Derived.Laws.IdiomCopy
import Derived.Lib.SliceRun
import Derived.Deep.OwnRows
namespace Go.Proofs.YtfgdfhcefgblaaaDoor
open Go.ChangeShapes Go.WideShapes Go.ChangeAt Go.RowKit

/-- what some blocks hold -/
structure Asn where
  holds : World → (Nat → Prop) → Prop
  lt : ∀ {w S}, holds w S → ∀ k, S k → k < w.heap.size
  keep : ∀ {w w' S}, holds w S → (∀ k, S k → w'.heap[k]? = w.heap[k]?) → holds w' S

theorem Asn.ext' {A B : Asn} (h : ∀ w S, A.holds w S ↔ B.holds w S) : A = B := by
  have e : A.holds = B.holds := by funext w S; exact propext (h w S)
  cases A; cases B; cases e; rfl

theorem lt_of_same {w w' : World} {k : Nat} (h : w'.heap[k]? = w.heap[k]?) (hk : k < w.heap.size) : k < w'.heap.size := by
  rw [Array.getElem?_eq_getElem hk] at h
  exact lt_of_block h

/-- both, in blocks apart -/
def Asn.star (A B : Asn) : Asn where
  holds w S := ∃ S1 S2, A.holds w S1 ∧ B.holds w S2 ∧ (∀ k, S1 k → ¬ S2 k) ∧ (∀ k, S k ↔ S1 k ∨ S2 k)
  lt := by
    rintro w S ⟨S1, S2, a, b, _, hS⟩ k hk
    rcases (hS k).1 hk with h | h
    · exact A.lt a k h
    · exact B.lt b k h
  keep := by
    rintro w w' S ⟨S1, S2, a, b, d, hS⟩ hk
    exact ⟨S1, S2, A.keep a (fun k h => hk k ((hS k).2 (.inl h))), B.keep b (fun k h => hk k ((hS k).2 (.inr h))), d, hS⟩

instance : Mul Asn := ⟨Asn.star⟩

theorem star_def (A B : Asn) (w : World) (S : Nat → Prop) : (A * B).holds w S ↔ ∃ S1 S2, A.holds w S1 ∧ B.holds w S2 ∧ (∀ k, S1 k → ¬ S2 k) ∧ (∀ k, S k ↔ S1 k ∨ S2 k) := Iff.rfl

theorem Asn.star_comm (A B : Asn) : A * B = B * A := by
  refine Asn.ext' fun w S => ⟨?_, ?_⟩ <;> (rintro ⟨S1, S2, a, b, d, hS⟩; exact ⟨S2, S1, b, a, fun k h2 h1 => d k h1 h2, fun k => (hS k).trans Or.comm⟩)

theorem Asn.star_assoc (A B C : Asn) : A * B * C = A * (B * C) := by
  refine Asn.ext' fun w S => ⟨?_, ?_⟩
  · rintro ⟨S1, S2, ⟨T1, T2, a, b, d, hT⟩, c, d2, hS⟩
    refine ⟨T1, fun k => T2 k ∨ S2 k, a, ⟨T2, S2, b, c, fun k h => d2 k ((hT k).2 (.inr h)), fun k => Iff.rfl⟩, ?_, ?_⟩
    · rintro k h (g | g)
      · exact d k h g
      · exact d2 k ((hT k).2 (.inl h)) g
    · intro k; rw [hS, hT, or_assoc]
  · rintro ⟨S1, S2, a, ⟨T1, T2, b, c, d, hT⟩, d2, hS⟩
    refine ⟨fun k => S1 k ∨ T1 k, T2, ⟨S1, T1, a, b, fun k h g => d2 k h ((hT k).2 (.inl g)), fun k => Iff.rfl⟩, c, ?_, ?_⟩
    · rintro k (h | h) g
      · exact d2 k h ((hT k).2 (.inr g))
      · exact d k h g
    · intro k; rw [hS, hT, or_assoc]

instance : Std.Associative (α := Asn) (· * ·) := ⟨Asn.star_assoc⟩
instance : Std.Commutative (α := Asn) (· * ·) := ⟨Asn.star_comm⟩

/-- nothing of memory, and a fact -/
def pur (p : Prop) : Asn where
  holds _ S := p ∧ ∀ k, ¬ S k
  lt := fun h k hk => absurd hk (h.2 k)
  keep := fun h _ => h

/-- a block -/
def blk (b : Nat) (o : Obj) : Asn where
  holds w S := w.heap[b]? = some o ∧ ∀ k, S k ↔ k = b
  lt := fun h k hk => by rw [(h.2 k).1 hk]; exact lt_of_block h.1
  keep := fun h hk => ⟨(hk b ((h.2 b).2 rfl)).trans h.1, h.2⟩

/-- a row of cells -/
def row (b : Nat) (t : TypeId) (n : Nat) (f : Nat → Value) : Asn where
  holds w S := w.rowIs b t n f ∧ ∀ k, S k ↔ k = b
  lt := fun h k hk => by rw [(h.2 k).1 hk]; exact h.1.lt
  keep := fun h hk => ⟨h.1.of_block (hk b ((h.2 b).2 rfl)), h.2⟩

theorem owns_same {w w' : World} {B n z : Nat} {e : TypeId} {v : Value} {xs : List Value} (ho : w.ownsRow B e z v n xs) (hS : ∀ k, v.ownBlock = some k → w'.heap[k]? = w.heap[k]?) : w'.ownsRow B e z v n xs := by
  refine ⟨ho.1, ?_⟩
  rcases ho.2 with hn | ⟨g, cap, cur, rfl, hb, hg, rest⟩
  · exact .inl hn
  · exact .inr ⟨g, cap, cur, rfl, hb, (hS g rfl).trans hg, rest⟩

/-- a row that a slice value owns -/
def own (e : TypeId) (z : Nat) (v : Value) (n : Nat) (xs : List Value) : Asn where
  holds w S := w.ownsRow 0 e z v n xs ∧ ∀ k, S k ↔ v.ownBlock = some k
  lt := fun h k hk => (h.1.lt k ((h.2 k).1 hk)).2
  keep := fun h hk => ⟨owns_same h.1 (fun k e => hk k ((h.2 k).2 e)), h.2⟩

/-- of some x -/
def exa {X : Type} (A : X → Asn) : Asn where
  holds w S := ∃ x, (A x).holds w S
  lt := fun ⟨x, h⟩ => (A x).lt h
  keep := fun ⟨x, h⟩ hk => ⟨x, (A x).keep h hk⟩

/-- where a walk stands that began at w0 with the blocks S0 -/
def At (A : Asn) (w0 : World) (S0 : Nat → Prop) (w : World) : Prop := ∃ S, A.holds w S ∧ (∀ k, S k → S0 k ∨ w0.heap.size ≤ k) ∧ Fr S0 w0 w

theorem At.refl {A : Asn} {w : World} {S : Nat → Prop} (h : A.holds w S) : At A w S w := ⟨S, h, fun _ h => .inl h, Fr.refl _ _⟩

theorem At.re {A B : Asn} {w0 w : World} {S0 : Nat → Prop} (h : At A w0 S0 w) (e : A = B) : At B w0 S0 w := e ▸ h

theorem At.imp {A B : Asn} {w0 w : World} {S0 : Nat → Prop} (h : At A w0 S0 w) (i : ∀ S, A.holds w S → B.holds w S) : At B w0 S0 w := by
  obtain ⟨S, a, b, c⟩ := h
  exact ⟨S, i S a, b, c⟩

theorem star_impl {A B C : Asn} {w : World} {S : Nat → Prop} (i : ∀ S, A.holds w S → B.holds w S) (h : (A * C).holds w S) : (B * C).holds w S := by
  obtain ⟨S1, S2, a, b, d, hS⟩ := h
  exact ⟨S1, S2, i _ a, b, d, hS⟩

theorem At.impl {A B C : Asn} {w0 w : World} {S0 : Nat → Prop} (h : At (A * C) w0 S0 w) (i : ∀ S, A.holds w S → B.holds w S) : At (B * C) w0 S0 w := h.imp fun _ => star_impl i

theorem At.left {A C : Asn} {w0 w : World} {S0 : Nat → Prop} (h : At (A * C) w0 S0 w) : ∃ S, A.holds w S := by
  obtain ⟨S, ⟨S1, S2, a, _⟩, _⟩ := h
  exact ⟨S1, a⟩

theorem At.dropr {A C : Asn} {w0 w : World} {S0 : Nat → Prop} (h : At (A * C) w0 S0 w) : At A w0 S0 w := by
  obtain ⟨S, ⟨S1, S2, a, b, d, hS⟩, hl, hf⟩ := h
  exact ⟨S1, a, fun k hk => hl k ((hS k).2 (.inl hk)), hf⟩

theorem At.size {A : Asn} {w0 w : World} {S0 : Nat → Prop} (h : At A w0 S0 w) : w0.heap.size ≤ w.heap.size := by
  obtain ⟨S, _, _, hf⟩ := h
  exact hf.size

theorem At.drewN {A : Asn} {w0 w : World} {S0 : Nat → Prop} (h : At A w0 S0 w) (n : Nat) : At A w0 S0 (w.drewN n) := by
  obtain ⟨S, a, b, hf⟩ := h
  exact ⟨S, A.keep (w' := w.drewN n) a (fun _ _ => rfl), b, hf.drewN n⟩

theorem At.drew {A : Asn} {w0 w : World} {S0 : Nat → Prop} (h : At A w0 S0 w) : At A w0 S0 w.drew := h.drewN 1

/-- what the frame lets be written -/
theorem At.step {A B : Asn} {w0 w w' : World} {S0 : Nat → Prop} (h : At A w0 S0 w) (k : ∀ S, A.holds w S → At B w S w') : At B w0 S0 w' := by
  obtain ⟨S, a, b, hf⟩ := h
  obtain ⟨S', a', b', hf'⟩ := k S a
  have hs := hf.size
  refine ⟨S', a', fun k hk => ?_, hf.trans hf' fun q hq hS => ?_⟩
  · rcases b' k hk with h | h
    · exact b k h
    · exact .inr (by omega)
  · rcases b q hS with h | h
    · exact h
    · omega

theorem At.frame {A B C : Asn} {w0 w w' : World} {S0 : Nat → Prop} (h : At (A * C) w0 S0 w) (k : ∀ S, A.holds w S → At B w S w') : At (B * C) w0 S0 w' := by
  refine h.step ?_
  rintro S ⟨S1, S2, a, c, d, hS⟩
  obtain ⟨S', a', b', hf'⟩ := k S1 a
  refine ⟨fun k => S' k ∨ S2 k, ⟨S', S2, a', C.keep c ?_, ?_, fun k => Iff.rfl⟩, ?_, hf'.mono fun q h => (hS q).2 (.inl h)⟩
  · intro k hk
    exact hf'.block k (C.lt c k hk) (fun h => d k h hk)
  · intro k hk h2
    rcases b' k hk with h | h
    · exact d k h h2
    · have := C.lt c k h2; omega
  · rintro k (hk | hk)
    · rcases b' k hk with h | h
      · exact .inl ((hS k).2 (.inl h))
      · exact .inr h
    · exact .inl ((hS k).2 (.inr hk))

theorem At.alloc {A : Asn} {w0 w : World} {S0 : Nat → Prop} (h : At A w0 S0 w) (o : Obj) : At (blk w.heap.size o * A) w0 S0 (w.alloc o) := by
  refine h.step ?_
  intro S a
  refine ⟨fun k => k = w.heap.size ∨ S k, ⟨fun k => k = w.heap.size, S, ⟨heap_alloc_new _ _, fun _ => Iff.rfl⟩, A.keep a fun k hk => Below.heap_alloc _ _ _ (A.lt a k hk), ?_, fun _ => Iff.rfl⟩, ?_, (Fr.refl _ _).alloc o⟩
  · rintro k rfl h
    have := A.lt a _ h; omega
  · rintro k (rfl | h)
    · exact .inr (Nat.le_refl _)
    · exact .inl h

theorem sblk_set {w : World} {b i : Nat} {c : Array Value} {t : TypeId} {fz : Nat × Nat} (h : w.heap[b]? = some (.cells c t fz)) (u : Value) : (w.setCell ⟨b, i, none⟩ u).heap[b]? = some (.cells (c.setIfInBounds i u) t fz) := by
  simp [World.setCell, Array.getElem?_modify, h]

theorem At.set_blk {A : Asn} {w0 w : World} {S0 : Nat → Prop} {b : Nat} {c : Array Value} {t : TypeId} {fz : Nat × Nat} (h : At (blk b (.cells c t fz) * A) w0 S0 w) (i : Nat) (v : Value) :
    At (blk b (.cells (c.setIfInBounds i v) t fz) * A) w0 S0 (w.setCell ⟨b, i, none⟩ v) := by
  refine h.frame ?_
  rintro S ⟨a, hS⟩
  exact ⟨S, ⟨sblk_set a v, hS⟩, fun _ h => .inl h, (Fr.refl S w).setCell (p := ⟨b, i, none⟩) (fun _ => (hS b).2 rfl) v⟩

theorem At.set_row {A : Asn} {w0 w : World} {S0 : Nat → Prop} {b n : Nat} {f : Nat → Value} {t : TypeId} (h : At (row b t n f * A) w0 S0 w) (i : Nat) (v : Value) :
    At (row b t n (fun j => if j = i then v else f j) * A) w0 S0 (w.setCell ⟨b, i, none⟩ v) := by
  refine h.frame ?_
  rintro S ⟨a, hS⟩
  exact ⟨S, ⟨a.set i v, hS⟩, fun _ h => .inl h, (Fr.refl S w).setCell (p := ⟨b, i, none⟩) (fun _ => (hS b).2 rfl) v⟩

/-- an append to a row that is owned -/
theorem At.grow {A : Asn} {w0 w w' : World} {S0 : Nat → Prop} {e : TypeId} {z n n' : Nat} {v v' : Value} {xs ys : List Value} (h : At (own e z v n xs * A) w0 S0 w) (ho : w'.ownsRow 0 e z v' n' ys) (hg : w.grownBy w' v.ownBlock)
    (hw : ∀ k, v'.ownBlock = some k → v.ownBlock = some k ∨ w.heap.size ≤ k) : At (own e z v' n' ys * A) w0 S0 w' := by
  refine h.frame ?_
  rintro S ⟨a, hS⟩
  refine ⟨fun k => v'.ownBlock = some k, ⟨ho, fun _ => Iff.rfl⟩, ?_, (Fr.refl S w).grown hg fun k e _ => (hS k).2 e⟩
  intro k hk
  rcases hw k hk with h | h
  · exact .inl ((hS k).2 h)
  · exact .inr h

/-- a block of cells as a row -/
theorem blk_row {b : Nat} {c : Array Value} {t : TypeId} {n : Nat} {f : Nat → Value} (hn : c.size = n) (hc : ∀ i, i < n → c[i]? = some (f i)) (w : World) (S : Nat → Prop) (h : (blk b (.cells c t (0, 0))).holds w S) : (row b t n f).holds w S :=
  ⟨⟨c, h.1, hn, hc⟩, h.2⟩

theorem row_congr {b : Nat} {t : TypeId} {n : Nat} {f g : Nat → Value} (e : ∀ i, i < n → f i = g i) (w : World) (S : Nat → Prop) (h : (row b t n f).holds w S) : (row b t n g).holds w S := ⟨h.1.congr e, h.2⟩

theorem At.blkIs {A : Asn} {w0 w : World} {S0 : Nat → Prop} {b : Nat} {o : Obj} (h : At (blk b o * A) w0 S0 w) : w.heap[b]? = some o := by
  obtain ⟨S, a⟩ := h.left
  exact a.1

theorem At.rowIs {A : Asn} {w0 w : World} {S0 : Nat → Prop} {b n : Nat} {f : Nat → Value} {t : TypeId} (h : At (row b t n f * A) w0 S0 w) : w.rowIs b t n f := by
  obtain ⟨S, a⟩ := h.left
  exact a.1

theorem At.ownIs {A : Asn} {w0 w : World} {S0 : Nat → Prop} {e : TypeId} {z n : Nat} {v : Value} {xs : List Value} (h : At (own e z v n xs * A) w0 S0 w) : w.ownsRow 0 e z v n xs := by
  obtain ⟨S, a⟩ := h.left
  exact a.1

/-- a block that an assertion surely has -/
def Asn.has (A : Asn) (b : Nat) : Prop := ∀ w S, A.holds w S → S b
theorem has_blk (b : Nat) (o : Obj) : (blk b o).has b := fun _ _ h => (h.2 b).2 rfl
theorem has_row (b : Nat) (t : TypeId) (n : Nat) (f : Nat → Value) : (row b t n f).has b := fun _ _ h => (h.2 b).2 rfl
theorem has_own (b : Nat) (e : TypeId) (z n : Nat) (xs : List Value) (cap : Nat) : (own e z (.slice (some ⟨b, 0, none⟩) n cap) n xs).has b := fun _ _ h => (h.2 b).2 rfl
theorem has_l {A B : Asn} {b : Nat} (h : A.has b) : (A * B).has b := by rintro w S ⟨S1, S2, a, _, _, hS⟩; exact (hS b).2 (.inl (h _ _ a))
theorem has_r {A B : Asn} {b : Nat} (h : B.has b) : (A * B).has b := by rintro w S ⟨S1, S2, _, a, _, hS⟩; exact (hS b).2 (.inr (h _ _ a))

theorem At.ne {A B : Asn} {w0 w : World} {S0 : Nat → Prop} {a b : Nat} (h : At (A * B) w0 S0 w) (ha : A.has a) (hb : B.has b) : a ≠ b := by
  obtain ⟨S, ⟨S1, S2, x, y, d, hS⟩, _⟩ := h
  rintro rfl
  exact d a (ha _ _ x) (hb _ _ y)

theorem At.hlt {A : Asn} {w0 w : World} {S0 : Nat → Prop} {a : Nat} (h : At A w0 S0 w) (ha : A.has a) : a < w.heap.size := by
  obtain ⟨S, x, _⟩ := h
  exact A.lt x a (ha _ _ x)

theorem At.below {A : Asn} {W w : World} (h : At A W (fun _ => False) w) : Below W.heap.size W w := by
  obtain ⟨S, _, _, hf⟩ := h
  exact hf.below (Nat.le_refl _) (fun _ _ h => h)

/-- a fact -/
theorem At.purIs {A : Asn} {w0 w : World} {S0 : Nat → Prop} {p : Prop} (h : At (pur p * A) w0 S0 w) : p := by
  obtain ⟨S, a⟩ := h.left
  exact a.1

theorem At.pure_in {A : Asn} {w0 w : World} {S0 : Nat → Prop} {p : Prop} (hp : p) (h : At A w0 S0 w) : At (pur p * A) w0 S0 w :=
  h.imp fun S a => ⟨fun _ => False, S, ⟨hp, fun _ => id⟩, a, (fun _ h => h.elim), fun k => by simp⟩

theorem At.pure_out {A : Asn} {w0 w : World} {S0 : Nat → Prop} {p : Prop} (h : At (pur p * A) w0 S0 w) : At A w0 S0 w := by
  refine h.imp ?_
  rintro S ⟨S1, S2, a, b, d, hS⟩
  have : S = S2 := by
    funext k; refine propext ((hS k).trans ⟨?_, .inr⟩)
    rintro (h | h)
    · exact absurd h (a.2 k)
    · exact h
  rw [this]; exact b

theorem At.emp (w : World) : At (pur True) w (fun _ => False) w := ⟨fun _ => False, ⟨trivial, fun _ => id⟩, fun _ h => h.elim, Fr.refl _ _⟩

theorem exa_star {X : Type} (A : X → Asn) (B : Asn) : exa A * B = exa fun x => A x * B := by
  refine Asn.ext' fun w S => ⟨?_, ?_⟩
  · rintro ⟨S1, S2, ⟨x, a⟩, b, d, hS⟩
    exact ⟨x, S1, S2, a, b, d, hS⟩
  · rintro ⟨x, S1, S2, a, b, d, hS⟩
    exact ⟨S1, S2, ⟨x, a⟩, b, d, hS⟩

theorem At.exaIs {X : Type} {A : X → Asn} {w0 w : World} {S0 : Nat → Prop} (h : At (exa A) w0 S0 w) : ∃ x, At (A x) w0 S0 w := by
  obtain ⟨S, ⟨x, a⟩, b⟩ := h
  exact ⟨x, S, a, b⟩

theorem At.ofex {X : Type} {A : X → Asn} {w0 w : World} {S0 : Nat → Prop} (x : X) (h : At (A x) w0 S0 w) : At (exa A) w0 S0 w := h.imp fun _ a => ⟨x, a⟩

theorem At.opens {X : Type} {A : X → Asn} {B : Asn} {w0 w : World} {S0 : Nat → Prop} (h : At (exa A * B) w0 S0 w) : ∃ x, At (A x * B) w0 S0 w := (h.re (exa_star A B)).exaIs

theorem At.shuts {X : Type} {A : X → Asn} {B : Asn} {w0 w : World} {S0 : Nat → Prop} (x : X) (h : At (A x * B) w0 S0 w) : At (exa A * B) w0 S0 w := (At.ofex x h).re (exa_star A B).symm

/-- what a call does to the blocks that it has -/
def Tri (P : Program) (f : FuncId) (args : Array Value) (A : Asn) {X : Type} (v : X → Value) (B : X → Asn) : Prop :=
  ∀ w S, A.holds w S → Calls P f args w fun e w' => ∃ x, e = .returned (v x) ∧ At (B x) w S w'

theorem At.tri {P : Program} {f : FuncId} {args : Array Value} {A C : Asn} {X : Type} {v : X → Value} {B : X → Asn} {w0 w : World} {S0 : Nat → Prop} (h : At (A * C) w0 S0 w) (t : Tri P f args A v B) :
    Calls P f args w fun e w' => ∃ x, e = .returned (v x) ∧ At (B x * C) w0 S0 w' := by
  obtain ⟨S, ⟨S1, S2, a, c, d, hS⟩, b, hf⟩ := h
  refine (t w S1 a).mono ?_
  rintro e w' ⟨x, he, k⟩
  refine ⟨x, he, ?_⟩
  have H : At (A * C) w0 S0 w := ⟨S, ⟨S1, S2, a, c, d, hS⟩, b, hf⟩
  have K : At (B x * C) w S w' := by
    obtain ⟨S', a', b', hf'⟩ := k
    refine ⟨fun k => S' k ∨ S2 k, ⟨S', S2, a', C.keep c (fun k hk => hf'.block k (C.lt c k hk) (fun h => d k h hk)), ?_, fun k => Iff.rfl⟩, ?_, hf'.mono fun q h => (hS q).2 (.inl h)⟩
    · intro k hk h2
      rcases b' k hk with h | h
      · exact d k h h2
      · have := C.lt c k h2; omega
    · rintro k (hk | hk)
      · rcases b' k hk with h | h
        · exact .inl ((hS k).2 (.inl h))
        · exact .inr h
      · exact .inl ((hS k).2 (.inr hk))
  have hs := hf.size
  obtain ⟨S', a', b', hf'⟩ := K
  refine ⟨S', a', fun k hk => ?_, hf.trans hf' fun q hq hS => ?_⟩
  · rcases b' k hk with h | h
    · exact b k h
    · exact .inr (by omega)
  · rcases b q hS with h | h
    · exact h
    · omega

/-- the same, where one result is told -/
def Tri1 (P : Program) (f : FuncId) (args : Array Value) (A : Asn) (v : Value) (B : Asn) : Prop :=
  ∀ w S, A.holds w S → Calls P f args w fun e w' => e = .returned v ∧ At B w S w'

theorem At.tri1 {P : Program} {f : FuncId} {args : Array Value} {A B C : Asn} {v : Value} {w0 w : World} {S0 : Nat → Prop} (h : At (A * C) w0 S0 w) (t : Tri1 P f args A v B) :
    Calls P f args w fun e w' => e = .returned v ∧ At (B * C) w0 S0 w' :=
  (h.tri (v := fun _ : Unit => v) (B := fun _ => B) (fun w S a => (t w S a).mono fun _ _ ⟨h1, h2⟩ => ⟨(), h1, h2⟩)).mono fun _ _ ⟨_, h1, h2⟩ => ⟨h1, h2⟩

/-- a call that finds what it needs and leaves the world alone -/
def Ask (P : Program) (f : FuncId) (args : Array Value) (A : Asn) (v : Value) : Prop :=
  ∀ w S, A.holds w S → Calls P f args w fun e w' => e = .returned v ∧ w = w'

theorem At.ask {P : Program} {f : FuncId} {args : Array Value} {A C : Asn} {v : Value} {w0 w : World} {S0 : Nat → Prop} (h : At (A * C) w0 S0 w) (t : Ask P f args A v) :
    Calls P f args w fun e w' => e = .returned v ∧ w = w' := by
  obtain ⟨S, a⟩ := h.left
  exact t w S a

theorem Ask.tri {P : Program} {f : FuncId} {args : Array Value} {A : Asn} {v : Value} (t : Ask P f args A v) : Tri1 P f args A v A :=
  fun w S a => (t w S a).mono fun _ _ ⟨h1, h2⟩ => ⟨h1, by subst h2; exact At.refl a⟩

theorem At.set_same {A : Asn} {w0 : World} {S0 : Nat → Prop} {b : Nat} {t : TypeId} {n : Nat} {z : Value} : ∀ (m : Nat) (w : World) (o : Nat) (f : Nat → Value), At (row b t n f * A) w0 S0 w →
    At (row b t n (fun j => if o ≤ j ∧ j < o + m then z else f j) * A) w0 S0 (w.setCells b o (List.replicate m z)) := by
  intro m
  induction m with
  | zero =>
    intro w o f h
    exact h.impl fun S a => row_congr (fun i _ => by rw [if_neg (by omega)]) w S a
  | succ m ih =>
    intro w o f h
    have h1 := ih _ (o + 1) _ (h.set_row o z)
    refine At.impl (A := row b t n _) h1 fun S a => row_congr (fun i _ => ?_) _ S a
    by_cases e : i = o
    · subst e; rw [if_neg (by omega), if_pos rfl, if_pos (by omega)]
    · by_cases e2 : o + 1 ≤ i ∧ i < o + 1 + m
      · rw [if_pos e2, if_pos (by omega)]
      · rw [if_neg e2, if_neg e, if_neg (by omega)]

/-- clear of a part of a row -/
theorem wpList_clear_row {P : Program} (w : World) {ops : Array Oper} {rest : List Oper} {o : Oper} {a : Act} {Q : Exit → Act → World → Prop} (hg : o.guard = none) (x : Operand) (t : TypeId)
    (hop : o.op = .call { callee := .builtin .clear, args := #[x], argTypes := #[t] }) (e : TypeId) (z : Value) (ht : P.underlying t = some (.slice e)) (hv : ∀ w, (zeroValue e).run P w = .ok z w) (hz : z.cells = #[z]) (h1 : z.oneCell' = true)
    (b off n c N : Nat) (tt : TypeId) (f : Nat → Value) (hx : a.eval x = .slice (some ⟨b, off, none⟩) n c) (hn : 0 < n) (hrow : w.rowIs b tt N f) (hle : off + n ≤ N)
    (hK : wpList P ops Q rest (a.put o.dst (.tuple #[])) (w.setCells b off (List.replicate n z))) : wpList P ops Q (o :: rest) a w := by
  refine wpList_plain hg fun K hK' => ?_
  have hrun := fun ty => Lib.run_clear_slice (P := P) w t e ty z ht hv hz h1 b off n c hn (fun j hj => by rw [hrow.cell (by omega)]; rfl) (fun j _ => hrow.frozen _)
  unfold Oper.wp
  simp [execOp, hop, resolve, invoke, builtin, hx, hrun, Result.andThen]
  exact hK' _ _ hK

/-- a call that only reads -/
def Look (P : Program) (f : FuncId) (args : Array Value) (A : Asn) (v : Value) : Prop :=
  ∀ w S, A.holds w S → Calls P f args w fun e w' => e = .returned v ∧ ∃ n, w' = w.drewN n

theorem At.look {P : Program} {f : FuncId} {args : Array Value} {A C : Asn} {v : Value} {w0 w : World} {S0 : Nat → Prop} (h : At (A * C) w0 S0 w) (t : Look P f args A v) :
    Calls P f args w fun e w' => e = .returned v ∧ ∃ n, w' = w.drewN n := by
  obtain ⟨S, a⟩ := h.left
  exact t w S a

theorem Look.tri {P : Program} {f : FuncId} {args : Array Value} {A : Asn} {v : Value} (t : Look P f args A v) : Tri1 P f args A v A :=
  fun w S a => (t w S a).mono fun _ _ ⟨h1, n, h2⟩ => ⟨h1, by subst h2; exact (At.refl a).drewN n⟩

theorem Ask.look {P : Program} {f : FuncId} {args : Array Value} {A : Asn} {v : Value} (t : Ask P f args A v) : Look P f args A v :=
  fun w S a => (t w S a).mono fun _ _ ⟨h1, h2⟩ => ⟨h1, 0, h2.symm⟩

theorem wpList_clear_sl {P : Program} (w : World) {ops : Array Oper} {rest : List Oper} {o : Oper} {a : Act} {Q : Exit → Act → World → Prop} (hg : o.guard = none) (x : Operand) (t : TypeId)
    (hop : o.op = .call { callee := .builtin .clear, args := #[x], argTypes := #[t] }) (e : TypeId) (z : Value) (ht : P.underlying t = some (.slice e)) (hv : ∀ w, (zeroValue e).run P w = .ok z w) (hz : z.cells = #[z]) (h1 : z.oneCell' = true)
    (b off n c N : Nat) (tt : TypeId) (f : Nat → Value) (hx : a.eval x = .slice (some ⟨b, off, none⟩) n c) (hn : 0 < n) {A : Asn} {w0 : World} {S0 : Nat → Prop} (H : At (row b tt N f * A) w0 S0 w) (hle : off + n ≤ N)
    (hK : ∀ w', At (row b tt N (fun j => if off ≤ j ∧ j < off + n then z else f j) * A) w0 S0 w' → wpList P ops Q rest (a.put o.dst (.tuple #[])) w') : wpList P ops Q (o :: rest) a w :=
  wpList_clear_row w hg x t hop e z ht hv hz h1 b off n c N tt f hx hn H.rowIs hle (hK _ (At.set_same n _ off _ H))

theorem At.made {A : Asn} {w0 w : World} {S0 : Nat → Prop} (h : At A w0 S0 w) (z : Value) (n : Nat) (t : TypeId) : At (row w.heap.size t n (fun _ => z) * A) w0 S0 (w.alloc (.cells (madeCells #[z] n) t)) :=
  (h.alloc _).impl fun _ a => ⟨World.rowIs_made w z n t, a.2⟩

theorem At.own_nil {A : Asn} {w0 w : World} {S0 : Nat → Prop} (h : At A w0 S0 w) (e : TypeId) (z : Nat) : At (own e z (.slice none 0 0) 0 [] * A) w0 S0 w :=
  h.imp fun S a => ⟨fun _ => False, S, ⟨World.ownsRow_nil _ _ _ _, fun k => by simp [Value.ownBlock]⟩, a, fun _ h => h.elim, fun k => by simp⟩

theorem At.unit {A : Asn} {w0 w : World} {S0 : Nat → Prop} (h : At A w0 S0 w) : At (A * pur True) w0 S0 w :=
  (At.pure_in trivial h).re (Asn.star_comm _ _)

theorem At.nounit {A : Asn} {w0 w : World} {S0 : Nat → Prop} (h : At (A * pur True) w0 S0 w) : At A w0 S0 w := h.dropr

theorem At.look1 {P : Program} {f : FuncId} {args : Array Value} {A : Asn} {v : Value} {w0 w : World} {S0 : Nat → Prop} (h : At A w0 S0 w) (t : Look P f args A v) :
    Calls P f args w fun e w' => e = .returned v ∧ ∃ n, w' = w.drewN n := h.unit.look t

theorem At.ask1 {P : Program} {f : FuncId} {args : Array Value} {A : Asn} {v : Value} {w0 w : World} {S0 : Nat → Prop} (h : At A w0 S0 w) (t : Ask P f args A v) :
    Calls P f args w fun e w' => e = .returned v ∧ w = w' := h.unit.ask t

theorem At.tri0 {P : Program} {f : FuncId} {args : Array Value} {A B : Asn} {v : Value} {w0 w : World} {S0 : Nat → Prop} (h : At A w0 S0 w) (t : Tri1 P f args A v B) :
    Calls P f args w fun e w' => e = .returned v ∧ At B w0 S0 w' := (h.unit.tri1 t).mono fun _ _ ⟨a, b⟩ => ⟨a, b.nounit⟩

theorem At.trix {P : Program} {f : FuncId} {args : Array Value} {A : Asn} {X : Type} {v : X → Value} {B : X → Asn} {w0 w : World} {S0 : Nat → Prop} (h : At A w0 S0 w) (t : Tri P f args A v B) :
    Calls P f args w fun e w' => ∃ x, e = .returned (v x) ∧ At (B x) w0 S0 w' := (h.unit.tri t).mono fun _ _ ⟨x, a, b⟩ => ⟨x, a, b.nounit⟩

end Go.Proofs.YtfgdfhcefgblaaaDoor
