/- Maps of integers in the small logic. -/
import Derived.Test.YtpdnbkibnpkfbadSL
import Derived.Maps.OwnSet
import Derived.Maps.Own
namespace Go.Proofs.Ytpdnbkibnpkfbad
open Go.ChangeShapes Go.WideShapes Go.ChangeAt Go.RowKit Go.Maps

/-- block b is a map of at most n entries that reads as D -/
def mp (P : Program) (k e : TypeId) (b n : Nat) (D : DataW Unit) : Asn where
  holds w S := w.ownsMap P k (plainElem P e) b n D ∧ ∀ q, S q ↔ q = b
  lt := fun h q hq => by rw [(h.2 q).1 hq]; exact h.1.lt
  keep := fun h hk => ⟨by
    obtain ⟨es, clock, hg, rest⟩ := h.1
    exact ⟨es, clock, (hk b ((h.2 b).2 rfl)).trans hg, rest⟩, h.2⟩

theorem At.mp_made {A : Asn} {w0 w : World} {S0 : Nat → Prop} (h : At A w0 S0 w) (P : Program) (k e : TypeId) : At (mp P k e w.heap.size 0 (.map []) * A) w0 S0 (w.alloc (.map #[] 0)) :=
  (h.alloc _).impl fun _ a => ⟨World.ownsMap_made w P k _, a.2⟩

theorem At.mpIs {A : Asn} {w0 w : World} {S0 : Nat → Prop} {P : Program} {k e : TypeId} {b n : Nat} {D : DataW Unit} (h : At (mp P k e b n D * A) w0 S0 w) : w.ownsMap P k (plainElem P e) b n D := by
  obtain ⟨S, a⟩ := h.left
  exact a.1

theorem At.mp_turn {A : Asn} {w0 w w' : World} {S0 : Nat → Prop} {P : Program} {k e : TypeId} {b n n' : Nat} {D D' : DataW Unit} (h : At (mp P k e b n D * A) w0 S0 w) (ho : w'.ownsMap P k (plainElem P e) b n' D') (ht : w.mapTurned w' b) : At (mp P k e b n' D' * A) w0 S0 w' := by
  refine h.frame ?_
  rintro S ⟨a, hS⟩
  exact ⟨S, ⟨ho, hS⟩, fun _ h => .inl h, (Fr.refl S w).grown ht.grown fun q e _ => by cases e; exact (hS b).2 rfl⟩

theorem At.mp_more {A : Asn} {w0 w : World} {S0 : Nat → Prop} {P : Program} {k e : TypeId} {b n n' : Nat} {D : DataW Unit} (h : At (mp P k e b n D * A) w0 S0 w) (hn : n ≤ n') : At (mp P k e b n' D * A) w0 S0 w :=
  h.impl fun _ a => ⟨a.1.mono hn, a.2⟩

end Go.Proofs.Ytpdnbkibnpkfbad
