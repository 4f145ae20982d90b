/- A new row that an append left. -/
import Derived.Test.YtaaapbfhedgnjaaDoorBvB
namespace Go.Proofs.YtaaapbfhedgnjaaDoor.BV
open Go.ChangeShapes Go.WideShapes Go.ChangeAt Go.RowKit

/-- a new row that an append left -/
theorem At.newrow {A : Asn} {w0 w w' : World} {S0 : Nat → Prop} {e : TypeId} {v : Value} {n : Nat} {f : Nat → Value} (h : At A w0 S0 w) (hb : Below w.heap.size w w') (ho : w'.ownsRow w.heap.size e 1 v n ((List.range n).map f)) (hv : v ≠ .slice none 0 0) :
    ∃ x : Loc, v = .slice (some ⟨x.b, 0, none⟩) n x.cap ∧ At (A * lrow x e n f) w0 S0 w' := by
  rcases ho.2 with ⟨rfl, _⟩ | ⟨g, cap, cur, rfl, hg1, hg, hnc, hcm, hsz, htk⟩
  · exact absurd rfl hv
  refine ⟨⟨g, cap, cap, fun i => cur[i]?.getD (.tuple #[])⟩, rfl, ?_⟩
  refine h.step ?_
  intro S a
  refine ⟨fun k => S k ∨ k = g, ⟨S, fun k => k = g, A.keep a fun k hk => hb.block k (A.lt a k hk), ⟨⟨⟨cur, hg, by simpa using hsz, fun i hi => ?_⟩, hnc⟩, fun _ => Iff.rfl⟩, ?_, fun _ => Iff.rfl⟩, ?_, ?_⟩
  · dsimp only
    rw [Nat.mul_one] at hsz htk
    by_cases hi2 : i < n
    · rw [if_pos hi2]
      have h1 : ((List.range n).map f)[i]? = some (f i) := by simp [hi2]
      rw [← htk, List.getElem?_take, if_pos hi2] at h1
      simpa using h1
    · rw [if_neg hi2]
      have hi' : i < cap := hi
      rw [Array.getElem?_eq_getElem (by omega)]; rfl
  · rintro k hk rfl
    have := A.lt a _ hk; omega
  · rintro k (hk | rfl)
    · exact .inl hk
    · exact .inr hg1
  · exact Fr.ofBelow hb fun k hk _ => hk

end Go.Proofs.YtaaapbfhedgnjaaDoor.BV
