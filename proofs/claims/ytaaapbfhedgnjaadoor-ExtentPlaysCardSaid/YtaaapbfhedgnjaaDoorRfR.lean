/- A region that draws its order, in a round of a range over a function: whatever is so outside of rounds is so in one, if nothing is deferred. -/
import Derived.Test.YtaaapbfhedgnjaaDoorRfL
import Derived.Sort.QuietTacIn
import Derived.Sort.BigQuietIn
namespace Go.Proofs.YtaaapbfhedgnjaaDoor
open Go.ChangeShapes Go.WideShapes Go.ChangeAt Go.RowKit

section
variable {F : Fence} {n : Nat} {P : Program} {ops : Array Oper} {Q : Exit → Act → World → Prop}

def noDefer (ops : Array Oper) : Prop := ∀ (i : Nat) (o : Oper), ops[i]? = some o → ∀ c, o.op ≠ .defer c

/-- .. as a test -/
def noDeferB (ops : Array Oper) : Bool := ops.toList.all fun o => match o.op with | .defer _ => false | _ => true

theorem noDefer_of {ops : Array Oper} (h : noDeferB ops = true) : noDefer ops := by
  intro i o ho c e
  have hm : o ∈ ops.toList := Array.mem_toList_iff.2 (Array.mem_of_getElem? ho)
  have := (List.all_eq_true.1 h) o hm
  rw [e] at this
  cases this

theorem op_round (l : Nat) (hro : F.round = none) {o : Oper} (hd : ∀ c, o.op ≠ .defer c) {a : Act} {w : World} {K : Act → World → Prop} (h : o.wpIn F n P a w K Q) : o.wpIn (F.inRound l) n P a w K Q := by
  have h2 := h.2
  rw [hro, Oper.semAt_eq none a.eval o hd] at h2
  refine ⟨h.1, ?_⟩
  show o.uponIn (F.inRound l) n P a K Q ((o.semAt (some l) a.eval).run P w)
  rw [Oper.semAt_eq (some l) a.eval o hd]
  exact h2

theorem any_round (l : Nat) (hro : F.round = none) (hd : noDefer ops) : ∀ (fuel : Nat) (listed : Array Bool) (a : Act) (w : World), wpAnyIn F n P .any ops Q fuel listed a w → wpAnyIn (F.inRound l) n P .any ops Q fuel listed a w := by
  intro fuel
  induction fuel with
  | zero => exact fun _ _ _ h => h
  | succ fuel ih =>
    intro listed a w h
    refine ⟨h.1, fun i hi => ?_⟩
    have h1 := wpOpIn_mono (K' := wpAnyIn (F.inRound l) n P .any ops Q fuel (listed.setIfInBounds i true)) (fun a w => ih _ a w) (h.2 i hi)
    unfold wpOpIn at h1 ⊢
    cases ho : ops[i]? with
    | none => rw [ho] at h1; exact h1
    | some o =>
      rw [ho] at h1
      dsimp only at h1 ⊢
      by_cases hw : Region.wanted o (yielded ops a.tmps) = true
      · rw [if_pos hw] at h1 ⊢; exact op_round l hro (hd i o ho) h1
      · rw [if_neg hw] at h1 ⊢; exact h1

/-- one walk of the text's order, in a class of worlds, serves in a round -/
theorem region_round {id l : Nat} {a : Act} {w : World} {os : List Oper} (C : World → Prop) (hro : F.round = none) (hm : P.follows .mixedOrders = true) (hB : Region.lexB .any os.toArray = true) (hd : noDefer os.toArray) (hC : C w.drew)
    (h : wpQuietIn F n P os.toArray C (fun a' => ∀ w', C w' → Q .normal a' w') os a) : (Code.region id os.toArray true).wpIn (F.inRound l) n P Q a w := by
  have hB' := hB
  simp only [Region.lexB, Bool.and_eq_true] at hB'
  refine wpIn_region_any hm (any_round l hro hd _ _ _ _ (wpAnyIn_of_quiet (Q := fun a' => ∀ w', C w' → Q .normal a' w') hro (fun _ w' hw' h => h w' hw') _ _ _ _ hC ?_))
  have := wpAnyQIn_lex (F := F) (n := n) (C := C) (md := .any) hB'.1 os.toArray.toList 0 (Array.replicate os.toArray.size false) a (by simp) (by simpa using hB'.2) (by simpa using h)
  simpa using this

theorem quietIn_upon {o : Oper} {a : Act} {C : World → Prop} {K : Act → Prop} (v : Value) (h : ∀ w, C w → o.quietAtIn F n P a C w v) (hk : K (a.put o.dst v)) : o.quietIn F n P a C K := ⟨v, h, hk⟩
end

end Go.Proofs.YtaaapbfhedgnjaaDoor
