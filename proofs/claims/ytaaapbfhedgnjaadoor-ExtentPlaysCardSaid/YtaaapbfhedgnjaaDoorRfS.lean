/- A region that draws its order and whose last operation waits for all others (a store): whatever order, the others come first. -/
import Derived.Test.YtaaapbfhedgnjaaDoorRfR
namespace Go.Proofs.YtaaapbfhedgnjaaDoor
open Go.ChangeShapes Go.WideShapes Go.ChangeAt Go.RowKit

section
variable {F : Fence} {n : Nat} {P : Program} {os : Array Oper} {st : Oper} {Q : Exit → Act → World → Prop}

/-- each operation waits for earlier ones alone -/
def earlierB (os : Array Oper) : Bool := (List.range os.size).all fun i => match os[i]? with | some o => o.after.toList.all fun e => decide (e.on < i) | none => true
/-- an operation waits for all others; it yields nothing -/
def waitsB (k : Nat) (st : Oper) : Bool := st.dst.isNone && (st.after.toList.all fun e => decide (e.on < k)) && (List.range k).all fun i => st.after.toList.any fun e => Region.binds .any e && decide (e.on = i)

theorem earlier_of (h : earlierB os = true) {i : Nat} {o : Oper} (ho : os[i]? = some o) : ∀ e ∈ o.after, e.on < i := by
  intro e he
  have hi : i < os.size := (Array.getElem?_eq_some_iff.1 ho).1
  have := (List.all_eq_true.1 h) i (List.mem_range.2 hi)
  rw [ho] at this
  exact of_decide_eq_true ((List.all_eq_true.1 this) e (Array.mem_toList_iff.2 he))

theorem waits_of {k : Nat} (h : waitsB k st = true) : st.dst = none ∧ (∀ e ∈ st.after, e.on < k) ∧ ∀ i, i < k → ∃ e ∈ st.after, Region.binds .any e = true ∧ e.on = i := by
  unfold waitsB at h
  rw [Bool.and_eq_true, Bool.and_eq_true] at h
  refine ⟨by cases hd : st.dst <;> simp_all, fun e he => of_decide_eq_true ((List.all_eq_true.1 h.1.2) e (Array.mem_toList_iff.2 he)), fun i hi => ?_⟩
  obtain ⟨e, he, hb⟩ := List.any_eq_true.1 ((List.all_eq_true.1 h.2) i (List.mem_range.2 hi))
  rw [Bool.and_eq_true, decide_eq_true_iff] at hb
  exact ⟨e, Array.mem_toList_iff.1 he, hb.1, hb.2⟩

/-- where nothing is ready, all are listed -/
theorem none_ready (he : earlierB os = true) {listed : Array Bool} (hl : listed.size = os.size) (h : Region.ready .any os listed = []) : ∀ i, i < os.size → listed[i]? = some true := by
  intro i
  induction i using Nat.strongRecOn with
  | _ i ih =>
    intro hi
    cases hb : listed[i]? with
    | none => have := Array.getElem?_eq_none_iff.1 hb; omega
    | some b =>
      cases b with
      | true => rfl
      | false =>
        exfalso
        have : i ∈ Region.ready .any os listed := by
          rw [mem_ready]
          refine ⟨by simp [Array.getD_eq_getD_getElem?, hb], os[i], Array.getElem?_eq_getElem hi, fun e hm _ => ?_⟩
          have hlt := earlier_of he (Array.getElem?_eq_getElem hi) e hm
          have := ih e.on hlt (by omega)
          simp [Array.getD_eq_getD_getElem?, this]
        rw [h] at this; cases this

theorem yielded_push (hd : st.dst = none) (tmps : Array Value) : yielded (os.push st) tmps = yielded os tmps := by
  funext j
  unfold yielded
  by_cases h : j < os.size
  · rw [Array.getElem?_push_lt h, Array.getElem?_eq_getElem h]
  · by_cases e : j = os.size
    · subst e
      rw [Array.getElem?_push_size, Array.getElem?_eq_none (Nat.le_refl _)]
      simp [hd]
    · rw [Array.getElem?_eq_none (by simp; omega), Array.getElem?_eq_none (by omega)]

theorem wpQuietIn_post {ops : Array Oper} {C : World → Prop} {K K' : Act → Prop} (hk : ∀ a, K a → K' a) : ∀ {l : List Oper} {a : Act}, wpQuietIn F n P ops C K l a → wpQuietIn F n P ops C K' l a
  | [], _, h => hk _ h
  | o :: rest, a, h => by
    refine ⟨h.1, ?_⟩
    have h2 := h.2
    by_cases hw : Region.wanted o (yielded ops a.tmps) = true
    · rw [if_pos hw] at h2 ⊢
      obtain ⟨v, hv, hn⟩ := h2
      exact ⟨v, hv, wpQuietIn_post hk hn⟩
    · rw [if_neg hw] at h2 ⊢
      exact wpQuietIn_post hk h2

/-- the others first, then the last one -/
def thenLast (F : Fence) (n : Nat) (P : Program) (os : Array Oper) (st : Oper) (Q : Exit → Act → World → Prop) : Exit → Act → World → Prop
  | .normal, a, w => wpOpIn F n P (os.push st) Q os.size (fun a w => Q .normal a w) a w
  | e, a, w => Q e a w

theorem op_last {o : Oper} {a : Act} {w : World} {K : Act → World → Prop} (h : o.wpIn F n P a w K (thenLast F n P os st Q)) : o.wpIn F n P a w K Q := by
  refine ⟨h.1, ?_⟩
  have h2 := h.2
  generalize (o.semAt F.round a.eval).run P w = r at *
  cases r with
  | ok x w' =>
    cases x <;> simp only [Oper.uponIn] at h2 ⊢ <;>
      first
        | exact h2
        | exact ⟨h2.1, CallsIn.mono h2.2 (fun e w'' he => by cases e <;> exact he)⟩
        | exact ⟨h2.1, RoundIn.mono h2.2 (fun e w'' he => by cases e <;> exact he)⟩
  | halt x w' => cases x <;> simp only [Oper.uponIn] at h2 ⊢ <;> exact h2

theorem opIn_push {i : Nat} (hi : i < os.size) (hd : st.dst = none) {K : Act → World → Prop} {a : Act} {w : World} (h : wpOpIn F n P os (thenLast F n P os st Q) i K a w) : wpOpIn F n P (os.push st) Q i K a w := by
  unfold wpOpIn at h ⊢
  rw [Array.getElem?_push_lt hi]
  rw [Array.getElem?_eq_getElem hi] at h
  dsimp only at h ⊢
  rw [yielded_push hd]
  by_cases hw : Region.wanted os[i] (yielded os a.tmps) = true
  · rw [if_pos hw] at h ⊢; exact op_last h
  · rw [if_neg hw] at h ⊢; exact h

theorem getD_push {listed : Array Bool} {j : Nat} (b d : Bool) (h : j < listed.size) : (listed.push b).getD j d = listed.getD j d := by
  simp [Array.getD_eq_getD_getElem?, Array.getElem?_push_lt h, Array.getElem?_eq_getElem h]

theorem ready_push (he : earlierB os = true) {listed : Array Bool} (hl : listed.size = os.size) {j : Nat} (hj : j < os.size) : j ∈ Region.ready .any (os.push st) (listed.push false) ↔ j ∈ Region.ready .any os listed := by
  rw [mem_ready, mem_ready, getD_push false true (by omega), Array.getElem?_push_lt hj, Array.getElem?_eq_getElem hj]
  refine and_congr Iff.rfl ⟨?_, ?_⟩ <;> rintro ⟨o, ho, h⟩ <;> refine ⟨o, ho, fun e hm hb => ?_⟩
  · have hlt := earlier_of he (Array.getElem?_eq_getElem hj) e (by cases ho; exact hm)
    rw [← getD_push false false (by omega)]; exact h e hm hb
  · have hlt := earlier_of he (Array.getElem?_eq_getElem hj) e (by cases ho; exact hm)
    rw [getD_push false false (by omega)]; exact h e hm hb

theorem ready_st (hw : waitsB os.size st = true) {listed : Array Bool} (hl : listed.size = os.size) : os.size ∈ Region.ready .any (os.push st) (listed.push false) ↔ ∀ i, i < os.size → listed[i]? = some true := by
  obtain ⟨_, h1, h2⟩ := waits_of hw
  rw [mem_ready]
  constructor
  · rintro ⟨_, o, ho, h⟩ i hi
    rw [Array.getElem?_push_size] at ho
    cases ho
    obtain ⟨e, hm, hb, hon⟩ := h2 i hi
    have := h e hm hb
    rw [hon, getD_push false false (by omega)] at this
    rw [Array.getElem?_eq_getElem (by omega)]
    simpa [Array.getD_eq_getD_getElem?, Array.getElem?_eq_getElem (show i < listed.size by omega)] using this
  · intro h
    refine ⟨by rw [← hl]; simp [Array.getD_eq_getD_getElem?], st, Array.getElem?_push_size, fun e hm _ => ?_⟩
    have hlt := h1 e hm
    rw [getD_push false false (by omega)]
    simp [Array.getD_eq_getD_getElem?, h e.on hlt]

theorem ready_le {listed : Array Bool} {j : Nat} (h : j ∈ Region.ready .any (os.push st) listed) : j < os.size ∨ j = os.size := by
  rw [mem_ready] at h
  obtain ⟨_, o, ho, _⟩ := h
  have := (Array.getElem?_eq_some_iff.1 ho).1
  simp at this
  omega

theorem ready_all {listed : Array Bool} (h : ∀ i, i < os.size → listed[i]? = some true) : Region.ready .any os listed = [] := by
  refine List.eq_nil_iff_forall_not_mem.2 fun j hj => ?_
  rw [mem_ready] at hj
  obtain ⟨h0, o, ho, _⟩ := hj
  have := h j (Array.getElem?_eq_some_iff.1 ho).1
  simp [Array.getD_eq_getD_getElem?, this] at h0

theorem ready_end {listed : Array Bool} (hl : listed.size = os.size) (h : ∀ i, i < os.size → listed[i]? = some true) : Region.ready .any (os.push st) ((listed.push false).setIfInBounds os.size true) = [] := by
  refine List.eq_nil_iff_forall_not_mem.2 fun j hj => ?_
  have hle := ready_le hj
  rw [mem_ready] at hj
  have h0 := hj.1
  rcases hle with hlt | e
  · rw [getD_set_ne true (by omega), getD_push false true (by omega)] at h0
    simp [Array.getD_eq_getD_getElem?, h j hlt] at h0
  · subst e
    rw [Array.getD_eq_getD_getElem?, Array.getElem?_setIfInBounds_self_of_lt (by simp; omega)] at h0
    cases h0

theorem any_last (he : earlierB os = true) (hw : waitsB os.size st = true) : ∀ (fuel : Nat) (listed : Array Bool) (a : Act) (w : World), listed.size = os.size →
    wpAnyIn F n P .any os (thenLast F n P os st Q) fuel listed a w → wpAnyIn F n P .any (os.push st) Q (fuel + 1) (listed.push false) a w := by
  have hd := (waits_of hw).1
  have fin : ∀ (fuel : Nat) (listed : Array Bool) (a : Act) (w : World), listed.size = os.size → Region.ready .any os listed = [] → thenLast F n P os st Q .normal a w → wpAnyIn F n P .any (os.push st) Q (fuel + 1) (listed.push false) a w := by
    intro fuel listed a w hl h0 hq
    have hall := none_ready he hl h0
    have hst := (ready_st hw hl).2 hall
    refine ⟨fun h => (by rw [h] at hst; cases hst), fun i hi => ?_⟩
    rcases ready_le hi with hlt | e
    · have := (ready_push he hl hlt).1 hi; rw [h0] at this; cases this
    · subst e
      exact wpOpIn_mono (fun a w hQ => wpAnyIn_done (ready_end hl hall) hQ fuel) hq
  intro fuel
  induction fuel with
  | zero => intro listed a w hl h; exact fin 0 listed a w hl h.1 h.2
  | succ fuel ih =>
    intro listed a w hl h
    by_cases h0 : Region.ready .any os listed = []
    · exact fin (fuel + 1) listed a w hl h0 (h.1 h0)
    · obtain ⟨j, hj⟩ := List.exists_mem_of_ne_nil _ h0
      have hjl : j < os.size := by
        rw [mem_ready] at hj
        obtain ⟨_, o, ho, _⟩ := hj
        exact (Array.getElem?_eq_some_iff.1 ho).1
      refine ⟨fun g => (by have := (ready_push (st := st) he hl hjl).2 hj; rw [g] at this; cases this), fun i hi => ?_⟩
      rcases ready_le hi with hlt | e
      · have h1 := opIn_push hlt hd (h.2 i ((ready_push he hl hlt).1 hi))
        refine wpOpIn_mono (fun a w hk => ?_) h1
        have := ih (listed.setIfInBounds i true) a w (by simp [hl]) hk
        rw [show (listed.push false).setIfInBounds i true = (listed.setIfInBounds i true).push false by
          grind]
        exact this
      · subst e
        exact absurd (ready_all ((ready_st hw hl).1 hi)) h0

theorem push_last {l : List Oper} (h : l.getLast? = some st) : l.dropLast.toArray.push st = l.toArray := by
  have : l.dropLast ++ [st] = l := by
    have hne : l ≠ [] := by rintro rfl; cases h
    rw [List.getLast?_eq_some_getLast hne] at h
    cases h
    exact List.dropLast_concat_getLast hne
  rw [List.push_toArray, this]

/-- the operations ahead of the last one, in the text's order and in a class of worlds; then the last one -/
theorem region_store {id : Nat} {a : Act} {w : World} {l : List Oper} (C : World → Prop) (hro : F.round = none) (hm : P.follows .mixedOrders = true) (hst : l.getLast? = some st) (hg : st.guard = none) (hB : Region.lexB .any l.dropLast.toArray = true) (he : earlierB l.dropLast.toArray = true) (hw : waitsB l.dropLast.toArray.size st = true) (hC : C w.drew)
    (h : wpQuietIn F n P l.dropLast.toArray C (fun a' => ∀ w', C w' → st.wpIn F n P a' w' (fun a w => Q .normal a w) Q) l.dropLast a) : (Code.region id l.toArray true).wpIn F n P Q a w := by
  have hB' := hB
  simp only [Region.lexB, Bool.and_eq_true] at hB'
  have hlast : ∀ a' w', st.wpIn F n P a' w' (fun a w => Q .normal a w) Q → thenLast F n P l.dropLast.toArray st Q .normal a' w' := by
    intro a' w' hs
    show wpOpIn F n P (l.dropLast.toArray.push st) Q l.dropLast.toArray.size _ a' w'
    unfold wpOpIn
    rw [Array.getElem?_push_size]
    dsimp only
    rw [if_pos (by unfold Region.wanted; rw [hg])]
    exact hs
  have key : wpAnyIn F n P .any l.dropLast.toArray (thenLast F n P l.dropLast.toArray st Q) l.dropLast.toArray.size (Array.replicate l.dropLast.toArray.size false) a { w with drawn := w.drawn + 1 } := by
    refine wpAnyIn_of_quiet (Q := fun a' => ∀ w', C w' → thenLast F n P l.dropLast.toArray st Q .normal a' w') hro (fun _ w' hw' h => h w' hw') _ _ _ _ hC ?_
    have := wpAnyQIn_lex (F := F) (n := n) (P := P) (C := C) (md := .any) (Q := fun a' => ∀ w', C w' → thenLast F n P l.dropLast.toArray st Q .normal a' w') hB'.1 l.dropLast.toArray.toList 0 (Array.replicate l.dropLast.toArray.size false) a (by simp) (by simpa using hB'.2) (wpQuietIn_post (K := fun a' => ∀ w', C w' → st.wpIn F n P a' w' (fun a w => Q .normal a w) Q) (fun a' hq w' hc => hlast a' w' (hq w' hc)) (by simpa using h))
    simpa using this
  have := any_last he hw _ _ _ _ (by simp) key
  refine wpIn_region_any hm ?_
  rw [← push_last hst]
  rw [show (Array.replicate l.dropLast.toArray.size false).push false = Array.replicate (l.dropLast.toArray.push st).size false by rw [Array.size_push, Array.replicate_succ]] at this
  rw [Array.size_push]
  rw [Array.size_push] at this
  exact this
end

end Go.Proofs.YtaaapbfhedgnjaaDoor
