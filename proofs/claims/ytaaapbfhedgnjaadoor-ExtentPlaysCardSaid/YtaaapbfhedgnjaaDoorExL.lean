/- A map of objects (layer 13): Live. -/
import Derived.Test.YtaaapbfhedgnjaaDoorEx2
namespace Go.Proofs.YtaaapbfhedgnjaaDoor.BV
open Go.ChangeShapes Go.WideShapes Go.ChangeAt Go.RowKit

def lv (sz : Nat → Nat) (j : Nat) : Bool := (fdF sz j).isSome

theorem lv_in {n : Nat} {sz : Nat → Nat} (h : Snd n sz) {s j : Nat} (hs : 0 < sz s) (h1 : s ≤ j) (h2 : j < s + sz s) : lv sz j = true := by
  unfold lv; rw [fdF_some h hs h1 h2]; rfl

theorem lv_out {sz : Nat → Nat} {j : Nat} (h : ∀ x, 0 < sz x → x ≤ j → ¬ j < x + sz x) : lv sz j = false := by
  unfold lv
  cases e : fdF sz j with
  | none => rfl
  | some x => obtain ⟨g1, g2, g3⟩ := fdF_is e; exact absurd g3 (h x g1 g2)

theorem cp_runT {p : Nat → Bool} {a : Nat} : ∀ n, (∀ j, a ≤ j → j < a + n → p j = true) → cp p (a + n) = cp p a + n
  | 0, _ => rfl
  | n + 1, h => by
    have ih := cp_runT (p := p) (a := a) n fun j h1 h2 => h j h1 (by omega)
    have e : cp p (a + (n + 1)) = cp p (a + n) + (p (a + n)).toNat := rfl
    rw [e, ih, h (a + n) (by omega) (by omega)]; rfl

theorem cp_runF {p : Nat → Bool} {a : Nat} : ∀ n, (∀ j, a ≤ j → j < a + n → p j = false) → cp p (a + n) = cp p a
  | 0, _ => rfl
  | n + 1, h => by
    have ih := cp_runF (p := p) (a := a) n fun j h1 h2 => h j h1 (by omega)
    have e : cp p (a + (n + 1)) = cp p (a + n) + (p (a + n)).toNat := rfl
    rw [e, ih, h (a + n) (by omega) (by omega)]; rfl

/-- the live words of a run -/
def lvR (sz : Nat → Nat) (x y : Int) (j : Nat) : Bool := decide (x ≤ (j : Int) ∧ (j : Int) < y) && lv sz j

/-- .. from a number on -/
def lvF (sz : Nat → Nat) (f : Nat) (j : Nat) : Bool := decide (f ≤ j) && lv sz j

theorem lvR_eq {n : Nat} {sz : Nat → Nat} {x y : Int} {f t : Nat} (hf : max x 0 = (f : Int)) (ht : min y n = (t : Int)) : cp (lvR sz x y) n = cp (lvF sz f) t := by
  have h1 : cp (lvR sz x y) n = cp (lvR sz x y) t := by
    have := cp_runF (p := lvR sz x y) (a := t) (n - t) fun j g1 g2 => by unfold lvR; rw [decide_eq_false (by omega)]; rfl
    rw [show t + (n - t) = n by omega] at this
    exact this
  rw [h1]
  exact cp_congr t fun j hj => by
    unfold lvR lvF
    by_cases g : f ≤ j
    · rw [decide_eq_true g, decide_eq_true (by omega)]
    · rw [decide_eq_false g, decide_eq_false (by omega)]

theorem lvR_none {n : Nat} {sz : Nat → Nat} {x y : Int} (h : min y n ≤ max x 0) : cp (lvR sz x y) n = 0 :=
  cp_none _ n fun j hj => by unfold lvR; rw [decide_eq_false (by omega)]; rfl

/-- where the loop of Live stands -/
def LvI (sz : Nat → Nat) (f t : Nat) (a s z : Nat) (b : Bool) : Prop := (b = true ∧ 0 < sz s ∧ z = sz s ∧ a = cp (lvF sz f) (min (max s f) t)) ∨ (b = false ∧ a = cp (lvF sz f) t)

theorem gap_next {n : Nat} {sz : Nat → Nat} (h : Snd n sz) {s j : Nat} (hs : 0 < sz s) (h1 : s + sz s ≤ j) (h2 : ∀ k, s + sz s ≤ k → k ≤ j → fst' sz k = false) : lv sz j = false :=
  lv_out fun x hx g1 g2 => by
    rcases Nat.lt_trichotomy x s with g | g | g
    · have := h.apart x s hx g (by omega); omega
    · subst g; omega
    · by_cases g3 : x < s + sz s
      · have := h.apart s x hs g g3; omega
      · have := h2 x (by omega) g1; rw [fst_iff.2 hx] at this; cases this

/-- the words of an object are counted -/
theorem lv_step {n : Nat} {sz : Nat → Nat} (h : Snd n sz) {f t s : Nat} (hs : 0 < sz s) (hst : s < t) (hfs : f < t) (hfe : f ≤ s + sz s) : cp (lvF sz f) (min (s + sz s) t) = cp (lvF sz f) (max s f) + (min (s + sz s) t - max s f) := by
  have hle : max s f ≤ min (s + sz s) t := by omega
  have := cp_runT (p := lvF sz f) (a := max s f) (min (s + sz s) t - max s f) fun j g1 g2 => by
    unfold lvF; rw [decide_eq_true (by omega), lv_in h hs (by omega) (by omega)]; rfl
  rw [show max s f + (min (s + sz s) t - max s f) = min (s + sz s) t by omega] at this
  exact this

/-- none between an object and the next one -/
theorem lv_gap {n : Nat} {sz : Nat → Nat} (h : Snd n sz) {f t s e : Nat} (hs : 0 < sz s) (he : s + sz s ≤ e) (hn : ∀ k, s + sz s ≤ k → k < e → fst' sz k = false) : cp (lvF sz f) (min e t) = cp (lvF sz f) (min (s + sz s) t) := by
  have := cp_runF (p := lvF sz f) (a := min (s + sz s) t) (min e t - min (s + sz s) t) fun j g1 g2 => by
    unfold lvF
    rw [gap_next h hs (by omega) fun k q1 q2 => hn k q1 (by omega), Bool.and_false]
  rw [show min (s + sz s) t + (min e t - min (s + sz s) t) = min e t by omega] at this
  exact this

theorem LvI.next {n : Nat} {sz : Nat → Nat} (h : Snd n sz) {f t a s : Nat} (htn : t ≤ n) (hs : 0 < sz s) (hst : s < t) (hfs : f < t) (hfe : f ≤ s + sz s) (ha : a = cp (lvF sz f) (min (max s f) t)) :
    (∀ s', nxF (fst' sz) (s + sz s) (n - (s + sz s)) = some s' → LvI sz f t (a + (min (s + sz s) t - max s f)) s' (sz s') true ∧ s < s' ∧ s' < n ∧ f ≤ s') ∧ (nxF (fst' sz) (s + sz s) (n - (s + sz s)) = none → LvI sz f t (a + (min (s + sz s) t - max s f)) 0 0 false) := by
  have st := lv_step h hs hst hfs hfe
  rw [show min (max s f) t = max s f by omega] at ha
  rw [← ha] at st
  have hft := h.fit s hs
  constructor
  · intro s' e
    obtain ⟨g1, g2, g3, g4⟩ := nxF_lt' e
    have gp := lv_gap (f := f) (t := t) h hs g1 g4
    refine ⟨.inl ⟨rfl, fst_iff.1 g3, rfl, ?_⟩, by omega, by omega, by omega⟩
    rw [← st, ← gp]
    congr 1; omega
  · intro e
    rcases nxF_is (p := fst' sz) (n - (s + sz s)) (s + sz s) with ⟨_, g⟩ | ⟨r, e2, _⟩
    · have gp := lv_gap (f := f) (t := t) (e := n) h hs hft fun k q1 q2 => g k q1 (by omega)
      refine .inr ⟨rfl, ?_⟩
      rw [← st, ← gp]
      congr 1; omega
    · rw [e] at e2; cases e2

theorem LvI.found {sz : Nat → Nat} {f t s : Nat} (hs : 0 < sz s) (h1 : s ≤ f) (h2 : f < t) : LvI sz f t 0 s (sz s) true := by
  refine .inl ⟨rfl, hs, rfl, ?_⟩
  rw [show min (max s f) t = f by omega]
  exact (cp_none _ f fun j hj => by unfold lvF; rw [decide_eq_false (by omega)]; rfl).symm

theorem LvI.first {n : Nat} {sz : Nat → Nat} (h : Snd n sz) {f t : Nat} (htn : t ≤ n) (h0 : fdF sz f = none) :
    (∀ s, nxF (fst' sz) f (n - f) = some s → LvI sz f t 0 s (sz s) true ∧ s < n ∧ f ≤ s) ∧ (nxF (fst' sz) f (n - f) = none → LvI sz f t 0 0 0 false) := by
  have no : ∀ j, f ≤ j → (∀ k, f ≤ k → k ≤ j → fst' sz k = false) → lv sz j = false := fun j hj hk => lv_out fun x hx g1 g2 => by
    by_cases g : x ≤ f
    · exact fdF_none h h0 x hx g (by omega)
    · have := hk x (by omega) g1; rw [fst_iff.2 hx] at this; cases this
  constructor
  · intro s e
    obtain ⟨g1, g2, g3, g4⟩ := nxF_lt' e
    refine ⟨.inl ⟨rfl, fst_iff.1 g3, rfl, ?_⟩, by omega, g1⟩
    refine (cp_none _ _ fun j hj => ?_).symm
    unfold lvF
    by_cases g : f ≤ j
    · rw [no j g fun k q1 q2 => g4 k q1 (by omega), Bool.and_false]
    · rw [decide_eq_false g]; rfl
  · intro e
    rcases nxF_is (p := fst' sz) (n - f) f with ⟨_, g⟩ | ⟨r, e2, _⟩
    · refine .inr ⟨rfl, (cp_none _ _ fun j hj => ?_).symm⟩
      unfold lvF
      by_cases g5 : f ≤ j
      · rw [no j g5 fun k q1 q2 => g k q1 (by omega), Bool.and_false]
      · rw [decide_eq_false g5]; rfl
    · rw [e] at e2; cases e2

end Go.Proofs.YtaaapbfhedgnjaaDoor.BV
