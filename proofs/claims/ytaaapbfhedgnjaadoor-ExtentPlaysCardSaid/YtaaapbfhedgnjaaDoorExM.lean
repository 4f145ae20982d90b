/- A map of objects (layer 13): the numbers. -/
import Derived.Test.YtaaapbfhedgnjaaDoorBvLt
namespace Go.Proofs.YtaaapbfhedgnjaaDoor.BV

theorem nxF_lt' {p : Nat → Bool} {m i x : Nat} (h : nxF p i m = some x) : i ≤ x ∧ x < i + m ∧ p x = true ∧ ∀ k, i ≤ k → k < x → p k = false := by
  rcases nxF_is (p := p) m i with ⟨e, _⟩ | ⟨r, e, h1, h2, h3, h4⟩
  · rw [e] at h; cases h
  · rw [e] at h; cases h; exact ⟨h1, h2, h3, h4⟩

/-- sz x is the size of the object that starts at x; 0: none does -/
structure Snd (n : Nat) (sz : Nat → Nat) : Prop where
  fit : ∀ x, 0 < sz x → x + sz x ≤ n
  apart : ∀ x y, 0 < sz x → x < y → y < x + sz x → sz y = 0

def fst' (sz : Nat → Nat) (x : Nat) : Bool := decide (0 < sz x)
def lst (sz : Nat → Nat) (z : Nat) : Bool := (List.range (z + 1)).any fun x => decide (0 < sz x) && decide (x + sz x = z + 1)

theorem lst_iff {sz : Nat → Nat} {z : Nat} : lst sz z = true ↔ ∃ x, 0 < sz x ∧ x + sz x = z + 1 := by
  unfold lst
  rw [List.any_eq_true]
  constructor
  · rintro ⟨x, _, h⟩
    rw [Bool.and_eq_true, decide_eq_true_iff, decide_eq_true_iff] at h
    exact ⟨x, h.1, h.2⟩
  · rintro ⟨x, h1, h2⟩
    refine ⟨x, List.mem_range.2 (by omega), ?_⟩
    rw [Bool.and_eq_true, decide_eq_true_iff, decide_eq_true_iff]
    exact ⟨h1, h2⟩

theorem lst_false {sz : Nat → Nat} {z : Nat} (h : ∀ x, 0 < sz x → x + sz x ≠ z + 1) : lst sz z = false := by
  cases e : lst sz z with
  | false => rfl
  | true => obtain ⟨x, h1, h2⟩ := lst_iff.1 e; exact absurd h2 (h x h1)

theorem fst_iff {sz : Nat → Nat} {x : Nat} : fst' sz x = true ↔ 0 < sz x := by unfold fst'; rw [decide_eq_true_iff]

/-- the vectors of the first and of the last words -/
def fB (n : Nat) (sz : Nat → Nat) : Bits := ⟨n, fst' sz⟩
def lB (n : Nat) (sz : Nat → Nat) : Bits := ⟨n, lst sz⟩

theorem fB_ok {n : Nat} {sz : Nat → Nat} (h : Snd n sz) (h1 : 1 ≤ n) (h2 : n ≤ 1048576) : (fB n sz).ok := by
  refine ⟨h1, h2, fun x hx => ?_⟩
  cases e : fst' sz x with
  | false => exact e
  | true => have := fst_iff.1 e; have := h.fit x this; have hx' : n ≤ x := hx; omega

theorem lB_ok {n : Nat} {sz : Nat → Nat} (h : Snd n sz) (h1 : 1 ≤ n) (h2 : n ≤ 1048576) : (lB n sz).ok := by
  refine ⟨h1, h2, fun z hz => ?_⟩
  refine lst_false fun x hx e => ?_
  have := h.fit x hx
  have hz' : n ≤ z := hz
  omega

/-- the first last word from a first one on is its own -/
theorem last_of {n : Nat} {sz : Nat → Nat} (h : Snd n sz) {s : Nat} (hs : 0 < sz s) : nxF (lst sz) s (n - s) = some (s + sz s - 1) := by
  have hf := h.fit s hs
  refine nxF_some _ _ (by omega) (by omega) (lst_iff.2 ⟨s, hs, by omega⟩) fun k h1 h2 => lst_false fun x hx e => ?_
  rcases Nat.lt_trichotomy x s with g | g | g
  · have := h.apart x s hx g (by omega); omega
  · subst g; omega
  · have := h.apart s x hs g (by omega); omega

/-- the object that has a word -/
def fdF (sz : Nat → Nat) (a : Nat) : Option Nat :=
  match lsF (fst' sz) (a + 1) with
  | none => none
  | some s => if a < s + sz s then some s else none

theorem fdF_some {n : Nat} {sz : Nat → Nat} (h : Snd n sz) {a s : Nat} (hs : 0 < sz s) (h1 : s ≤ a) (h2 : a < s + sz s) : fdF sz a = some s := by
  unfold fdF
  rw [lsF_some (r := s) (a + 1) (by omega) (fst_iff.2 hs) fun k g1 g2 => by
    cases e : fst' sz k with
    | false => rfl
    | true => have := fst_iff.1 e; have := h.apart s k hs g1 (by omega); omega]
  exact if_pos h2

theorem fdF_is {sz : Nat → Nat} {a s : Nat} (h : fdF sz a = some s) : 0 < sz s ∧ s ≤ a ∧ a < s + sz s := by
  unfold fdF at h
  rcases lsF_is (p := fst' sz) (a + 1) with ⟨e, _⟩ | ⟨r, e, h1, h2, _⟩
  · rw [e] at h; cases h
  · rw [e] at h
    dsimp only at h
    by_cases g : a < r + sz r
    · rw [if_pos g] at h; cases h; exact ⟨fst_iff.1 h2, by omega, g⟩
    · rw [if_neg g] at h; cases h

theorem fdF_none {n : Nat} {sz : Nat → Nat} (h : Snd n sz) {a : Nat} (hn : fdF sz a = none) (x : Nat) (hx : 0 < sz x) (h1 : x ≤ a) (h2 : a < x + sz x) : False := by
  rw [fdF_some h hx h1 h2] at hn; cases hn

/-- an object is laid -/
def putZ (sz : Nat → Nat) (s k : Nat) (x : Nat) : Nat := if x = s then k else sz x

/-- no word of a run is one of an object -/
def freeZ (sz : Nat → Nat) (s k : Nat) : Prop := ∀ x, 0 < sz x → x + sz x ≤ s ∨ s + k ≤ x

theorem Snd.put {n : Nat} {sz : Nat → Nat} (h : Snd n sz) {s k : Nat} (hk : s + k ≤ n) (hf : freeZ sz s k) : Snd n (putZ sz s k) := by
  refine ⟨fun x hx => ?_, fun x y hx h1 h2 => ?_⟩
  · unfold putZ at hx ⊢
    by_cases e : x = s
    · rw [if_pos e, e]; exact hk
    · rw [if_neg e] at hx ⊢; exact h.fit x hx
  · unfold putZ at hx h2 ⊢
    by_cases e : x = s
    · rw [if_pos e] at hx h2
      rw [if_neg (by omega)]
      by_cases hy : 0 < sz y
      · rcases hf y hy with g | g <;> omega
      · omega
    · rw [if_neg e] at hx h2
      by_cases ey : y = s
      · rcases hf x hx with g | g <;> omega
      · rw [if_neg ey]; exact h.apart x y hx h1 h2

theorem fst_put {sz : Nat → Nat} {s k : Nat} (hk : 0 < k) : (fun j => if j = s then true else fst' sz j) = fst' (putZ sz s k) := by
  funext j
  unfold fst' putZ
  by_cases e : j = s
  · rw [if_pos e, if_pos e, decide_eq_true hk]
  · rw [if_neg e, if_neg e]

theorem lst_put {sz : Nat → Nat} {s k : Nat} (hk : 0 < k) (hs : sz s = 0) : (fun j => if j = s + k - 1 then true else lst sz j) = lst (putZ sz s k) := by
  funext j
  by_cases e : j = s + k - 1
  · rw [if_pos e]
    refine (lst_iff.2 ⟨s, ?_, ?_⟩).symm
    · unfold putZ; rw [if_pos rfl]; exact hk
    · unfold putZ; rw [if_pos rfl]; omega
  · rw [if_neg e, Bool.eq_iff_iff, lst_iff, lst_iff]
    constructor
    · rintro ⟨x, h1, h2⟩
      have : x ≠ s := fun e => by subst e; omega
      exact ⟨x, by unfold putZ; rw [if_neg this]; exact h1, by unfold putZ; rw [if_neg this]; exact h2⟩
    · rintro ⟨x, h1, h2⟩
      unfold putZ at h1 h2
      by_cases g : x = s
      · rw [if_pos g] at h1 h2; omega
      · rw [if_neg g] at h1 h2; exact ⟨x, h1, h2⟩

/-- whether a run is free: no object has its first word, none starts in it -/
theorem free_iff {n : Nat} {sz : Nat → Nat} (h : Snd n sz) {s k : Nat} (hk : 0 < k) (h0 : fdF sz s = none) (h1 : ∀ x, s ≤ x → x < s + k → fst' sz x = false) : freeZ sz s k := by
  intro x hx
  by_cases g : x + sz x ≤ s
  · exact .inl g
  · right
    by_cases g2 : x ≤ s
    · exact (fdF_none h h0 x hx g2 (by omega)).elim
    · by_cases g3 : x < s + k
      · have := h1 x (by omega) g3
        rw [fst_iff.2 hx] at this; cases this
      · omega

/-- an object is taken away -/
theorem Snd.drop {n : Nat} {sz : Nat → Nat} (h : Snd n sz) (s : Nat) : Snd n (putZ sz s 0) := by
  refine ⟨fun x hx => ?_, fun x y hx h1 h2 => ?_⟩
  · unfold putZ at hx ⊢
    by_cases e : x = s
    · rw [if_pos e] at hx; omega
    · rw [if_neg e] at hx ⊢; exact h.fit x hx
  · unfold putZ at hx h2 ⊢
    by_cases e : x = s
    · rw [if_pos e] at hx; omega
    · rw [if_neg e] at hx h2
      by_cases ey : y = s
      · rw [if_pos ey]
      · rw [if_neg ey]; exact h.apart x y hx h1 h2

theorem fst_drop {sz : Nat → Nat} {s : Nat} : (fun j => if j = s then false else fst' sz j) = fst' (putZ sz s 0) := by
  funext j
  unfold fst' putZ
  by_cases e : j = s
  · rw [if_pos e, if_pos e]; rfl
  · rw [if_neg e, if_neg e]

theorem lst_drop {n : Nat} {sz : Nat → Nat} (h : Snd n sz) {s : Nat} (hs : 0 < sz s) : (fun j => if j = s + sz s - 1 then false else lst sz j) = lst (putZ sz s 0) := by
  funext j
  by_cases e : j = s + sz s - 1
  · rw [if_pos e]
    refine (lst_false fun x hx g => ?_).symm
    unfold putZ at hx g
    by_cases ex : x = s
    · rw [if_pos ex] at hx; omega
    · rw [if_neg ex] at hx g
      rcases Nat.lt_or_gt_of_ne ex with g1 | g1
      · have := h.apart x s hx g1 (by omega); omega
      · have := h.apart s x hs g1 (by omega); omega
  · rw [if_neg e, Bool.eq_iff_iff, lst_iff, lst_iff]
    constructor
    · rintro ⟨x, h1, h2⟩
      have : x ≠ s := fun ex => by subst ex; omega
      exact ⟨x, by unfold putZ; rw [if_neg this]; exact h1, by unfold putZ; rw [if_neg this]; exact h2⟩
    · rintro ⟨x, h1, h2⟩
      unfold putZ at h1 h2
      by_cases g : x = s
      · rw [if_pos g] at h1; omega
      · rw [if_neg g] at h1 h2; exact ⟨x, h1, h2⟩

end Go.Proofs.YtaaapbfhedgnjaaDoor.BV
