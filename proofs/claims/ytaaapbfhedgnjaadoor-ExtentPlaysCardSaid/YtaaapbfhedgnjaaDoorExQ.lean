/- A map of objects (layer 13): the numbers of the law ExtentAdds. -/
import Derived.Test.YtaaapbfhedgnjaaDoorExK
import Derived.Test.YtaaapbfhedgnjaaDoorExY
namespace Go.Proofs.YtaaapbfhedgnjaaDoor.BV
open Go.ChangeShapes Go.WideShapes Go.ChangeAt Go.RowKit

/-- no object lies across a place -/
def EdgeAt (sz : Nat → Nat) (p : Nat) : Prop := ∀ x, 0 < sz x → x < p → x + sz x ≤ p

theorem edge_zero (sz : Nat → Nat) : EdgeAt sz 0 := fun x _ h => absurd h (by omega)
theorem edge_end {n : Nat} {sz : Nat → Nat} (h : Snd n sz) {s : Nat} (hs : 0 < sz s) : EdgeAt sz (s + sz s) := fun x hx hlt => by
  rcases Nat.lt_trichotomy x s with g | g | g
  · by_cases g2 : s < x + sz x
    · have := h.apart x s hx g g2; omega
    · omega
  · subst g; omega
  · have := h.apart s x hs g (by omega); omega

theorem gap_none {sz : Nat → Nat} {p s : Nat} (he : EdgeAt sz p) (hn : ∀ k, p ≤ k → k < s → fst' sz k = false) (j : Nat) (h1 : p ≤ j) (h2 : j < s) : lv sz j = false :=
  lv_out fun x hx g1 g2 => by
    by_cases g : x < p
    · have := he x hx g; omega
    · have := hn x (by omega) (by omega); rw [fst_iff.2 hx] at this; cases this

theorem gap_cp {sz : Nat → Nat} {p s : Nat} (hps : p ≤ s) (he : EdgeAt sz p) (hn : ∀ k, p ≤ k → k < s → fst' sz k = false) : cp (lv sz) s = cp (lv sz) p := by
  have := cp_runF (p := lv sz) (a := p) (s - p) fun j g1 g2 => gap_none he hn j g1 (by omega)
  rw [show p + (s - p) = s by omega] at this
  exact this

theorem in_cp {n : Nat} {sz : Nat → Nat} (h : Snd n sz) {s i : Nat} (hs : 0 < sz s) (hi : i ≤ sz s) : cp (lv sz) (s + i) = cp (lv sz) s + i :=
  cp_runT i fun j g1 g2 => lv_in h hs g1 (by omega)

theorem wd_of {n : Nat} {sz : Nat → Nat} (h : Snd n sz) {s i : Nat} (hs : 0 < sz s) (hi : i < sz s) : ∀ f p, n < f + p → p ≤ s → EdgeAt sz p → wdF sz n f p (cp (lv sz) s - cp (lv sz) p + i) = some (s + i)
  | 0, p, h1, h2, _ => by have := h.fit s hs; omega
  | f + 1, p, h1, h2, he => by
    have hft := h.fit s hs
    simp only [wdF]
    rcases nxF_is (p := fst' sz) (n - p) p with ⟨_, g⟩ | ⟨r, e, g1, g2, g3, g4⟩
    · have := g s h2 (by omega); rw [fst_iff.2 hs] at this; cases this
    · rw [e]
      dsimp only
      have hr := fst_iff.1 g3
      have hgap := gap_cp g1 he g4
      by_cases e2 : r = s
      · subst e2
        rw [hgap, if_pos (by omega)]
        congr 1; omega
      · have hlt : r < s := by
          rcases Nat.lt_or_ge r s with q | q
          · exact q
          · have := g4 s h2 (by omega); rw [fst_iff.2 hs] at this; cases this
        have hend : r + sz r ≤ s := by
          by_cases q : s < r + sz r
          · have := h.apart r s hr hlt q; omega
          · omega
        have hin := in_cp h hr (Nat.le_refl (sz r))
        have hmono : cp (lv sz) (r + sz r) ≤ cp (lv sz) s := by
          have := cp_add (lv sz) (r + sz r) (s - (r + sz r))
          rw [show r + sz r + (s - (r + sz r)) = s by omega] at this
          omega
        rw [if_neg (by omega)]
        have ih := wd_of h hs hi f (r + sz r) (by omega) hend (edge_end h hr)
        rw [← ih]
        congr 1
        omega

/-- the word with so many ahead -/
theorem wd_all {n : Nat} {sz : Nat → Nat} (h : Snd n sz) {s i : Nat} (hs : 0 < sz s) (hi : i < sz s) : wdF sz n (n + 1) 0 (cp (lv sz) s + i) = some (s + i) := by
  have := wd_of h hs hi (n + 1) 0 (by omega) (by omega) (edge_zero sz)
  rw [show cp (lv sz) 0 = 0 from rfl, Nat.sub_zero] at this
  exact this

theorem lvR_zero {n : Nat} {sz : Nat → Nat} {t : Nat} (ht : t ≤ n) : cp (lvR sz 0 (t : Int)) n = cp (lv sz) t := by
  rw [lvR_eq (n := n) (x := 0) (y := (t : Int)) (f := 0) (t := t) (by omega) (by omega)]
  exact cp_congr t fun j _ => by unfold lvF; rw [decide_eq_true (by omega), Bool.true_and]

theorem parts (p : Nat → Bool) (f g h : Int) (h1 : f ≤ g) (h2 : g ≤ h) : ∀ n, cp (fun j => decide (f ≤ (j : Int) ∧ (j : Int) < g) && p j) n + cp (fun j => decide (g ≤ (j : Int) ∧ (j : Int) < h) && p j) n = cp (fun j => decide (f ≤ (j : Int) ∧ (j : Int) < h) && p j) n
  | 0 => rfl
  | n + 1 => by
    have ih := parts p f g h h1 h2 n
    simp only [cp]
    rw [← ih]
    have key : (decide (f ≤ (n : Int) ∧ (n : Int) < g) && p n).toNat + (decide (g ≤ (n : Int) ∧ (n : Int) < h) && p n).toNat = (decide (f ≤ (n : Int) ∧ (n : Int) < h) && p n).toNat := by
      cases p n
      · simp
      · by_cases c1 : (n : Int) < g
        · rw [decide_eq_false (show ¬ (g ≤ (n : Int) ∧ (n : Int) < h) by omega)]
          rw [show decide (f ≤ (n : Int) ∧ (n : Int) < g) = decide (f ≤ (n : Int) ∧ (n : Int) < h) by rw [Bool.eq_iff_iff, decide_eq_true_iff, decide_eq_true_iff]; omega]
          simp
        · rw [decide_eq_false (show ¬ (f ≤ (n : Int) ∧ (n : Int) < g) by omega)]
          rw [show decide (g ≤ (n : Int) ∧ (n : Int) < h) = decide (f ≤ (n : Int) ∧ (n : Int) < h) by rw [Bool.eq_iff_iff, decide_eq_true_iff, decide_eq_true_iff]; omega]
          simp
    omega

theorem lvR_split {sz : Nat → Nat} (n : Nat) {f g h : Int} (h1 : f ≤ g) (h2 : g ≤ h) : cp (lvR sz f g) n + cp (lvR sz g h) n = cp (lvR sz f h) n := parts (lv sz) f g h h1 h2 n

theorem cp_one {p : Nat → Bool} {s : Nat} (hp : p s = false) : ∀ n, s < n → cp (fun j => if j = s then true else p j) n = cp p n + 1
  | 0, h => absurd h (by omega)
  | n + 1, h => by
    simp only [cp]
    by_cases e : n = s
    · subst e
      rw [if_pos rfl, hp, cp_congr n fun j hj => if_neg (by omega)]
      rfl
    · rw [if_neg e, cp_one hp n (by omega)]; omega

theorem fst_cp {sz : Nat → Nat} {n s z : Nat} (hz : 0 < z) (h0 : sz s = 0) (hs : s < n) : cp (fst' (putZ sz s z)) n = cp (fst' sz) n + 1 := by
  rw [← fst_put hz]
  exact cp_one (by unfold fst'; rw [h0]; rfl) n hs

theorem starts_step {n : Nat} {sz : Nat → Nat} (h : Snd n sz) {p s : Nat} (hs : 0 < sz s) (hps : p ≤ s) (hn : ∀ k, p ≤ k → k < s → fst' sz k = false) : cp (fst' sz) (s + sz s) = cp (fst' sz) p + 1 := by
  have e1 := cp_runF (p := fst' sz) (a := p) (s - p) fun j g1 g2 => hn j g1 (by omega)
  rw [show p + (s - p) = s by omega] at e1
  have e2 : cp (fst' sz) (s + 1) = cp (fst' sz) s + 1 := by
    show cp (fst' sz) s + (fst' sz s).toNat = _
    rw [fst_iff.2 hs]; rfl
  have e3 := cp_runF (p := fst' sz) (a := s + 1) (sz s - 1) fun j g1 g2 => by
    cases e : fst' sz j with
    | false => rfl
    | true => have := fst_iff.1 e; have := h.apart s j hs (by omega) (by omega); omega
  rw [show s + 1 + (sz s - 1) = s + sz s by omega] at e3
  omega

theorem starts_end {n : Nat} {sz : Nat → Nat} {p : Nat} (hp : p ≤ n) (hn : nxF (fst' sz) p (n - p) = none) : cp (fst' sz) n = cp (fst' sz) p := by
  rcases nxF_is (p := fst' sz) (n - p) p with ⟨_, g⟩ | ⟨r, e, _⟩
  · have := cp_runF (p := fst' sz) (a := p) (n - p) fun j g1 g2 => g j g1 (by omega)
    rw [show p + (n - p) = n by omega] at this
    exact this
  · rw [hn] at e; cases e

theorem live_end {n : Nat} {sz : Nat → Nat} {p : Nat} (hp : p ≤ n) (he : EdgeAt sz p) (hn : nxF (fst' sz) p (n - p) = none) : cp (lv sz) n = cp (lv sz) p := by
  rcases nxF_is (p := fst' sz) (n - p) p with ⟨_, g⟩ | ⟨r, e, _⟩
  · exact gap_cp hp he fun k g1 g2 => g k g1 (by omega)
  · rw [hn] at e; cases e

end Go.Proofs.YtaaapbfhedgnjaaDoor.BV
