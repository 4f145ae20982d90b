/- The other functions of package header, out of Check's contract. -/
import Derived.Test.YtpdnbkibnpkfbabHdr
namespace Go.Proofs.Ytpdnbkibnpkfbab
open Go.ChangeShapes Go.WideShapes Go.ChangeAt Go.RowKit

/-- three ints of 64 bits -/
structure HW (p f w : Int) : Prop where
  p1 : -9223372036854775808 ≤ p ∧ p ≤ 9223372036854775807
  f1 : -9223372036854775808 ≤ f ∧ f ≤ 9223372036854775807
  w1 : -9223372036854775808 ≤ w ∧ w ≤ 9223372036854775807

/-- a valid header -/
def Hok (p f w : Int) : Prop := 0 ≤ p ∧ 0 ≤ f ∧ 0 ≤ w ∧ p + f + w ≤ 255

/-- the numbers of fields that count: those of a valid header, else none -/
structure Eff (p f w p' f' w' : Int) : Prop where
  way : (Hok p f w ∧ p' = p ∧ f' = f ∧ w' = w) ∨ (¬ Hok p f w ∧ p' = 0 ∧ f' = 0 ∧ w' = 0)

theorem Eff.bounds {p f w p' f' w' : Int} (h : Eff p f w p' f' w') : 0 ≤ p' ∧ 0 ≤ f' ∧ 0 ≤ w' ∧ p' + f' + w' ≤ 255 := by
  rcases h.way with ⟨h, rfl, rfl, rfl⟩ | ⟨_, rfl, rfl, rfl⟩
  · exact h
  · omega

theorem Eff.exists (p f w : Int) : ∃ p' f' w', Eff p f w p' f' w' := by
  by_cases h : Hok p f w
  · exact ⟨p, f, w, ⟨.inl ⟨h, rfl, rfl, rfl⟩⟩⟩
  · exact ⟨0, 0, 0, ⟨.inr ⟨h, rfl, rfl, rfl⟩⟩⟩

theorem counts_ok (p f w : Int) (hp : 0 ≤ p) (hf : 0 ≤ f) (hw : 0 ≤ w) (h : p + f + w ≤ 255) (W : World) :
    Calls Try.prog 35 #[hdr p f w] W fun e W' => e = .returned (.agg #[.int .i64 0, .int .i64 p, .int .i64 f, .int .i64 w]) ∧ Below W.heap.size W W' := by
  go_enter Try.func35, Try.ntmps35
  go_wp2_with (go_at_call 24; refine (check_ok p f w hp hf hw h _).mono ?_; rintro e w1 ⟨rfl, hb⟩; obtain ⟨hc, hz⟩ := bcell hb; have hs := hb.size; try simp at hs hc hz)
  refine bodyPost_ret (v := .agg #[.int .i64 0, .int .i64 p, .int .i64 f, .int .i64 w]) (by simp [results, Try.results35, go_sem, hc]) rfl ⟨rfl, ?_⟩
  refine Below.setCell (Below.setCell (Below.setCell (Below.setCell (Below.step ?_ hb (by simp; omega)) (by simp) _) (by simp) _) (by simp) _) (by simp) _
  exact ((Below.refl _ _).alloc (Nat.le_refl _) _).alloc (by simp) _

theorem counts_bad (p f w : Int) (h : ¬ Hok p f w) (hw : HW p f w) (W : World) :
    Calls Try.prog 35 #[hdr p f w] W fun e W' => e = .returned (.agg #[.int .i64 0, .int .i64 0, .int .i64 0, .int .i64 0]) ∧ Below W.heap.size W W' := by
  have H := Lib.hid h
  clear h
  go_enter Try.func35, Try.ntmps35
  go_wp2_with (go_at_call 24; refine (check_bad p f w H.out hw.p1 hw.f1 hw.w1 _).mono ?_; rintro e w1 ⟨rfl, hb⟩; obtain ⟨hc, hz⟩ := bcell hb; have hs := hb.size; try simp at hs hc hz)
  refine bodyPost_ret (v := .agg #[.int .i64 0, .int .i64 0, .int .i64 0, .int .i64 0]) (by simp [results, Try.results35, go_sem, hc]) rfl ⟨rfl, ?_⟩
  refine Below.setCell (Below.setCell (Below.setCell (Below.setCell (Below.step ?_ hb (by simp; omega)) (by simp) _) (by simp) _) (by simp) _) (by simp) _
  exact ((Below.refl _ _).alloc (Nat.le_refl _) _).alloc (by simp) _

theorem counts_any {p f w p' f' w' : Int} (h : Eff p f w p' f' w') (hw : HW p f w) (W : World) :
    Calls Try.prog 35 #[hdr p f w] W fun e W' => e = .returned (.agg #[.int .i64 0, .int .i64 p', .int .i64 f', .int .i64 w']) ∧ Below W.heap.size W W' := by
  rcases h.way with ⟨g, rfl, rfl, rfl⟩ | ⟨g, rfl, rfl, rfl⟩
  · exact counts_ok _ _ _ g.1 g.2.1 g.2.2.1 g.2.2.2 W
  · exact counts_bad _ _ _ g hw W

/-- what Kind says -/
def kindOf (p f w i : Int) : Int := if i < 0 ∨ p + f + w ≤ i then 0 else if i < p then 1 else if i < p + f then 2 else 3

theorem kind_any {p f w p' f' w' : Int} (h : Eff p f w p' f' w') (hw : HW p f w) (i : Int) (W : World) :
    Calls Try.prog 29 #[hdr p f w, .int .i64 i] W fun e W' => e = .returned (.int .i64 (kindOf p' f' w' i)) ∧ Below W.heap.size W W' := by
  obtain ⟨b1, b2, b3, b4⟩ := h.bounds
  have key : ∀ k : Int, kindOf p' f' w' i = k → Calls Try.prog 29 #[hdr p f w, .int .i64 i] W (fun e W' => e = .returned (.int .i64 k) ∧ Below W.heap.size W W') → Calls Try.prog 29 #[hdr p f w, .int .i64 i] W fun e W' => e = .returned (.int .i64 (kindOf p' f' w' i)) ∧ Below W.heap.size W W' := fun k hk h => by rw [hk]; exact h
  by_cases c0 : i < 0
  · refine key _ (by unfold kindOf; rw [if_pos (.inl c0)]) ?_
    go_enter Try.func29, Try.ntmps29
    go_wp2_with (go_at_call 35; refine (counts_any h hw _).mono ?_; rintro e w1 ⟨rfl, hb⟩; obtain ⟨hc, hz⟩ := bcell hb; have hs := hb.size; try simp at hs hc hz)
    go_quiet (fail)
    go_wp2
    go_ret
    exact ⟨rfl, (by repeat (first | exact Below.refl _ _ | refine below_drewN ?_ _ | refine Below.drew ?_ | refine Below.alloc ?_ (by first | omega | (simp; done) | (simp; omega)) _ | refine Below.setCell ?_ (by first | omega | (simp; done) | (simp; omega)) _ | refine Below.step ?_ (by assumption) (by first | omega | (simp; done) | (simp; omega))))⟩
  by_cases c1 : p' + f' + w' ≤ i
  · refine key _ (by unfold kindOf; rw [if_pos (.inr c1)]) ?_
    go_enter Try.func29, Try.ntmps29
    go_wp2_with (go_at_call 35; refine (counts_any h hw _).mono ?_; rintro e w1 ⟨rfl, hb⟩; obtain ⟨hc, hz⟩ := bcell hb; have hs := hb.size; try simp at hs hc hz)
    go_quiet (fail)
    go_wp2
    go_ret
    exact ⟨rfl, (by repeat (first | exact Below.refl _ _ | refine below_drewN ?_ _ | refine Below.drew ?_ | refine Below.alloc ?_ (by first | omega | (simp; done) | (simp; omega)) _ | refine Below.setCell ?_ (by first | omega | (simp; done) | (simp; omega)) _ | refine Below.step ?_ (by assumption) (by first | omega | (simp; done) | (simp; omega))))⟩
  by_cases c2 : i < p'
  · refine key _ (by unfold kindOf; rw [if_neg (by omega), if_pos c2]) ?_
    go_enter Try.func29, Try.ntmps29
    go_wp2_with (go_at_call 35; refine (counts_any h hw _).mono ?_; rintro e w1 ⟨rfl, hb⟩; obtain ⟨hc, hz⟩ := bcell hb; have hs := hb.size; try simp at hs hc hz)
    go_quiet (fail)
    go_wp2
    go_ret
    exact ⟨rfl, (by repeat (first | exact Below.refl _ _ | refine below_drewN ?_ _ | refine Below.drew ?_ | refine Below.alloc ?_ (by first | omega | (simp; done) | (simp; omega)) _ | refine Below.setCell ?_ (by first | omega | (simp; done) | (simp; omega)) _ | refine Below.step ?_ (by assumption) (by first | omega | (simp; done) | (simp; omega))))⟩
  by_cases c3 : i < p' + f'
  · refine key _ (by unfold kindOf; rw [if_neg (by omega), if_neg c2, if_pos c3]) ?_
    go_enter Try.func29, Try.ntmps29
    go_wp2_with (go_at_call 35; refine (counts_any h hw _).mono ?_; rintro e w1 ⟨rfl, hb⟩; obtain ⟨hc, hz⟩ := bcell hb; have hs := hb.size; try simp at hs hc hz)
    go_quiet (fail)
    go_wp2
    go_ret
    exact ⟨rfl, (by repeat (first | exact Below.refl _ _ | refine below_drewN ?_ _ | refine Below.drew ?_ | refine Below.alloc ?_ (by first | omega | (simp; done) | (simp; omega)) _ | refine Below.setCell ?_ (by first | omega | (simp; done) | (simp; omega)) _ | refine Below.step ?_ (by assumption) (by first | omega | (simp; done) | (simp; omega))))⟩
  · refine key _ (by unfold kindOf; rw [if_neg (by omega), if_neg c2, if_neg c3]) ?_
    go_enter Try.func29, Try.ntmps29
    go_wp2_with (go_at_call 35; refine (counts_any h hw _).mono ?_; rintro e w1 ⟨rfl, hb⟩; obtain ⟨hc, hz⟩ := bcell hb; have hs := hb.size; try simp at hs hc hz)
    go_quiet (fail)
    go_wp2
    go_ret
    exact ⟨rfl, (by repeat (first | exact Below.refl _ _ | refine below_drewN ?_ _ | refine Below.drew ?_ | refine Below.alloc ?_ (by first | omega | (simp; done) | (simp; omega)) _ | refine Below.setCell ?_ (by first | omega | (simp; done) | (simp; omega)) _ | refine Below.step ?_ (by assumption) (by first | omega | (simp; done) | (simp; omega))))⟩

/-- what Count says -/
def countOf (p f w k : Int) : Int := if k = 1 then p else if k = 2 then f else if k = 3 then w else 0

theorem kx (a b c d : Int) (W : World) : (∀ k : Int, k = 1 → (Instr.index 62 (.agg #[.int .i64 a, .int .i64 b, .int .i64 c, .int .i64 d]) (.int .i64 k)).run Try.prog W = .ok (.int .i64 b) W) := by
  rintro k rfl; kernel_rfl

theorem count_any {p f w p' f' w' : Int} (h : Eff p f w p' f' w') (hw : HW p f w) (k : Int) (W : World) :
    Calls Try.prog 31 #[hdr p f w, .int .i64 k] W fun e W' => e = .returned (.int .i64 (countOf p' f' w' k)) ∧ Below W.heap.size W W' := by
  obtain ⟨b1, b2, b3, b4⟩ := h.bounds
  have x1 : ∀ W' : World, (Instr.index 62 (.agg #[.int .i64 0, .int .i64 p', .int .i64 f', .int .i64 w']) (.int .i64 1)).run Try.prog W' = .ok (.int .i64 p') W' := fun _ => by kernel_rfl
  have x2 : ∀ W' : World, (Instr.index 62 (.agg #[.int .i64 0, .int .i64 p', .int .i64 f', .int .i64 w']) (.int .i64 2)).run Try.prog W' = .ok (.int .i64 f') W' := fun _ => by kernel_rfl
  have x3 : ∀ W' : World, (Instr.index 62 (.agg #[.int .i64 0, .int .i64 p', .int .i64 f', .int .i64 w']) (.int .i64 3)).run Try.prog W' = .ok (.int .i64 w') W' := fun _ => by kernel_rfl
  by_cases c1 : k = 1
  · subst c1
    go_enter Try.func31, Try.ntmps31
    go_wp2_with (go_at_call 35; refine (counts_any h hw _).mono ?_; rintro e w1 ⟨rfl, hb⟩; obtain ⟨hc, hz⟩ := bcell hb; have hs := hb.size; try simp at hs hc hz)
    go_ret
    exact ⟨by simp [countOf], (by repeat (first | exact Below.refl _ _ | refine below_drewN ?_ _ | refine Below.drew ?_ | refine Below.alloc ?_ (by first | omega | (simp; done) | (simp; omega)) _ | refine Below.setCell ?_ (by first | omega | (simp; done) | (simp; omega)) _ | refine Below.step ?_ (by assumption) (by first | omega | (simp; done) | (simp; omega))))⟩
  by_cases c2 : k = 2
  · subst c2
    go_enter Try.func31, Try.ntmps31
    go_wp2_with (go_at_call 35; refine (counts_any h hw _).mono ?_; rintro e w1 ⟨rfl, hb⟩; obtain ⟨hc, hz⟩ := bcell hb; have hs := hb.size; try simp at hs hc hz)
    go_ret
    exact ⟨by simp [countOf], (by repeat (first | exact Below.refl _ _ | refine below_drewN ?_ _ | refine Below.drew ?_ | refine Below.alloc ?_ (by first | omega | (simp; done) | (simp; omega)) _ | refine Below.setCell ?_ (by first | omega | (simp; done) | (simp; omega)) _ | refine Below.step ?_ (by assumption) (by first | omega | (simp; done) | (simp; omega))))⟩
  by_cases c3 : k = 3
  · subst c3
    go_enter Try.func31, Try.ntmps31
    go_wp2_with (go_at_call 35; refine (counts_any h hw _).mono ?_; rintro e w1 ⟨rfl, hb⟩; obtain ⟨hc, hz⟩ := bcell hb; have hs := hb.size; try simp at hs hc hz)
    go_ret
    exact ⟨by simp [countOf], (by repeat (first | exact Below.refl _ _ | refine below_drewN ?_ _ | refine Below.drew ?_ | refine Below.alloc ?_ (by first | omega | (simp; done) | (simp; omega)) _ | refine Below.setCell ?_ (by first | omega | (simp; done) | (simp; omega)) _ | refine Below.step ?_ (by assumption) (by first | omega | (simp; done) | (simp; omega))))⟩
  go_enter Try.func31, Try.ntmps31
  go_wp2
  go_ret
  exact ⟨by simp [countOf, c1, c2, c3], (by repeat (first | exact Below.refl _ _ | refine below_drewN ?_ _ | refine Below.drew ?_ | refine Below.alloc ?_ (by first | omega | (simp; done) | (simp; omega)) _ | refine Below.setCell ?_ (by first | omega | (simp; done) | (simp; omega)) _ | refine Below.step ?_ (by assumption) (by first | omega | (simp; done) | (simp; omega))))⟩

end Go.Proofs.Ytpdnbkibnpkfbab
