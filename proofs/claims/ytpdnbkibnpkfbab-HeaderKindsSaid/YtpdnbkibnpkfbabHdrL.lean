/- The reference's Kind, Count and First of layer 14. -/
import Derived.Test.YtpdnbkibnpkfbabHdrK
namespace Go.Proofs.Ytpdnbkibnpkfbab
open Go.ChangeShapes Go.WideShapes Go.ChangeAt Go.RowKit

theorem kinds_any {p f w p' f' w' : Int} (h : Eff p f w p' f' w') (W : World) : Calls Try.prog 36 #[hdr p f w] W (KindsPost p' f' w' W) := by
  rcases h.way with ⟨g, rfl, rfl, rfl⟩ | ⟨g, rfl, rfl, rfl⟩
  · exact kinds_ok _ _ _ g.1 g.2.1 g.2.2.1 g.2.2.2 W
  · exact kinds_bad _ _ _ g W

theorem kindsL_len {p f w : Int} (hp : 0 ≤ p) (hf : 0 ≤ f) (hw : 0 ≤ w) : ((kindsL p f w).length : Int) = p + f + w := by simp [kindsL]; omega

theorem kindsL_get {p f w : Int} (hp : 0 ≤ p) (hf : 0 ≤ f) (hw : 0 ≤ w) (j : Nat) (h : (j : Int) < p + f + w) : (kindsL p f w)[j]? = some (kindOf p f w j) := by
  unfold kindsL kindOf
  rw [if_neg (by omega)]
  by_cases h1 : (j : Int) < p
  · rw [if_pos h1, List.append_assoc, List.getElem?_append_left (by simp; omega), List.getElem?_replicate, if_pos (by omega)]
  rw [if_neg h1]
  by_cases h2 : (j : Int) < p + f
  · rw [if_pos h2, List.append_assoc, List.getElem?_append_right (by simp; omega), List.getElem?_append_left (by simp; omega), List.getElem?_replicate, if_pos (by simp; omega)]
  · rw [if_neg h2, List.getElem?_append_right (by simp; omega), List.getElem?_replicate, if_pos (by simp; omega)]

/-- the list as the walk meets it: nil, or a row of the call's own -/
theorem kinds_row {p f w : Int} (hp : 0 ≤ p) (hf : 0 ≤ f) (hw : 0 ≤ w) {W' : World} {B n : Nat} {v : Value} (hn : n = (kindsL p f w).length) (h : W'.ownsRow B 3 1 v n ((kindsL p f w).map (Value.int .i64))) :
    ∃ a cap, v = .slice a n cap ∧ ∀ j : Nat, j < n → ∃ g, a = some ⟨g, 0, none⟩ ∧ W'.cell? ⟨g, j, none⟩ = some (.int .i64 (kindOf p f w j)) := by
  rcases h.2 with ⟨rfl, rfl⟩ | ⟨g, cap, cur, rfl, hg⟩
  · exact ⟨none, 0, rfl, fun j hj => by omega⟩
  · refine ⟨_, _, rfl, fun j hj => ⟨g, rfl, ?_⟩⟩
    rw [h.cellAt j (by omega), List.getElem?_map, kindsL_get hp hf hw j (by have := kindsL_len hp hf hw; omega)]
    rfl

theorem rkind_any {p f w p' f' w' : Int} (h : Eff p f w p' f' w') (i : Int) (W : World) :
    Calls Try.prog 30 #[hdr p f w, .int .i64 i] W fun e W' => e = .returned (.int .i64 (kindOf p' f' w' i)) ∧ Below W.heap.size W W' := by
  obtain ⟨b1, b2, b3, b4⟩ := h.bounds
  have key : ∀ k : Int, kindOf p' f' w' i = k → Calls Try.prog 30 #[hdr p f w, .int .i64 i] W (fun e W' => e = .returned (.int .i64 k) ∧ Below W.heap.size W W') → Calls Try.prog 30 #[hdr p f w, .int .i64 i] W fun e W' => e = .returned (.int .i64 (kindOf p' f' w' i)) ∧ Below W.heap.size W W' := fun k hk h => by rw [hk]; exact h
  by_cases c0 : i < 0
  · refine key 0 (by unfold kindOf; rw [if_pos (.inl c0)]) ?_
    go_enter Try.func30, Try.ntmps30
    go_wp2_with fail
    refine (kinds_any h _).mono ?_
    rintro e w1 ⟨v, n, rfl, hn, hown, hb⟩
    obtain ⟨a, cap, rfl, -⟩ := kinds_row b1 b2 b3 hn hown
    go_wp2
    go_ret
    exact ⟨rfl, (by repeat (first | exact Below.refl _ _ | refine below_drewN ?_ _ | refine Below.drew ?_ | refine Below.alloc ?_ (by first | omega | (simp; done) | (simp; omega)) _ | refine Below.setCell ?_ (by first | omega | (simp; done) | (simp; omega)) _ | refine Below.step ?_ (by assumption) (by first | omega | (simp; done) | (simp; omega))))⟩
  by_cases c1 : p' + f' + w' ≤ i
  · refine key 0 (by unfold kindOf; rw [if_pos (.inr c1)]) ?_
    go_enter Try.func30, Try.ntmps30
    go_wp2_with fail
    refine (kinds_any h _).mono ?_
    rintro e w1 ⟨v, n, rfl, hn, hown, hb⟩
    obtain ⟨a, cap, rfl, -⟩ := kinds_row b1 b2 b3 hn hown
    have hl := kindsL_len b1 b2 b3
    have hin : (n : Int) ≤ i := by omega
    clear hn hl
    go_wp2
    go_ret
    exact ⟨rfl, (by repeat (first | exact Below.refl _ _ | refine below_drewN ?_ _ | refine Below.drew ?_ | refine Below.alloc ?_ (by first | omega | (simp; done) | (simp; omega)) _ | refine Below.setCell ?_ (by first | omega | (simp; done) | (simp; omega)) _ | refine Below.step ?_ (by assumption) (by first | omega | (simp; done) | (simp; omega))))⟩
  · obtain ⟨j, rfl⟩ := Int.eq_ofNat_of_zero_le (show 0 ≤ i by omega)
    clear key
    go_enter Try.func30, Try.ntmps30
    go_wp2_with fail
    refine (kinds_any h _).mono ?_
    rintro e w1 ⟨v, n, rfl, hn, hown, hb⟩
    obtain ⟨a, cap, rfl, hget⟩ := kinds_row b1 b2 b3 hn hown
    have hl := kindsL_len b1 b2 b3
    have hin : j < n := by omega
    have hin2 : (j : Int) < (n : Int) := by omega
    have hn255 : n ≤ 255 := by omega
    obtain ⟨g, rfl, hcell⟩ := hget j hin
    clear hn hl hget
    go_wp2
    go_ret
    exact ⟨rfl, (by repeat (first | exact Below.refl _ _ | refine below_drewN ?_ _ | refine Below.drew ?_ | refine Below.alloc ?_ (by first | omega | (simp; done) | (simp; omega)) _ | refine Below.setCell ?_ (by first | omega | (simp; done) | (simp; omega)) _ | refine Below.step ?_ (by assumption) (by first | omega | (simp; done) | (simp; omega))))⟩

end Go.Proofs.Ytpdnbkibnpkfbab
