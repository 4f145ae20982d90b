/- The reference's Count and First of layer 14. -/
import Derived.Test.YtpdnbkibnpkfbabHdrL
namespace Go.Proofs.Ytpdnbkibnpkfbab
open Go.ChangeShapes Go.WideShapes Go.ChangeAt Go.RowKit

/-- how many of the first k fields are of a kind -/
def cntTo (p f w kind : Int) : Nat → Int
  | 0 => 0
  | k + 1 => cntTo p f w kind k + if kindOf p f w k = kind then 1 else 0

theorem cntTo_bd (p f w kind : Int) (k : Nat) : 0 ≤ cntTo p f w kind k ∧ cntTo p f w kind k ≤ k := by
  induction k with
  | zero => simp [cntTo]
  | succ k ih => simp only [cntTo]; split <;> omega

theorem kind_way {p f w : Int} (k : Nat) (hk : (k : Int) < p + f + w) : ((k : Int) < p ∧ kindOf p f w k = 1) ∨ (p ≤ (k : Int) ∧ (k : Int) < p + f ∧ kindOf p f w k = 2) ∨ (p ≤ (k : Int) ∧ p + f ≤ (k : Int) ∧ kindOf p f w k = 3) := by
  by_cases h1 : (k : Int) < p
  · exact .inl ⟨h1, by unfold kindOf; rw [if_neg (by omega), if_pos h1]⟩
  by_cases h2 : (k : Int) < p + f
  · exact .inr (.inl ⟨by omega, h2, by unfold kindOf; rw [if_neg (by omega), if_neg h1, if_pos h2]⟩)
  · exact .inr (.inr ⟨by omega, by omega, by unfold kindOf; rw [if_neg (by omega), if_neg h1, if_neg h2]⟩)

theorem cnt1 {p f w : Int} (hp : 0 ≤ p) (k : Nat) (hk : (k : Int) ≤ p + f + w) : cntTo p f w 1 k = min (k : Int) p := by
  induction k with
  | zero => simp [cntTo]; omega
  | succ k ih =>
    have ih := ih (by omega)
    rcases kind_way (p := p) (f := f) (w := w) k (by omega) with ⟨a, e⟩ | ⟨a, b, e⟩ | ⟨a, b, e⟩ <;> simp [cntTo, ih, e] <;> omega

theorem cnt2 {p f w : Int} (hp : 0 ≤ p) (hf : 0 ≤ f) (k : Nat) (hk : (k : Int) ≤ p + f + w) : cntTo p f w 2 k = max 0 (min ((k : Int) - p) f) := by
  induction k with
  | zero => simp [cntTo]; omega
  | succ k ih =>
    have ih := ih (by omega)
    rcases kind_way (p := p) (f := f) (w := w) k (by omega) with ⟨a, e⟩ | ⟨a, b, e⟩ | ⟨a, b, e⟩ <;> simp [cntTo, ih, e] <;> omega

theorem cnt3 {p f w : Int} (hp : 0 ≤ p) (hf : 0 ≤ f) (k : Nat) (hk : (k : Int) ≤ p + f + w) : cntTo p f w 3 k = max 0 ((k : Int) - p - f) := by
  induction k with
  | zero => simp [cntTo]; omega
  | succ k ih =>
    have ih := ih (by omega)
    rcases kind_way (p := p) (f := f) (w := w) k (by omega) with ⟨a, e⟩ | ⟨a, b, e⟩ | ⟨a, b, e⟩ <;> simp [cntTo, ih, e] <;> omega

theorem cnt0 {p f w : Int} (kind : Int) (h1 : kind ≠ 1) (h2 : kind ≠ 2) (h3 : kind ≠ 3) (k : Nat) (hk : (k : Int) ≤ p + f + w) : cntTo p f w kind k = 0 := by
  induction k with
  | zero => simp [cntTo]
  | succ k ih =>
    have ih := ih (by omega)
    rcases kind_way (p := p) (f := f) (w := w) k (by omega) with ⟨a, e⟩ | ⟨a, b, e⟩ | ⟨a, b, e⟩ <;> simp [cntTo, ih, e] <;> omega

theorem cntTo_all {p f w : Int} (kind : Int) (hp : 0 ≤ p) (hf : 0 ≤ f) (hw : 0 ≤ w) (k : Nat) (hk : (k : Int) = p + f + w) : cntTo p f w kind k = countOf p f w kind := by
  unfold countOf
  by_cases e1 : kind = 1
  · subst e1; rw [cnt1 hp k (by omega)]; simp; omega
  by_cases e2 : kind = 2
  · subst e2; rw [cnt2 hp hf k (by omega)]; simp; omega
  by_cases e3 : kind = 3
  · subst e3; rw [cnt3 hp hf k (by omega)]; simp; omega
  · rw [cnt0 kind e1 e2 e3 k (by omega)]; simp [e1, e2, e3]

set_option maxHeartbeats 1000000 in
theorem rcount_any {p f w p' f' w' : Int} (h : Eff p f w p' f' w') (kind : Int) (W : World) :
    Calls Try.prog 32 #[hdr p f w, .int .i64 kind] W fun e W' => e = .returned (.int .i64 (countOf p' f' w' kind)) ∧ Below W.heap.size W W' := by
  obtain ⟨b1, b2, b3, b4⟩ := h.bounds
  go_enter Try.func32, Try.ntmps32
  go_wp2_with fail
  refine (kinds_any h _).mono ?_
  rintro e w1 ⟨v, n, rfl, hn, hown, hb⟩
  obtain ⟨a, cap, rfl, hget⟩ := kinds_row b1 b2 b3 hn hown
  have hl := kindsL_len b1 b2 b3
  have hn255 : n ≤ 255 := by omega
  have HN : Hid ((n : Int) = p' + f' + w') := by show _ = _; omega
  have HG := Lib.hid hget
  clear hn hl hget hown
  go_wp2
  go_loop [6, 7] (fun c i => ∃ k : Nat, k ≤ n ∧ i = .int .i64 k ∧ c = .int .i64 (cntTo p' f' w' kind k)) (fun _ i => n - (intOf i).toNat)
  case atStart => exact ⟨0, Nat.zero_le _, rfl, rfl⟩
  case round =>
    obtain ⟨k, hk, rfl, rfl⟩ := hrel
    by_cases hlt : k < n
    · obtain ⟨g, rfl, hcell⟩ := HG.out k hlt
      obtain ⟨d1, d2⟩ := cntTo_bd p' f' w' kind k
      by_cases he : kindOf p' f' w' k = kind
      · have e1 : cntTo p' f' w' kind (k + 1) = cntTo p' f' w' kind k + 1 := by simp [cntTo, he]
        have he' : (kindOf p' f' w' k == kind) = true := by simpa using he
        have E1 := Lib.hid e1
        clear e1 he
        go_wp2
        go_round
        case rel => exact ⟨k + 1, by omega, by go_num, by rw [E1.out]⟩
        case measure => simp [intOf]; omega
      · have e1 : cntTo p' f' w' kind (k + 1) = cntTo p' f' w' kind k := by simp [cntTo, he]
        have he' : (kindOf p' f' w' k == kind) = false := by simpa using he
        have E1 := Lib.hid e1
        clear e1 he
        go_wp2
        go_round
        case rel => exact ⟨k + 1, by omega, by go_num, by rw [E1.out]⟩
        case measure => simp [intOf]; omega
    · obtain rfl : n = k := by omega
      go_wp2
      go_ret
      exact ⟨ret_int (cntTo_all kind b1 b2 b3 n HN.out), (by repeat (first | exact Below.refl _ _ | refine below_drewN ?_ _ | refine Below.drew ?_ | refine Below.alloc ?_ (by first | omega | (simp; done) | (simp; omega)) _ | refine Below.setCell ?_ (by first | omega | (simp; done) | (simp; omega)) _ | refine Below.step ?_ (by assumption) (by first | omega | (simp; done) | (simp; omega))))⟩

/-- where the fields of a kind begin -/
theorem below_first {p f w : Int} (kind : Int) (hp : 0 ≤ p) (hf : 0 ≤ f) (hw : 0 ≤ w) (h1 : 1 ≤ kind) (h3 : kind ≤ 3) (k : Nat) (hk : (k : Int) < p + f + w) : (kindOf p f w k < kind ↔ (k : Int) < firstOf p f kind) := by
  unfold firstOf
  have h : kind = 1 ∨ kind = 2 ∨ kind = 3 := by omega
  rcases kind_way (p := p) (f := f) (w := w) k hk with ⟨a, e⟩ | ⟨a, b, e⟩ | ⟨a, b, e⟩ <;> rw [e] <;> rcases h with rfl | rfl | rfl <;> simp <;> omega

theorem firstOf_bd {p f w : Int} (kind : Int) (hp : 0 ≤ p) (hf : 0 ≤ f) (hw : 0 ≤ w) : 0 ≤ firstOf p f kind ∧ firstOf p f kind ≤ p + f + w := by
  unfold firstOf; split
  · omega
  · split <;> omega

set_option maxHeartbeats 1000000 in
theorem rfirst_in {p f w p' f' w' : Int} (h : Eff p f w p' f' w') (kind : Int) (h1 : 1 ≤ kind) (h3 : kind ≤ 3) (W : World) :
    Calls Try.prog 34 #[hdr p f w, .int .i64 kind] W fun e W' => e = .returned (.int .i64 (firstOf p' f' kind)) ∧ Below W.heap.size W W' := by
  obtain ⟨b1, b2, b3, b4⟩ := h.bounds
  have fb := firstOf_bd (w := w') kind b1 b2 b3
  obtain ⟨fb1, fb2⟩ := fb
  go_enter Try.func34, Try.ntmps34
  go_wp2_with fail
  refine (kinds_any h _).mono ?_
  rintro e w1 ⟨v, n, rfl, hn, hown, hb⟩
  obtain ⟨a, cap, rfl, hget⟩ := kinds_row b1 b2 b3 hn hown
  have hl := kindsL_len b1 b2 b3
  have hn255 : n ≤ 255 := by omega
  have HN : Hid ((n : Int) = p' + f' + w') := by show _ = _; omega
  have HG := Lib.hid hget
  clear hn hl hget hown
  go_wp2
  go_loop [6] (fun i => ∃ k : Nat, k ≤ n ∧ i = .int .i64 k ∧ (k : Int) ≤ firstOf p' f' kind) (fun i => n - (intOf i).toNat)
  case atStart => exact ⟨0, Nat.zero_le _, rfl, fb1⟩
  case round =>
    obtain ⟨k, hk, rfl, hkF⟩ := hrel
    have hN := HN.out
    by_cases hlt : k < n
    · have hb1 := below_first kind b1 b2 b3 h1 h3 k (by omega)
      by_cases hF : (k : Int) < firstOf p' f' kind
      · obtain ⟨g, rfl, hcell⟩ := HG.out k hlt
        have hkl : kindOf p' f' w' k < kind := hb1.2 hF
        have hltI : (k : Int) < (n : Int) := by omega
        clear hb1 hN
        go_wp2
        go_round
        case rel => exact ⟨k + 1, by omega, by go_num, by omega⟩
        case measure => simp [intOf]; omega
      · obtain ⟨g, rfl, hcell⟩ := HG.out k hlt
        have hkl : ¬ kindOf p' f' w' k < kind := fun h => hF (hb1.1 h)
        have hltI : (k : Int) < (n : Int) := by omega
        have e1 : Hid ((k : Int) = firstOf p' f' kind) := by show _ = _; omega
        clear hb1 hN hF hkF
        go_wp2
        go_ret
        exact ⟨ret_int e1.out, (by repeat (first | exact Below.refl _ _ | refine below_drewN ?_ _ | refine Below.drew ?_ | refine Below.alloc ?_ (by first | omega | (simp; done) | (simp; omega)) _ | refine Below.setCell ?_ (by first | omega | (simp; done) | (simp; omega)) _ | refine Below.step ?_ (by assumption) (by first | omega | (simp; done) | (simp; omega))))⟩
    · obtain rfl : n = k := by omega
      have e1 : Hid ((n : Int) = firstOf p' f' kind) := by show _ = _; omega
      clear hN hkF
      go_wp2
      go_ret
      exact ⟨ret_int e1.out, (by repeat (first | exact Below.refl _ _ | refine below_drewN ?_ _ | refine Below.drew ?_ | refine Below.alloc ?_ (by first | omega | (simp; done) | (simp; omega)) _ | refine Below.setCell ?_ (by first | omega | (simp; done) | (simp; omega)) _ | refine Below.step ?_ (by assumption) (by first | omega | (simp; done) | (simp; omega))))⟩

theorem rfirst_any {p f w p' f' w' : Int} (h : Eff p f w p' f' w') (kind : Int) (W : World) :
    Calls Try.prog 34 #[hdr p f w, .int .i64 kind] W fun e W' => e = .returned (.int .i64 (firstOf p' f' kind)) ∧ Below W.heap.size W W' := by
  obtain ⟨b1, b2, b3, b4⟩ := h.bounds
  by_cases h1 : kind < 1
  · have hF : firstOf p' f' kind = 0 := by unfold firstOf; rw [if_neg (by omega), if_neg (by omega)]
    rw [hF]
    clear hF
    go_enter Try.func34, Try.ntmps34
    go_wp2_with fail
    refine (kinds_any h _).mono ?_
    rintro e w1 ⟨v, n, rfl, hn, hown, hb⟩
    obtain ⟨a, cap, rfl, -⟩ := kinds_row b1 b2 b3 hn hown
    clear hn hown
    go_wp2
    go_ret
    exact ⟨rfl, (by repeat (first | exact Below.refl _ _ | refine below_drewN ?_ _ | refine Below.drew ?_ | refine Below.alloc ?_ (by first | omega | (simp; done) | (simp; omega)) _ | refine Below.setCell ?_ (by first | omega | (simp; done) | (simp; omega)) _ | refine Below.step ?_ (by assumption) (by first | omega | (simp; done) | (simp; omega))))⟩
  by_cases h3 : 3 < kind
  · have hF : firstOf p' f' kind = 0 := by unfold firstOf; rw [if_neg (by omega), if_neg (by omega)]
    rw [hF]
    clear hF
    go_enter Try.func34, Try.ntmps34
    go_wp2_with fail
    refine (kinds_any h _).mono ?_
    rintro e w1 ⟨v, n, rfl, hn, hown, hb⟩
    obtain ⟨a, cap, rfl, -⟩ := kinds_row b1 b2 b3 hn hown
    clear hn hown
    go_wp2
    go_ret
    exact ⟨rfl, (by repeat (first | exact Below.refl _ _ | refine below_drewN ?_ _ | refine Below.drew ?_ | refine Below.alloc ?_ (by first | omega | (simp; done) | (simp; omega)) _ | refine Below.setCell ?_ (by first | omega | (simp; done) | (simp; omega)) _ | refine Below.step ?_ (by assumption) (by first | omega | (simp; done) | (simp; omega))))⟩
  · exact rfirst_in h kind (by omega) (by omega) W

end Go.Proofs.Ytpdnbkibnpkfbab
