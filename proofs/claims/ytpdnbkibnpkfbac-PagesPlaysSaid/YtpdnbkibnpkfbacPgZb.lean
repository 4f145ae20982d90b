/- The document's page map (layer 8): Frame, Count, Next. -/
import Derived.Test.YtpdnbkibnpkfbacPgZ
namespace Go.Proofs.Ytpdnbkibnpkfbac.PT
open Go.ChangeShapes Go.WideShapes Go.ChangeAt Go.RowKit

theorem ix_range (L : List (Nat × Nat)) (p : Int) : ix L p = -1 ∨ ∃ k : Nat, ix L p = k ∧ k < L.length ∧ ((L.getD k (0, 0)).1 : Int) = p := by
  unfold ix
  cases h : L.findIdx? (fun e => (e.1 : Int) == p) with
  | none => exact .inl rfl
  | some k =>
    rw [List.findIdx?_eq_some_iff_getElem] at h
    obtain ⟨hk, h1, _⟩ := h
    refine .inr ⟨k, rfl, hk, ?_⟩
    have e : L.getD k (0, 0) = L[k] := by simp [List.getD_eq_getElem?_getD, hk]
    rw [e]; simpa using h1

def lfV (n : Nat) (L : List (Nat × Nat)) (p : Int) : Int := if 0 ≤ p ∧ p < n then (if ix L p < 0 then 0 else ((L.getD (ix L p).toNat (0, 0)).2 : Int)) else 0
def lfE (n : Nat) (L : List (Nat × Nat)) (p : Int) : Int := if 0 ≤ p ∧ p < n then (if ix L p < 0 then 12 else 0) else 11

theorem ls_frame {c n : Nat} {L : List (Nat × Nat)} (hn : n ≤ 524288) (hL : L.length ≤ 1000000) (p : Int) : Ask Try.prog 29 #[.pointer (some ⟨c, 0, none⟩), .int .i64 p] (lsA c n L) (.tuple #[.int .i64 (lfV n L p), .int .i64 (lfE n L p)]) := by
  intro w S h
  have I := ls_in hn p w S h
  have A := Lib.hid (ls_at hL p w S h)
  obtain ⟨a, cap, _, c0, c1, cf, ce⟩ := ls_open h
  have CE := Lib.hid ce
  have R := ix_range L p
  clear h ce
  unfold lfV lfE
  by_cases hp : 0 ≤ p ∧ p < n
  · rw [decide_eq_true hp] at I
    have I := Lib.hid I
    rw [if_pos hp, if_pos hp]
    clear hp
    rcases R with R | ⟨k, R, hk, _⟩
    · rw [R]
      have A := A.out
      rw [R] at A
      have A := Lib.hid A
      clear R
      go_enter Try.func29, Try.ntmps29
      go_wp2_with (first | (go_at_call 41; refine I.out.mono ?_; rintro e1 w1 ⟨rfl, rfl⟩) | (go_at_call 42; refine A.out.mono ?_; rintro e1 w1 ⟨rfl, rfl⟩))
      go_ret2
      exact ⟨rfl, rfl⟩
    · have A := A.out
      rw [R] at A ⊢
      have A := Lib.hid A
      have hkI : ¬ (k : Int) < 0 := by omega
      rw [if_neg hkI, if_neg hkI, Int.toNat_natCast]
      obtain ⟨g, rfl, e0, e1⟩ := CE.out k hk
      have hltI : (k : Int) < (L.length : Int) := by omega
      clear R hkI
      generalize ((L.getD k (0, 0)).1 : Int) = x at *
      generalize ((L.getD k (0, 0)).2 : Int) = y at *
      clear e0
      go_enter Try.func29, Try.ntmps29
      go_wp2_with (first | (go_at_call 41; refine I.out.mono ?_; rintro e1 w1 ⟨rfl, rfl⟩) | (go_at_call 42; refine A.out.mono ?_; rintro e1 w1 ⟨rfl, rfl⟩))
      go_ret2
      exact ⟨rfl, rfl⟩
  · rw [decide_eq_false hp] at I
    have I := Lib.hid I
    rw [if_neg hp, if_neg hp]
    clear hp R A
    go_enter Try.func29, Try.ntmps29
    go_wp2_with (go_at_call 41; refine I.out.mono ?_; rintro e1 w1 ⟨rfl, rfl⟩)
    go_ret2
    exact ⟨rfl, rfl⟩

/-- how many of the first k lie from f up to t -/
def lcnt (L : List (Nat × Nat)) (f t : Int) : Nat → Nat
  | 0 => 0
  | k + 1 => lcnt L f t k + (if f ≤ ((L.getD k (0, 0)).1 : Int) ∧ ((L.getD k (0, 0)).1 : Int) < t then 1 else 0)

theorem lcnt_le (L : List (Nat × Nat)) (f t : Int) : ∀ k, lcnt L f t k ≤ k
  | 0 => Nat.le_refl _
  | k + 1 => by have := lcnt_le L f t k; unfold lcnt; split <;> omega

theorem ls_count {c n : Nat} {L : List (Nat × Nat)} (hL : L.length ≤ 1000000) (f t : Int) : Ask Try.prog 33 #[.pointer (some ⟨c, 0, none⟩), .int .i64 f, .int .i64 t] (lsA c n L) (.int .i64 (lcnt L f t L.length : Nat)) := by
  intro w S h
  obtain ⟨a, cap, _, c0, c1, cf, ce⟩ := ls_open h
  have CE := Lib.hid ce
  have I1 : Hid (∀ k, lcnt L f t (k + 1) = lcnt L f t k + (if f ≤ ((L.getD k (0, 0)).1 : Int) ∧ ((L.getD k (0, 0)).1 : Int) < t then 1 else 0)) := Lib.hid fun _ => rfl
  have I0 : Hid (lcnt L f t 0 = 0) := Lib.hid rfl
  have IL := Lib.hid (lcnt_le L f t)
  clear h ce
  generalize lcnt L f t = C at *
  go_enter Try.func33, Try.ntmps33
  go_wp2
  go_loop [7, 8] (fun nv v => ∃ k : Nat, v = .int .i64 k ∧ nv = .int .i64 (C k : Nat) ∧ k ≤ L.length) (fun _ v => L.length - (intOf v).toNat)
  case atStart => exact ⟨0, rfl, by rw [I0.out]; rfl, Nat.zero_le _⟩
  case round =>
    obtain ⟨k, rfl, rfl, hk⟩ := hrel
    have hck := IL.out k
    by_cases hlt : k < L.length
    · have hltI : (k : Int) < (L.length : Int) := by omega
      obtain ⟨g, rfl, e0, e1⟩ := CE.out k hlt
      have NX := I1.out k
      generalize ((L.getD k (0, 0)).1 : Int) = x at *
      clear e1
      by_cases h1 : f ≤ x
      · by_cases h2 : x < t
        · rw [if_pos ⟨h1, h2⟩] at NX
          have NX := Lib.hid NX
          generalize C k = ck at *
          go_wp2
          go_round
          case rel => exact ⟨k + 1, by go_num, by rw [NX.out]; go_num, by omega⟩
          case measure => simp [intOf]; omega
        · rw [if_neg (fun h => h2 h.2)] at NX
          have NX := Lib.hid NX
          generalize C k = ck at *
          go_wp2
          go_round
          case rel => exact ⟨k + 1, by go_num, by rw [NX.out]; rfl, by omega⟩
          case measure => simp [intOf]; omega
      · rw [if_neg (fun h => h1 h.1)] at NX
        have NX := Lib.hid NX
        generalize C k = ck at *
        go_wp2
        go_round
        case rel => exact ⟨k + 1, by go_num, by rw [NX.out]; rfl, by omega⟩
        case measure => simp [intOf]; omega
    · obtain rfl : k = L.length := by omega
      go_wp2
      go_ret
      exact ⟨rfl, rfl⟩

theorem ls_next {c n : Nat} {L : List (Nat × Nat)} (hL : L.length ≤ 1000000) (p : Int) (fin : Value)
    (h1 : ∀ j, j < L.length → p ≤ ((L.getD j (0, 0)).1 : Int) → (∀ i, i < L.length → p ≤ ((L.getD i (0, 0)).1 : Int) → ((L.getD j (0, 0)).1 : Int) ≤ (L.getD i (0, 0)).1) → fin = .tuple #[.int .i64 ((L.getD j (0, 0)).1 : Nat), .bool true])
    (h2 : (∀ i, i < L.length → ¬ p ≤ ((L.getD i (0, 0)).1 : Int)) → fin = .tuple #[.int .i64 0, .bool false]) :
    Ask Try.prog 31 #[.pointer (some ⟨c, 0, none⟩), .int .i64 p] (lsA c n L) fin := by
  intro w S h
  obtain ⟨a, cap, _, c0, c1, cf, ce⟩ := ls_open h
  have CE := Lib.hid ce
  have H1 := Lib.hid h1
  have H2 := Lib.hid h2
  clear h ce h1 h2
  go_enter Try.func31, Try.ntmps31
  go_wp2
  go_loop [6, 7, 8] (fun bv v _ => ∃ (k : Nat) (b : Int), v = .int .i64 k ∧ bv = .int .i64 b ∧ k ≤ L.length ∧ Hid ((b = -1 ∧ ∀ i, i < k → ¬ p ≤ ((L.getD i (0, 0)).1 : Int)) ∨ (∃ j, j < k ∧ b = ((L.getD j (0, 0)).1 : Int) ∧ p ≤ b ∧ ∀ i, i < k → p ≤ ((L.getD i (0, 0)).1 : Int) → b ≤ ((L.getD i (0, 0)).1 : Int)))) (fun _ v _ => L.length - (intOf v).toNat)
  case atStart => exact ⟨0, -1, rfl, rfl, Nat.zero_le _, Lib.hid (.inl ⟨rfl, fun i hi => absurd hi (by omega)⟩)⟩
  case round =>
    obtain ⟨k, b, rfl, rfl, hk, HB⟩ := hrel
    by_cases hlt : k < L.length
    · have hltI : (k : Int) < (L.length : Int) := by omega
      obtain ⟨g, rfl, e0, e1⟩ := CE.out k hlt
      have hx0 : (0 : Int) ≤ ((L.getD k (0, 0)).1 : Int) := by omega
      have hb : b = -1 ∨ 0 ≤ b := by
        rcases HB.out with ⟨h, _⟩ | ⟨j, _, h, _⟩
        · exact .inl h
        · exact .inr (by omega)
      have NEW : Hid (p ≤ ((L.getD k (0, 0)).1 : Int) → (b < 0 ∨ ((L.getD k (0, 0)).1 : Int) < b) → (∃ j, j < k + 1 ∧ ((L.getD k (0, 0)).1 : Int) = ((L.getD j (0, 0)).1 : Int) ∧ p ≤ ((L.getD k (0, 0)).1 : Int) ∧ ∀ i, i < k + 1 → p ≤ ((L.getD i (0, 0)).1 : Int) → ((L.getD k (0, 0)).1 : Int) ≤ ((L.getD i (0, 0)).1 : Int))) := Lib.hid fun hp hc => by
        refine ⟨k, by omega, rfl, hp, fun i hi hpi => ?_⟩
        by_cases e : i = k
        · rw [e]; exact Int.le_refl _
        · rcases HB.out with ⟨h, h'⟩ | ⟨j, _, h, _, h'⟩
          · exact absurd hpi (h' i (by omega))
          · have := h' i (by omega) hpi; omega
      have OLD : Hid (¬ (p ≤ ((L.getD k (0, 0)).1 : Int) ∧ (b < 0 ∨ ((L.getD k (0, 0)).1 : Int) < b)) → ((b = -1 ∧ ∀ i, i < k + 1 → ¬ p ≤ ((L.getD i (0, 0)).1 : Int)) ∨ (∃ j, j < k + 1 ∧ b = ((L.getD j (0, 0)).1 : Int) ∧ p ≤ b ∧ ∀ i, i < k + 1 → p ≤ ((L.getD i (0, 0)).1 : Int) → b ≤ ((L.getD i (0, 0)).1 : Int)))) := Lib.hid fun hn => by
        rcases HB.out with ⟨h, h'⟩ | ⟨j, hj, h, hpb, h'⟩
        · refine .inl ⟨h, fun i hi => ?_⟩
          by_cases e : i = k
          · rw [e]; intro hp; exact hn ⟨hp, .inl (by omega)⟩
          · exact h' i (by omega)
        · refine .inr ⟨j, by omega, h, hpb, fun i hi hpi => ?_⟩
          by_cases e : i = k
          · rw [e] at hpi ⊢
            by_cases e2 : ((L.getD k (0, 0)).1 : Int) < b
            · exact absurd ⟨hpi, .inr e2⟩ hn
            · omega
          · exact h' i (by omega) hpi
      generalize ((L.getD k (0, 0)).1 : Int) = x at *
      clear e1 HB
      by_cases q1 : p ≤ x
      · by_cases q2 : b < 0
        · have N2 := Lib.hid (NEW.out q1 (.inl q2))
          clear NEW OLD
          go_wp2
          go_round
          case rel => exact ⟨k + 1, x, by go_num, rfl, by omega, Lib.hid (.inr N2.out)⟩
          case measure => simp [intOf]; omega
        · by_cases q3 : x < b
          · have N2 := Lib.hid (NEW.out q1 (.inr q3))
            clear NEW OLD
            go_wp2
            go_round
            case rel => exact ⟨k + 1, x, by go_num, rfl, by omega, Lib.hid (.inr N2.out)⟩
            case measure => simp [intOf]; omega
          · have N2 := Lib.hid (OLD.out (fun h => by rcases h.2 with h | h <;> omega))
            clear NEW OLD
            go_wp2
            go_round
            case rel => exact ⟨k + 1, b, by go_num, rfl, by omega, N2⟩
            case measure => simp [intOf]; omega
      · have N2 := Lib.hid (OLD.out (fun h => q1 h.1))
        clear NEW OLD
        go_wp2
        go_round
        case rel => exact ⟨k + 1, b, by go_num, rfl, by omega, N2⟩
        case measure => simp [intOf]; omega
    · obtain rfl : k = L.length := by omega
      rcases HB.out with ⟨rfl, h'⟩ | ⟨j, hj, hb, hpb, h'⟩
      · have FN := Lib.hid (H2.out (fun i hi => by have := h' i hi; omega))
        clear HB h'
        go_wp2
        go_ret2
        exact ⟨by rw [FN.out]; rfl, rfl⟩
      · have FN0 := H1.out j hj (by omega) (fun i hi hp => by have := h' i hi hp; omega)
        have hb0 : 0 ≤ b := by omega
        rw [← hb] at FN0
        have FN := Lib.hid FN0
        clear HB h' hb FN0
        go_wp2
        go_ret2
        exact ⟨by rw [FN.out]; rfl, rfl⟩

end Go.Proofs.Ytpdnbkibnpkfbac.PT
