/- The document's page map (layer 8): a list beside the pages' frames, plain numbers. -/
import Derived.Test.YtpdnbkibnpkfbacPgZb
namespace Go.Proofs.Ytpdnbkibnpkfbac.PT
open Go.ChangeShapes Go.WideShapes Go.ChangeAt Go.RowKit

/-- a list says what the pages' frames are -/
structure RL (s : QS) (L : List (Nat × Nat)) : Prop where
  ok : s.ok
  tot : s.tot = L.length
  nd : (L.map (·.1)).Nodup
  bd : ∀ e ∈ L, e.1 < s.pages ∧ e.2 ≤ 2147483647
  has : ∀ e ∈ L, s.fr e.1 = e.2 + 1
  no : ∀ q, (∀ e ∈ L, e.1 ≠ q) → s.fr q = 0

theorem getD_mem {L : List (Nat × Nat)} {k : Nat} (hk : k < L.length) : L.getD k (0, 0) ∈ L := by
  rw [List.getD_eq_getElem?_getD, List.getElem?_eq_getElem hk]; exact List.getElem_mem hk

theorem mem_getD {L : List (Nat × Nat)} {e : Nat × Nat} (h : e ∈ L) : ∃ k, k < L.length ∧ L.getD k (0, 0) = e := by
  obtain ⟨k, hk, rfl⟩ := List.mem_iff_getElem.1 h
  exact ⟨k, hk, by simp [List.getD_eq_getElem?_getD, hk]⟩

theorem RL.ix_none {s : QS} {L : List (Nat × Nat)} (h : RL s L) (q : Nat) (hq : s.fr q = 0) : ix L q = -1 := by
  rcases ix_range L q with e | ⟨k, _, hk, e⟩
  · exact e
  · have := h.has _ (getD_mem hk)
    have e2 : (L.getD k (0, 0)).1 = q := by omega
    rw [e2, hq] at this; omega

theorem RL.ix_some {s : QS} {L : List (Nat × Nat)} (h : RL s L) (q : Nat) (hq : s.fr q ≠ 0) : ∃ k : Nat, ix L q = k ∧ k < L.length ∧ (L.getD k (0, 0)).1 = q ∧ s.fr q = (L.getD k (0, 0)).2 + 1 := by
  rcases ix_range L q with e | ⟨k, e0, hk, e⟩
  · exfalso
    refine hq (h.no q fun e' he' hq' => ?_)
    obtain ⟨k, hk, ek⟩ := mem_getD he'
    unfold ix at e
    cases hf : L.findIdx? (fun e => (e.1 : Int) == (q : Int)) with
    | some k => rw [hf] at e; change (k : Int) = -1 at e; omega
    | none =>
      rw [List.findIdx?_eq_none_iff] at hf
      have := hf e' he'
      rw [hq'] at this
      simp at this
  · have e2 : (L.getD k (0, 0)).1 = q := by omega
    refine ⟨k, e0, hk, e2, ?_⟩
    have := h.has _ (getD_mem hk)
    rw [e2] at this; exact this

theorem RL.frame {s : QS} {L : List (Nat × Nat)} (h : RL s L) (q : Nat) (hq : q < s.pages) : lfV s.pages L q = (s.fr q : Int) - (if s.fr q = 0 then 0 else 1) ∧ lfE s.pages L q = if s.fr q = 0 then 12 else 0 := by
  have hp : (0 : Int) ≤ (q : Int) ∧ (q : Int) < (s.pages : Int) := by omega
  unfold lfV lfE
  rw [if_pos hp, if_pos hp]
  by_cases hz : s.fr q = 0
  · rw [h.ix_none q hz, hz]
    simp
  · obtain ⟨k, e0, hk, e2, e3⟩ := h.ix_some q hz
    rw [e0, if_neg (by omega : ¬ (k : Int) < 0), if_neg (by omega : ¬ (k : Int) < 0), Int.toNat_natCast, if_neg hz, if_neg hz, e3]
    refine ⟨by push_cast; omega, rfl⟩

/-- the count below n, by the list -/
def lb (L : List (Nat × Nat)) (n : Nat) : Nat := L.countP (fun e => decide (e.1 < n))

theorem lb_succ (L : List (Nat × Nat)) (n : Nat) : lb L (n + 1) = lb L n + L.countP (fun e => decide (e.1 = n)) := by
  unfold lb
  induction L with
  | nil => rfl
  | cons e r ih =>
    rw [List.countP_cons, List.countP_cons, List.countP_cons, ih]
    by_cases h1 : e.1 < n
    · have h2 : e.1 < n + 1 := by omega
      have h3 : ¬ e.1 = n := by omega
      simp [h1, h2, h3]; omega
    · by_cases h3 : e.1 = n
      · have h2 : e.1 < n + 1 := by omega
        simp [h1, h2, h3]; try omega
      · have h2 : ¬ e.1 < n + 1 := by omega
        simp [h1, h2, h3]

theorem one_of_nodup : ∀ (L : List (Nat × Nat)) (n : Nat), (L.map (·.1)).Nodup → L.countP (fun e => decide (e.1 = n)) = if ∃ e ∈ L, e.1 = n then 1 else 0
  | [], n, _ => by simp
  | e :: r, n, h => by
    rw [List.map_cons, List.nodup_cons] at h
    have ih := one_of_nodup r n h.2
    rw [List.countP_cons, ih]
    by_cases h1 : e.1 = n
    · have h2 : ¬ ∃ x ∈ r, x.1 = n := by
        rintro ⟨x, hx, hx2⟩
        exact h.1 (List.mem_map.2 ⟨x, hx, by rw [hx2, h1]⟩)
      rw [if_neg h2, if_pos (show ∃ x ∈ e :: r, x.1 = n from ⟨e, by simp, h1⟩), decide_eq_true h1]; rfl
    · by_cases h2 : ∃ x ∈ r, x.1 = n
      · have h3 : ∃ x ∈ e :: r, x.1 = n := by
          obtain ⟨x, hx, hx2⟩ := h2
          exact ⟨x, by simp [hx], hx2⟩
        rw [if_pos h2, if_pos h3, decide_eq_false h1]; rfl
      · have h3 : ¬ ∃ x ∈ e :: r, x.1 = n := by
          rintro ⟨x, hx, hx2⟩
          rcases List.mem_cons.1 hx with e1 | hx
          · rw [e1] at hx2; exact h1 hx2
          · exact h2 ⟨x, hx, hx2⟩
        rw [if_neg h2, if_neg h3, decide_eq_false h1]; rfl

theorem RL.pc {s : QS} {L : List (Nat × Nat)} (h : RL s L) : ∀ n, pc s.fr n = lb L n
  | 0 => by
    unfold lb PT.pc cnt
    rw [List.countP_eq_zero.2]
    simp
  | n + 1 => by
    rw [pc_succ, lb_succ, h.pc n, one_of_nodup L n h.nd]
    congr 1
    by_cases hz : s.fr n = 0
    · rw [if_neg (by simpa using hz), if_neg (by
        rintro ⟨e, he, rfl⟩
        have := h.has e he; omega)]
    · rw [if_pos hz, if_pos]
      obtain ⟨k, _, hk, e2, _⟩ := h.ix_some n hz
      exact ⟨_, getD_mem hk, e2⟩

end Go.Proofs.Ytpdnbkibnpkfbac.PT
