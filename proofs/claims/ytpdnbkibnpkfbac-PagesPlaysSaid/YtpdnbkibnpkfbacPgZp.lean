/- The document's page map (layer 8): Put; counts alike. -/
import Derived.Test.YtpdnbkibnpkfbacPgZm
import Derived.Maps.AppendAt
namespace Go.Proofs.Ytpdnbkibnpkfbac.PT
open Go.ChangeShapes Go.WideShapes Go.ChangeAt Go.RowKit

theorem lcnt_take (L : List (Nat × Nat)) (f t : Int) : ∀ k, k ≤ L.length → lcnt L f t k = (L.take k).countP (fun e => decide (f ≤ (e.1 : Int) ∧ (e.1 : Int) < t))
  | 0, _ => by simp [lcnt]
  | k + 1, hk => by
    unfold lcnt
    rw [lcnt_take L f t k (by omega), List.take_add_one, List.getElem?_eq_getElem (by omega), List.countP_append]
    have e : L.getD k (0, 0) = L[k] := by simp [List.getD_eq_getElem?_getD, show k < L.length by omega]
    rw [e]
    simp

theorem RL.count {s : QS} {L : List (Nat × Nat)} (h : RL s L) (f t : Int) : cntFT s f t = lcnt L f t L.length := by
  unfold cntFT
  rw [h.pc, h.pc, lcnt_take L f t L.length (Nat.le_refl _), List.take_length]
  have : ∀ M : List (Nat × Nat), (∀ e ∈ M, e.1 < s.pages) → M.countP (fun e => decide (f ≤ (e.1 : Int) ∧ (e.1 : Int) < t)) + lb M (min f.toNat (min t s.pages).toNat) = lb M (min t s.pages).toNat := by
    intro M hM
    unfold lb
    induction M with
    | nil => rfl
    | cons e r ih =>
      have i := ih (fun x hx => hM x (List.mem_cons_of_mem _ hx))
      have b := hM e (by simp)
      rw [List.countP_cons, List.countP_cons, List.countP_cons]
      have : (if decide (f ≤ (e.1 : Int) ∧ (e.1 : Int) < t) = true then 1 else 0) + (if decide (e.1 < min f.toNat (min t s.pages).toNat) = true then 1 else 0) = (if decide (e.1 < (min t s.pages).toNat) = true then 1 else 0) := by
        simp only [decide_eq_true_eq]
        by_cases h1 : f ≤ (e.1 : Int) ∧ (e.1 : Int) < t
        · rw [if_pos h1, if_neg (by omega), if_pos (by omega)]
        · rw [if_neg h1]
          by_cases h2 : e.1 < (min t s.pages).toNat
          · rw [if_pos h2, if_pos (by omega)]
          · rw [if_neg h2, if_neg (by omega)]
      omega
  have := this L (fun e he => (h.bd e he).1)
  omega

theorem RL.put {s : QS} {L : List (Nat × Nat)} (h : RL s L) (p f : Nat) (hp : p < s.pages) (hf : f ≤ 2147483647) (hz : s.fr p = 0) (ht : s.tot ≤ 900000) : RL (s.put p (f + 1) 1) (L ++ [(p, f)]) where
  ok := QS.put_ok h.ok p (f + 1) 1 (by omega) (by have := h.ok.t1; omega) (by omega)
  tot := by
    show s.tot + 1 = _
    rw [h.tot, List.length_append, List.length_singleton]; push_cast; rfl
  nd := by
    rw [List.map_append, List.nodup_append]
    refine ⟨h.nd, by simp, ?_⟩
    intro a ha b hb e
    have hb2 : b = p := by simpa using hb
    obtain ⟨x, hx, hx2⟩ := List.mem_map.1 ha
    have := h.has x hx
    rw [hx2, e, hb2, hz] at this; omega
  bd := fun e he => by
    rcases List.mem_append.1 he with he | he
    · exact h.bd e he
    · have : e = (p, f) := by simpa using he
      subst this; exact ⟨hp, hf⟩
  has := fun e he => by
    show upd s.fr p (f + 1) e.1 = _
    unfold upd
    rcases List.mem_append.1 he with he | he
    · have := h.has e he
      rw [if_neg (fun e2 => by rw [e2, hz] at this; omega)]; exact this
    · have : e = (p, f) := by simpa using he
      subst this; rw [if_pos rfl]
  no := fun q hq => by
    show upd s.fr p (f + 1) q = 0
    unfold upd
    rw [if_neg (fun e => hq (p, f) (by simp) e.symm)]
    exact h.no q (fun e he => hq e (List.mem_append_left _ he))

theorem infEn : (Try.prog.info? 75).map (fun i => (i.zero, i.size, i.bytes)) = some (some (.agg #[.int .i64 0, .int .i64 0]), 2, 16) := by kernel_rfl

end Go.Proofs.Ytpdnbkibnpkfbac.PT
