/- The pool of frames (layer 7): what it keeps true of itself. -/
import Derived.Test.YtflkbefiopnigabDoorFmP
namespace Go.Proofs.YtflkbefiopnigabDoor
open Go.ChangeShapes Go.WideShapes Go.ChangeAt Go.RowKit

theorem nodup_lt (n : Nat) : ∀ l : List Nat, l.Nodup → (∀ x ∈ l, x < n) → l.length ≤ n := by
  induction n with
  | zero => intro l _ h; cases l with
    | nil => simp
    | cons a t => exact absurd (h a (by simp)) (by omega)
  | succ n ih =>
    intro l nd h
    by_cases hm : n ∈ l
    · have h1 := ih (l.erase n) (nd.erase n) (fun x hx => by
        have a := h x (List.mem_of_mem_erase hx)
        have b : x ≠ n := fun e => by subst e; exact nd.not_mem_erase hx
        omega)
      rw [List.length_erase_of_mem hm] at h1
      have : 0 < l.length := List.length_pos_of_mem hm
      omega
    · have := ih l nd (fun x hx => by
        have a := h x hx
        have b : x ≠ n := fun e => by subst e; exact hm hx
        omega)
      omega

theorem page_apart (k k' p j : Nat) (h : k ≠ k') (hj : j < p) : ¬ (k * p ≤ k' * p + j ∧ k' * p + j < k * p + p) := by
  rcases Nat.lt_or_gt_of_ne h with h | h
  · have : (k + 1) * p ≤ k' * p := Nat.mul_le_mul_right p h
    rw [Nat.add_mul] at this; omega
  · have : (k' + 1) * p ≤ k * p := Nat.mul_le_mul_right p h
    rw [Nat.add_mul] at this; omega

/-- what a pool keeps true of itself -/
structure PI (s : PS) : Prop where
  ok : s.ok
  al_lt : ∀ k, s.al k = true → k < s.fresh
  rel_al : ∀ k, k ∈ s.rel → s.al k = false ∧ k < s.fresh
  nd : s.rel.Nodup

theorem PI.new (room page : Nat) (h1 : 1 ≤ room) (h2 : room ≤ 4096) (hp : powP page) : PI (newP room page) where
  ok := newP_ok room page h1 h2 hp
  al_lt := fun k h => by cases h
  rel_al := fun k h => by cases h
  nd := List.nodup_nil

/-- what Take has done, all of it -/
structure Took2 (s : PS) (k : Nat) (s1 : PS) : Prop where
  pi : PI s1
  page : s1.page = s.page
  room : s1.room = s.room
  taken : s1.taken = wrap64 (s.taken + 1)
  high : s1.high = max s.high (s.fresh - s.rel.length + 1)
  kr : k < s.room
  was : s.al k = false
  al : s1.al = fun j => if j = k then true else s.al j
  ws : s1.ws = fun i => if k * s.page ≤ i ∧ i < k * s.page + s.page then 0 else s.ws i
  used : s1.fresh - s1.rel.length = s.fresh - s.rel.length + 1
  mode : (s.rel = [] ∧ k = s.fresh ∧ s1.rel = [] ∧ s1.fresh = s.fresh + 1) ∨ (s.rel = s1.rel ++ [k] ∧ s1.fresh = s.fresh)

theorem PI.take {s : PS} (h : PI s) (p : Nat) :
    (s.rel = [] ∧ s.fresh = s.room ∧ Ask Tryd.prog 59 #[.pointer (some ⟨p, 0, none⟩)] (poolA p s) (.tuple #[.int .i64 0, .int .i64 14])) ∨
    (s.fresh - s.rel.length < s.room ∧ ∃ k s1, Took2 s k s1 ∧ Tri1 Tryd.prog 59 #[.pointer (some ⟨p, 0, none⟩)] (poolA p s) (.tuple #[.int .i64 (k : Nat), .int .i64 0]) (poolA p s1)) := by
  rcases List.eq_nil_or_concat s.rel with e | ⟨ys, z, e⟩
  · by_cases hf : s.fresh < s.room
    · refine .inr ⟨by omega, s.fresh, _, ?_, fm_take_fresh h.ok e hf⟩
      have hal : s.al s.fresh = false := by
        cases e2 : s.al s.fresh with
        | false => rfl
        | true => exact absurd (h.al_lt _ e2) (by omega)
      refine ⟨⟨⟨h.ok.r1, h.ok.r2, h.ok.p1, h.ok.p2, hf, Nat.zero_le _, ?_⟩, ?_, fun m hm => (by cases hm), List.nodup_nil⟩, rfl, rfl, rfl, ?_, hf, hal, rfl, rfl, ?_, .inl ⟨e, rfl, rfl, rfl⟩⟩
      · show max s.high (s.fresh + 1) ≤ s.room
        have := h.ok.hi; omega
      · intro j hj
        have hj' : (if j = s.fresh then true else s.al j) = true := hj
        show j < s.fresh + 1
        by_cases e2 : j = s.fresh
        · omega
        · rw [if_neg e2] at hj'
          have := h.al_lt j hj'; omega
      · show max s.high (s.fresh + 1) = _
        rw [e]; simp
      · show s.fresh + 1 - 0 = _
        rw [e]; simp
    · have := h.ok.fr
      exact .inl ⟨e, by omega, fm_take_full h.ok e (by omega)⟩
  · rw [List.concat_eq_append] at e
    have hz := h.rel_al z (by rw [e]; simp)
    have hl := h.ok.rl
    rw [e, List.length_append, List.length_singleton] at hl
    have hnd := h.nd
    rw [e, List.nodup_append] at hnd
    have hfr := h.ok.fr
    have hel : s.rel.length = ys.length + 1 := by rw [e]; simp
    refine .inr ⟨by omega, z, _, ?_, fm_take_rel h.ok e (by omega)⟩
    refine ⟨⟨⟨h.ok.r1, h.ok.r2, h.ok.p1, h.ok.p2, h.ok.fr, ?_, ?_⟩, ?_, ?_, hnd.1⟩, rfl, rfl, rfl, ?_, by omega, hz.1, rfl, rfl, ?_, .inr ⟨e, rfl⟩⟩
    · show ys.length ≤ s.fresh
      omega
    · show max s.high (s.fresh - ys.length) ≤ s.room
      have := h.ok.hi; omega
    · intro j hj
      have hj' : (if j = z then true else s.al j) = true := hj
      by_cases e2 : j = z
      · subst e2; exact hz.2
      · rw [if_neg e2] at hj'
        exact h.al_lt j hj'
    · intro m hm
      have hm' : m ∈ ys := hm
      have hne : m ≠ z := fun e2 => by subst e2; exact hnd.2.2 _ hm' _ (by simp) rfl
      show (if m = z then true else s.al m) = false ∧ m < s.fresh
      rw [if_neg hne]
      exact h.rel_al m (by rw [e]; exact List.mem_append_left _ hm')
    · show max s.high (s.fresh - ys.length) = _
      rw [hel]; congr 1; omega
    · show s.fresh - ys.length = s.fresh - s.rel.length + 1
      rw [hel]; omega

theorem PI.give {s : PS} (h : PI s) {k : Nat} (hk : s.al k = true) : PI (s.give k) ∧ s.rel.length + 1 ≤ s.fresh := by
  have kn : k ∉ s.rel := fun hm => by have := (h.rel_al k hm).1; rw [hk] at this; cases this
  have hlen : s.rel.length + 1 ≤ s.fresh := by
    have := nodup_lt s.fresh (k :: s.rel) (List.nodup_cons.2 ⟨kn, h.nd⟩) (fun x hx => by
      rcases List.mem_cons.1 hx with rfl | hx
      · exact h.al_lt _ hk
      · exact (h.rel_al x hx).2)
    simpa using this
  refine ⟨⟨⟨h.ok.r1, h.ok.r2, h.ok.p1, h.ok.p2, h.ok.fr, ?_, h.ok.hi⟩, ?_, ?_, ?_⟩, hlen⟩
  · show (s.rel ++ [k]).length ≤ s.fresh
    simpa using hlen
  · intro j hj
    have hj' : (if j = k then false else s.al j) = true := hj
    by_cases e : j = k
    · rw [if_pos e] at hj'; cases hj'
    · rw [if_neg e] at hj'; exact h.al_lt j hj'
  · intro j hj
    show (if j = k then false else s.al j) = false ∧ j < s.fresh
    rcases List.mem_append.1 (show j ∈ s.rel ++ [k] from hj) with g | g
    · obtain ⟨a, b⟩ := h.rel_al j g
      exact ⟨by split <;> simp [a], b⟩
    · have : j = k := by simpa using g
      subst this
      exact ⟨by simp, h.al_lt _ hk⟩
  · show (s.rel ++ [k]).Nodup
    rw [List.nodup_append]
    refine ⟨h.nd, by simp, ?_⟩
    intro a ha b hb e
    have : b = k := by simpa using hb
    subst this; subst e
    exact kn ha

theorem PI.store {s : PS} (h : PI s) (k j : Nat) (u : Int) : PI (s.store k j u) :=
  ⟨⟨h.ok.r1, h.ok.r2, h.ok.p1, h.ok.p2, h.ok.fr, h.ok.rl, h.ok.hi⟩, h.al_lt, h.rel_al, h.nd⟩

theorem PI.kr {s : PS} (h : PI s) {k : Nat} (hk : s.al k = true) : k < s.room := by have := h.al_lt k hk; have := h.ok.fr; omega

end Go.Proofs.YtflkbefiopnigabDoor
