/- The pool of frames beside a map of what was stored: plain numbers (FramesApart). -/
import Derived.Test.YtpdnbkibnpkfbadSLM
import Derived.Test.YtpdnbkibnpkfbadFmW
import Derived.Test.YtpdnbkibnpkfbadFmI
namespace Go.Proofs.Ytpdnbkibnpkfbad
open Go.ChangeShapes Go.WideShapes Go.ChangeAt Go.RowKit Go.Maps

structure FA (s : PS) (D : DataW Unit) : Prop where
  ok : s.ok
  al_lt : ∀ k, s.al k = true → k < s.fresh
  rel_al : ∀ k, k ∈ s.rel → s.al k = false ∧ k < s.fresh
  nd : s.rel.Nodup
  tidy : Tidy D
  has : ∀ i : Int, Maps.has D (.int .i64 i) = true ↔ ∃ k : Nat, i = (k : Int) ∧ s.al k = true
  at_ : ∀ (k : Nat) (z : DataW Unit), s.al k = true → ∃ x : Int, D.atKey (.int .i64 (k : Int)) z = .lit (.int .u64 x) ∧ ∀ j, j < s.page → s.ws (k * s.page + j) = x
  size : Maps.size D = s.fresh - s.rel.length

theorem FA.new (room page : Nat) (h1 : 1 ≤ room) (h2 : room ≤ 4096) (hp : powP page) : FA (newP room page) (.map []) where
  ok := newP_ok room page h1 h2 hp
  al_lt := fun k h => by cases h
  rel_al := fun k h => by cases h
  nd := List.nodup_nil
  tidy := tidy_empty
  has := fun i => by
    constructor
    · intro h; cases h
    · rintro ⟨k, _, h⟩; cases h
  at_ := fun k z h => by cases h
  size := rfl

theorem FA.hasF {s : PS} {D : DataW Unit} (h : FA s D) (k : Nat) (hk : s.al k = false) : Maps.has D (.int .i64 (k : Int)) = false := by
  cases e : Maps.has D (.int .i64 (k : Int)) with
  | false => rfl
  | true =>
    obtain ⟨k', e1, e2⟩ := (h.has k).1 e
    have : k = k' := by omega
    subst this
    rw [hk] at e2; cases e2

/-- what Take has done -/
structure Took (s : PS) (k : Nat) (s1 : PS) : Prop where
  ok : s1.ok
  page : s1.page = s.page
  room : s1.room = s.room
  kr : k < s.room
  kf : k < s1.fresh
  fr : s.fresh ≤ s1.fresh
  was : s.al k = false
  al : s1.al = fun j => if j = k then true else s.al j
  ws : s1.ws = fun i => if k * s.page ≤ i ∧ i < k * s.page + s.page then 0 else s.ws i
  used : s1.fresh - s1.rel.length = s.fresh - s.rel.length + 1
  rel : ∀ m, m ∈ s1.rel → m ∈ s.rel ∧ m ≠ k
  nd : s1.rel.Nodup

/-- words of one frame, the first n of them set -/
def PS.fill (s : PS) (k n : Nat) (x : Int) : PS := { s with ws := fun i => if k * s.page ≤ i ∧ i < k * s.page + n then x else s.ws i }

theorem PS.fill_zero (s : PS) (k : Nat) (x : Int) : s.fill k 0 x = s := by
  unfold PS.fill
  have : (fun i => if k * s.page ≤ i ∧ i < k * s.page + 0 then x else s.ws i) = s.ws := by funext i; rw [if_neg (by omega)]
  rw [this]

theorem PS.fill_succ (s : PS) (k n : Nat) (x : Int) : (s.fill k n x).store k n x = s.fill k (n + 1) x := by
  unfold PS.fill PS.store
  have : (fun i => if i = k * s.page + n then x else (if k * s.page ≤ i ∧ i < k * s.page + n then x else s.ws i)) = (fun i => if k * s.page ≤ i ∧ i < k * s.page + (n + 1) then x else s.ws i) := by
    funext i
    by_cases e : i = k * s.page + n
    · rw [if_pos e, if_pos (by omega)]
    · rw [if_neg e]
      by_cases e2 : k * s.page ≤ i ∧ i < k * s.page + n
      · rw [if_pos e2, if_pos (by omega)]
      · rw [if_neg e2, if_neg (by omega)]
  show PS.mk _ _ _ _ _ _ _ (fun i => if i = k * s.page + n then x else (if k * s.page ≤ i ∧ i < k * s.page + n then x else s.ws i)) = _
  rw [this]

theorem PS.fill_ok {s : PS} (h : s.ok) (k n : Nat) (x : Int) : (s.fill k n x).ok := ⟨h.r1, h.r2, h.p1, h.p2, h.fr, h.rl, h.hi⟩

theorem key_lit (i : Int) : WideAt.IsKeyLit (.int .i64 i) := by first | exact trivial | (unfold WideAt.IsKeyLit; simp) | constructor

theorem key_ne {i j : Int} (h : i ≠ j) : (Lit.int .i64 i) ≠ (Lit.int .i64 j) := fun e => h (by cases e; rfl)

theorem FA.took {s s1 : PS} {D : DataW Unit} (h : FA s D) {k : Nat} (t : Took s k s1) (x : Int) : FA (s1.fill k s1.page x) (D.put (.int .i64 (k : Int)) (.lit (.int .u64 x))) where
  ok := PS.fill_ok t.ok _ _ _
  al_lt := fun j hj => by
    show j < s1.fresh
    have hj' : s1.al j = true := hj
    rw [t.al] at hj'
    by_cases e : j = k
    · subst e; exact t.kf
    · simp only [if_neg e] at hj'
      have := h.al_lt j hj'; have := t.fr; omega
  rel_al := fun j hj => by
    obtain ⟨a, b⟩ := t.rel j hj
    obtain ⟨c, d⟩ := h.rel_al j a
    refine ⟨?_, ?_⟩
    · show s1.al j = false
      rw [t.al]; simp only [if_neg b]; exact c
    · show j < s1.fresh
      have := t.fr; omega
  nd := t.nd
  tidy := h.tidy.put (key_lit _) _
  has := fun i => by
    show _ ↔ ∃ j : Nat, i = (j : Int) ∧ s1.al j = true
    rw [t.al]
    by_cases e : i = (k : Int)
    · subst e
      rw [has_put_same h.tidy.isMap (key_lit _)]
      exact ⟨fun _ => ⟨k, rfl, by simp⟩, fun _ => rfl⟩
    · rw [has_put_other (key_ne e), h.has i]
      constructor
      · rintro ⟨j, rfl, hj⟩
        exact ⟨j, rfl, by show (if j = k then true else s.al j) = true; rw [if_neg (by omega)]; exact hj⟩
      · rintro ⟨j, rfl, hj⟩
        have hj' : (if j = k then true else s.al j) = true := hj
        exact ⟨j, rfl, by rw [if_neg (by omega)] at hj'; exact hj'⟩
  at_ := fun j z hj => by
    have hj' : s1.al j = true := hj
    show ∃ y : Int, _ ∧ ∀ q, q < s1.page → (if k * s1.page ≤ j * s1.page + q ∧ j * s1.page + q < k * s1.page + s1.page then x else s1.ws (j * s1.page + q)) = y
    rw [t.al] at hj'
    by_cases e : j = k
    · subst e
      exact ⟨x, atKey_put_same h.tidy.isMap (key_lit _) _ _, fun q hq => by rw [if_pos (by omega)]⟩
    · simp only [if_neg e] at hj'
      obtain ⟨y, h1, h2⟩ := h.at_ j z hj'
      refine ⟨y, ?_, fun q hq => ?_⟩
      · rw [atKey_put_other (key_ne (by omega))]; exact h1
      · have ap := page_apart k j s1.page q (fun e2 => e e2.symm) hq
        rw [if_neg ap, t.ws]
        rw [t.page] at ap hq ⊢
        simp only [if_neg ap]
        exact h2 q hq
  size := by
    rw [size_put h.tidy, if_neg (by rw [h.hasF k t.was]; simp), h.size]
    exact t.used.symm

theorem FA.give {s : PS} {D : DataW Unit} (h : FA s D) {k : Nat} (hk : s.al k = true) : FA (s.give k) (D.del (.int .i64 (k : Int))) := by
  have kn : k ∉ s.rel := fun hm => by have := (h.rel_al k hm).1; rw [hk] at this; cases this
  have hlen : s.rel.length + 1 ≤ s.fresh := by
    have := nodup_lt s.fresh (k :: s.rel) (List.nodup_cons.2 ⟨kn, h.nd⟩) (fun x hx => by
      rcases List.mem_cons.1 hx with rfl | hx
      · exact h.al_lt _ hk
      · exact (h.rel_al x hx).2)
    simpa using this
  refine ⟨⟨h.ok.r1, h.ok.r2, h.ok.p1, h.ok.p2, h.ok.fr, ?_, h.ok.hi⟩, ?_, ?_, ?_, h.tidy.del _, ?_, ?_, ?_⟩
  · show (s.rel ++ [k]).length ≤ s.fresh
    simpa using hlen
  · intro j hj
    have hj' : (if j = k then false else s.al j) = true := hj
    by_cases e : j = k
    · rw [if_pos e] at hj'; cases hj'
    · rw [if_neg e] at hj'; exact h.al_lt j hj'
  · intro j hj
    show (if j = k then false else s.al j) = false ∧ j < s.fresh
    rcases List.mem_append.1 (show j ∈ s.rel ++ [k] from hj) with g | g
    · obtain ⟨a, b⟩ := h.rel_al j g
      exact ⟨by split <;> simp [a], b⟩
    · have : j = k := by simpa using g
      subst this
      exact ⟨by simp, h.al_lt _ hk⟩
  · show (s.rel ++ [k]).Nodup
    rw [List.nodup_append]
    refine ⟨h.nd, by simp, ?_⟩
    intro a ha b hb e
    have : b = k := by simpa using hb
    subst this; subst e
    exact kn ha
  · intro i
    show _ ↔ ∃ j : Nat, i = (j : Int) ∧ (if j = k then false else s.al j) = true
    by_cases e : i = (k : Int)
    · subst e
      rw [has_del_same]
      constructor
      · intro h; cases h
      · rintro ⟨j, e1, e2⟩
        have : j = k := by omega
        rw [if_pos this] at e2; cases e2
    · rw [has_del_other (key_ne e), h.has i]
      constructor
      · rintro ⟨j, rfl, hj⟩
        exact ⟨j, rfl, by rw [if_neg (by omega)]; exact hj⟩
      · rintro ⟨j, rfl, hj⟩
        exact ⟨j, rfl, by rw [if_neg (by omega)] at hj; exact hj⟩
  · intro j z hj
    have hj' : (if j = k then false else s.al j) = true := hj
    by_cases e : j = k
    · rw [if_pos e] at hj'; cases hj'
    · rw [if_neg e] at hj'
      obtain ⟨x, h1, h2⟩ := h.at_ j z hj'
      exact ⟨x, by rw [atKey_del_other (key_ne (by omega))]; exact h1, h2⟩
  · have := size_del (k := (.int .i64 (k : Int))) h.tidy
    rw [if_pos ((h.has k).2 ⟨k, rfl, hk⟩), h.size] at this
    show Maps.size _ = s.fresh - (s.rel ++ [k]).length
    rw [List.length_append, List.length_singleton]
    omega

theorem FA.take {s : PS} {D : DataW Unit} (h : FA s D) (p : Nat) :
    Ask Try.prog 11 #[.pointer (some ⟨p, 0, none⟩)] (poolA p s) (.tuple #[.int .i64 0, .int .i64 14]) ∨
    ∃ k s1, Took s k s1 ∧ Tri1 Try.prog 11 #[.pointer (some ⟨p, 0, none⟩)] (poolA p s) (.tuple #[.int .i64 (k : Nat), .int .i64 0]) (poolA p s1) := by
  rcases List.eq_nil_or_concat s.rel with e | ⟨ys, z, e⟩
  · by_cases hf : s.fresh < s.room
    · refine .inr ⟨s.fresh, _, ?_, fm_take_fresh h.ok e hf⟩
      refine ⟨⟨h.ok.r1, h.ok.r2, h.ok.p1, h.ok.p2, hf, Nat.zero_le _, ?_⟩, rfl, rfl, hf, Nat.lt_succ_self _, Nat.le_succ _, ?_, rfl, rfl, ?_, fun m hm => (by cases hm), List.nodup_nil⟩
      · show max s.high (s.fresh + 1) ≤ s.room
        have := h.ok.hi; omega
      · cases e2 : s.al s.fresh with
        | false => rfl
        | true => exact absurd (h.al_lt _ e2) (by omega)
      · show s.fresh + 1 - 0 = _
        rw [e]; simp
    · have := h.ok.fr
      exact .inl (fm_take_full h.ok e (by omega))
  · rw [List.concat_eq_append] at e
    have hz := h.rel_al z (by rw [e]; simp)
    have hl := h.ok.rl
    rw [e, List.length_append, List.length_singleton] at hl
    have hnd := h.nd
    rw [e, List.nodup_append] at hnd
    have hfr := h.ok.fr
    refine .inr ⟨z, _, ?_, fm_take_rel h.ok e (by omega)⟩
    refine ⟨⟨h.ok.r1, h.ok.r2, h.ok.p1, h.ok.p2, h.ok.fr, ?_, ?_⟩, rfl, rfl, by omega, hz.2, Nat.le_refl _, hz.1, rfl, rfl, ?_, ?_, hnd.1⟩
    · show ys.length ≤ s.fresh
      omega
    · show max s.high (s.fresh - ys.length) ≤ s.room
      have := h.ok.hi; omega
    · show s.fresh - ys.length = s.fresh - s.rel.length + 1
      rw [e, List.length_append, List.length_singleton]; omega
    · intro m hm
      refine ⟨by rw [e]; exact List.mem_append_left _ hm, fun e2 => ?_⟩
      subst e2
      exact hnd.2.2 _ hm _ (by simp) rfl

end Go.Proofs.Ytpdnbkibnpkfbad
