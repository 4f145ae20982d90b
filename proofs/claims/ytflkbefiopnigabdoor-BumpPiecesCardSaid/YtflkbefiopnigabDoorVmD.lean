/- A paged memory (layer 9): what Need maps, and what it undoes, in plain numbers. -/
import Derived.Test.YtflkbefiopnigabDoorVmC
namespace Go.Proofs.YtflkbefiopnigabDoor.VM
open Go.ChangeShapes Go.WideShapes Go.ChangeAt Go.RowKit
open PT (QS upd pmA newQ)

/-- the first i pages from f on are mapped -/
def needM (m : MV) (f : Nat) : Nat → MV
  | 0 => m
  | i + 1 => if (needM m f i).mp (f + i) = true then needM m f i else (needM m f i).map (f + i)

/-- those of them that were not -/
def needL (m : MV) (f : Nat) : Nat → List Nat
  | 0 => []
  | i + 1 => if (needM m f i).mp (f + i) = true then needL m f i else needL m f i ++ [f + i]

structure Need (m m' : MV) (f i : Nat) (l : List Nat) : Prop where
  words : m'.words = m.words
  page : m'.page = m.page
  room : m'.room = m.room
  mp : ∀ x, m'.mp x = true ↔ m.mp x = true ∨ x ∈ l
  nd : l.Nodup
  new : ∀ x ∈ l, m.mp x = false ∧ f ≤ x ∧ x < f + i
  all : ∀ x, f ≤ x → x < f + i → m'.mp x = true
  used : m'.used = m.used + l.length
  val : ∀ x, x ∉ l → m'.val x = m.val x
  zero : ∀ x ∈ l, m'.val x = fun _ => 0

theorem need_is (m : MV) (f : Nat) : ∀ i, Need m (needM m f i) f i (needL m f i)
  | 0 => ⟨rfl, rfl, rfl, fun x => (by show m.mp x = true ↔ m.mp x = true ∨ x ∈ []; simp), List.nodup_nil, fun x h => (by cases h), fun x h1 h2 => (by omega), rfl, fun _ _ => rfl, fun x h => (by cases h)⟩
  | i + 1 => by
    have ih := need_is m f i
    unfold needM needL
    by_cases e : (needM m f i).mp (f + i) = true
    · rw [if_pos e, if_pos e]
      refine ⟨ih.words, ih.page, ih.room, ih.mp, ih.nd, fun x hx => ?_, fun x h1 h2 => ?_, ih.used, ih.val, ih.zero⟩
      · obtain ⟨a, b, c⟩ := ih.new x hx
        exact ⟨a, b, by omega⟩
      · by_cases e2 : x = f + i
        · rw [e2]; exact e
        · exact ih.all x h1 (by omega)
    · rw [if_neg e, if_neg e]
      have hz : m.mp (f + i) = false := by
        cases h : m.mp (f + i) with
        | false => rfl
        | true => exact absurd ((ih.mp _).2 (.inl h)) e
      have hn : f + i ∉ needL m f i := fun h => e ((ih.mp _).2 (.inr h))
      refine ⟨ih.words, ih.page, ih.room, fun x => ?_, ?_, fun x hx => ?_, fun x h1 h2 => ?_, ?_, fun x hx => ?_, fun x hx => ?_⟩
      · show (if x = f + i then true else (needM m f i).mp x) = true ↔ _
        rw [List.mem_append, List.mem_singleton]
        by_cases e2 : x = f + i
        · rw [if_pos e2]; simp [e2]
        · rw [if_neg e2, ih.mp]; simp [e2]
      · rw [List.nodup_append]
        exact ⟨ih.nd, by simp, fun a ha b hb e2 => by
          have : b = f + i := by simpa using hb
          rw [e2, this] at ha; exact hn ha⟩
      · rcases List.mem_append.1 hx with h | h
        · obtain ⟨a, b, c⟩ := ih.new x h
          exact ⟨a, b, by omega⟩
        · have : x = f + i := by simpa using h
          rw [this]; exact ⟨hz, by omega, by omega⟩
      · show (if x = f + i then true else (needM m f i).mp x) = true
        by_cases e2 : x = f + i
        · rw [if_pos e2]
        · rw [if_neg e2]; exact ih.all x h1 (by omega)
      · show (needM m f i).used + 1 = _
        rw [ih.used, List.length_append, List.length_singleton]; omega
      · show (if x = f + i then fun _ => 0 else (needM m f i).val x) = _
        rw [if_neg (fun e2 => hx (by rw [e2]; simp))]
        exact ih.val x (fun h => hx (List.mem_append_left _ h))
      · show (if x = f + i then fun _ => 0 else (needM m f i).val x) = _
        by_cases e2 : x = f + i
        · rw [if_pos e2]
        · rw [if_neg e2]
          rcases List.mem_append.1 hx with h | h
          · exact ih.zero x h
          · exact absurd (by simpa using h) e2

theorem needM_ok {m : MV} (hm : m.ok) (f : Nat) : ∀ i, f + i ≤ m.pages → (∀ j, j < i → (needM m f j).mp (f + j) = true ∨ (needM m f j).used < m.room) → (needM m f i).ok
  | 0, _, _ => hm
  | i + 1, h, hf => by
    have ih := needM_ok hm f i (by omega) (fun j hj => hf j (by omega))
    unfold needM
    by_cases e : (needM m f i).mp (f + i) = true
    · rw [if_pos e]; exact ih
    · rw [if_neg e]
      have N := need_is m f i
      refine ih.map (f + i) ?_ ?_
      · show f + i < (needM m f i).words / (needM m f i).page
        rw [N.words, N.page]
        exact h
      · rw [N.room]
        rcases hf i (by omega) with g | g
        · exact absurd g e
        · exact g

/-- the last k of these pages are unmapped again -/
def undoM (m : MV) (l : List Nat) : Nat → MV
  | 0 => m
  | k + 1 => (undoM m l k).unmap (l.getD (l.length - 1 - k) 0)

structure Undo (m m' : MV) (l : List Nat) (k : Nat) : Prop where
  words : m'.words = m.words
  page : m'.page = m.page
  room : m'.room = m.room
  mp : ∀ x, m'.mp x = true ↔ m.mp x = true ∧ x ∉ l.drop (l.length - k)
  used : m'.used = m.used - k
  high : m'.high = m.high
  val : m'.val = m.val

theorem undo_is (m : MV) (l : List Nat) : ∀ k, k ≤ l.length → Undo m (undoM m l k) l k
  | 0, _ => ⟨rfl, rfl, rfl, fun x => by simp [undoM], rfl, rfl, rfl⟩
  | k + 1, h => by
    have ih := undo_is m l k (by omega)
    unfold undoM
    have hd : l.drop (l.length - (k + 1)) = l.getD (l.length - 1 - k) 0 :: l.drop (l.length - k) := by
      have e1 : l.length - (k + 1) = l.length - 1 - k := by omega
      have e2 : l.length - 1 - k < l.length := by omega
      rw [e1, List.drop_eq_getElem_cons e2]
      have e3 : l.getD (l.length - 1 - k) 0 = l[l.length - 1 - k] := by simp [List.getD_eq_getElem?_getD, e2]
      rw [e3, show l.length - 1 - k + 1 = l.length - k by omega]
    refine ⟨ih.words, ih.page, ih.room, fun x => ?_, ?_, ih.high, ih.val⟩
    · show (if x = l.getD (l.length - 1 - k) 0 then false else (undoM m l k).mp x) = true ↔ _
      rw [hd, List.mem_cons]
      by_cases e : x = l.getD (l.length - 1 - k) 0
      · rw [if_pos e]; simp [e]
      · rw [if_neg e, ih.mp]
        exact ⟨fun ⟨a, b⟩ => ⟨a, fun c => c.elim e b⟩, fun ⟨a, b⟩ => ⟨a, fun c => b (.inr c)⟩⟩
    · show (undoM m l k).used - 1 = _
      rw [ih.used]; omega

theorem undoM_ok {m : MV} (hm : m.ok) (l : List Nat) : ∀ k, (undoM m l k).ok
  | 0 => hm
  | k + 1 => (undoM_ok hm l k).unmap _

/-- the page that is unmapped next is mapped -/
theorem undo_next {m : MV} {l : List Nat} (nd : l.Nodup) (hl : ∀ x ∈ l, m.mp x = true) (k : Nat) (h : k < l.length) : (undoM m l k).mp (l.getD (l.length - 1 - k) 0) = true := by
  rw [(undo_is m l k (by omega)).mp]
  have e2 : l.length - 1 - k < l.length := by omega
  have e3 : l.getD (l.length - 1 - k) 0 = l[l.length - 1 - k] := by simp [List.getD_eq_getElem?_getD, e2]
  rw [e3]
  refine ⟨hl _ (List.getElem_mem e2), fun hm => ?_⟩
  obtain ⟨i, hi, e⟩ := List.mem_iff_getElem.1 hm
  rw [List.getElem_drop] at e
  have hi' : l.length - k + i < l.length := by rw [List.length_drop] at hi; omega
  exact (List.pairwise_iff_getElem.1 nd) (l.length - 1 - k) (l.length - k + i) e2 hi' (by omega) e.symm

/-- words of pages that are not mapped don't matter -/
theorem memA_eqv {w0 w : World} {S : Nat → Prop} {p : Nat} {m m' : MV} (h : At (memA p m) w0 S w) (h1 : m'.words = m.words) (h2 : m'.page = m.page) (h3 : m'.room = m.room) (h4 : ∀ x, m'.mp x = m.mp x) (h5 : m'.used = m.used) (h6 : m'.high = m.high)
    (h7 : ∀ x, m.mp x = true → m'.val x = m.val x) : At (memA p m') w0 S w := by
  obtain ⟨sh, c, t, s, q, v, e1, e2, hX⟩ := memA_open h
  have vv : VI m' s q := ⟨v.pi, v.qo, by rw [v.pages]; show m.words / m.page = m'.words / m'.page; rw [h1, h2], by rw [v.room, h3], by rw [v.page, h2], by rw [v.used, h5], by rw [v.high, h6], by rw [v.tot, h5], fun p => by rw [h4]; exact v.mp p, v.al, v.inj, fun p j hp hj => by
    have hmp : m.mp p = true := by rw [v.mp]; simpa using hp
    rw [h2] at hj ⊢
    rw [h7 p hmp]
    exact v.val p j hp hj⟩
  refine memA_shut (c := c) (t := t) vv (h2.trans e1) e2 (hX.re ?_)
  unfold mX mH
  rw [h1, h2]

/-- all is undone -/
theorem undo_all {w0 w : World} {S : Nat → Prop} {p f i : Nat} {m : MV} (hm : m.ok) (hr : (needM m f i).ok) (hu : (needM m f i).used = m.room) (h : At (memA p (undoM (needM m f i) (needL m f i) (needL m f i).length)) w0 S w) : At (memA p { m with high := m.room }) w0 S w := by
  have N := need_is m f i
  have U := undo_is (needM m f i) (needL m f i) (needL m f i).length (Nat.le_refl _)
  have hh : (needM m f i).high = m.room := by
    have a := hr.uh
    have b := hr.hr
    rw [N.room] at b
    omega
  refine memA_eqv h ?_ ?_ ?_ (fun x => ?_) ?_ ?_ (fun x hx => ?_)
  · rw [U.words, N.words]
  · rw [U.page, N.page]
  · rw [U.room, N.room]
  · rw [Bool.eq_iff_iff, U.mp, N.mp, Nat.sub_self, List.drop_zero]
    show m.mp x = true ↔ _
    constructor
    · intro hx
      refine ⟨.inl hx, fun hl => ?_⟩
      rw [(N.new x hl).1] at hx; cases hx
    · rintro ⟨a | a, b⟩
      · exact a
      · exact absurd a b
  · show m.used = _
    rw [U.used, N.used]; omega
  · show m.room = _
    rw [U.high, hh]
  · show m.val x = _
    rw [U.mp, Nat.sub_self, List.drop_zero] at hx
    rw [U.val, N.val x hx.2]

end Go.Proofs.YtflkbefiopnigabDoor.VM
