/- A paged memory (layer 9): plain numbers. -/
import Derived.Test.YtflkbefiopnigabDoorFmI
import Derived.Test.YtflkbefiopnigabDoorPgX
namespace Go.Proofs.YtflkbefiopnigabDoor.VM
open Go.ChangeShapes Go.WideShapes Go.ChangeAt Go.RowKit
open PT (QS upd pmA newQ)

/-- a memory, as plain numbers: which pages are mapped, the words of each page -/
structure MV where
  words : Nat
  page : Nat
  room : Nat
  mp : Nat → Bool
  val : Nat → Nat → Int
  used : Nat
  high : Nat

def MV.pages (m : MV) : Nat := m.words / m.page

structure MV.ok (m : MV) : Prop where
  w1 : 1 ≤ m.words
  w2 : m.words ≤ 524288
  pg : powP m.page
  dv : m.pages * m.page = m.words
  r1 : 1 ≤ m.room
  r2 : m.room ≤ 4096
  ur : m.used ≤ m.room
  uh : m.used ≤ m.high
  hr : m.high ≤ m.room
  mb : ∀ p, m.mp p = true → p < m.pages

theorem MV.ok.p1 {m : MV} (h : m.ok) : 1 ≤ m.page := (powP_le h.pg).1
theorem MV.ok.p2 {m : MV} (h : m.ok) : m.page ≤ 256 := (powP_le h.pg).2
theorem MV.ok.n1 {m : MV} (h : m.ok) : 1 ≤ m.pages := by
  rcases Nat.eq_zero_or_pos m.pages with e | e
  · have h1 := h.dv; have h2 := h.w1; rw [e] at h1; omega
  · exact e
theorem MV.ok.n2 {m : MV} (h : m.ok) : m.pages ≤ 524288 := Nat.le_trans (Nat.div_le_self _ _) h.w2

def MV.map (m : MV) (p : Nat) : MV := { m with mp := fun x => if x = p then true else m.mp x, val := fun x => if x = p then fun _ => 0 else m.val x, used := m.used + 1, high := max m.high (m.used + 1) }
def MV.unmap (m : MV) (p : Nat) : MV := { m with mp := fun x => if x = p then false else m.mp x, used := m.used - 1 }
def MV.move (m : MV) (p r : Nat) : MV := { m with mp := fun x => if x = r then true else if x = p then false else m.mp x, val := fun x => if x = r then m.val p else m.val x }
def MV.put (m : MV) (p j : Nat) (u : Int) : MV := { m with val := fun x => if x = p then fun i => if i = j then u else m.val p i else m.val x }

theorem MV.ok.map {m : MV} (h : m.ok) (p : Nat) (hp : p < m.pages) (hu : m.used < m.room) : (m.map p).ok where
  w1 := h.w1
  w2 := h.w2
  pg := h.pg
  dv := h.dv
  r1 := h.r1
  r2 := h.r2
  ur := hu
  uh := by show m.used + 1 ≤ max m.high (m.used + 1); omega
  hr := by show max m.high (m.used + 1) ≤ m.room; have := h.hr; omega
  mb := fun x hx => by
    have hx' : (if x = p then true else m.mp x) = true := hx
    show x < m.pages
    by_cases e : x = p
    · rw [e]; exact hp
    · rw [if_neg e] at hx'; exact h.mb x hx'

theorem MV.ok.unmap {m : MV} (h : m.ok) (p : Nat) : (m.unmap p).ok where
  w1 := h.w1
  w2 := h.w2
  pg := h.pg
  dv := h.dv
  r1 := h.r1
  r2 := h.r2
  ur := by show m.used - 1 ≤ m.room; have := h.ur; omega
  uh := by show m.used - 1 ≤ m.high; have := h.uh; omega
  hr := h.hr
  mb := fun x hx => by
    have hx' : (if x = p then false else m.mp x) = true := hx
    by_cases e : x = p
    · rw [if_pos e] at hx'; cases hx'
    · rw [if_neg e] at hx'; exact h.mb x hx'

theorem MV.ok.move {m : MV} (h : m.ok) (p r : Nat) (hr : r < m.pages) : (m.move p r).ok where
  w1 := h.w1
  w2 := h.w2
  pg := h.pg
  dv := h.dv
  r1 := h.r1
  r2 := h.r2
  ur := h.ur
  uh := h.uh
  hr := h.hr
  mb := fun x hx => by
    have hx' : (if x = r then true else if x = p then false else m.mp x) = true := hx
    show x < m.pages
    by_cases e : x = r
    · rw [e]; exact hr
    · rw [if_neg e] at hx'
      by_cases e2 : x = p
      · rw [if_pos e2] at hx'; cases hx'
      · rw [if_neg e2] at hx'; exact h.mb x hx'

theorem MV.ok.put {m : MV} (h : m.ok) (p j : Nat) (u : Int) : (m.put p j u).ok := ⟨h.w1, h.w2, h.pg, h.dv, h.r1, h.r2, h.ur, h.uh, h.hr, h.mb⟩

/-- the pool s and the table q hold the memory m -/
structure VI (m : MV) (s : PS) (q : QS) : Prop where
  pi : PI s
  qo : q.ok
  pages : q.pages = m.pages
  room : s.room = m.room
  page : s.page = m.page
  used : s.fresh - s.rel.length = m.used
  high : s.high = m.high
  tot : q.tot = m.used
  mp : ∀ p, m.mp p = (q.fr p != 0)
  al : ∀ p, q.fr p ≠ 0 → s.al (q.fr p - 1) = true
  inj : ∀ p p', q.fr p ≠ 0 → q.fr p = q.fr p' → p = p'
  val : ∀ p j, q.fr p ≠ 0 → j < m.page → s.ws ((q.fr p - 1) * m.page + j) = m.val p j

theorem VI.z {m : MV} {s : PS} {q : QS} (h : VI m s q) {p : Nat} (hz : m.mp p = false) : q.fr p = 0 := by
  have := h.mp p
  rw [hz] at this
  simpa using this.symm

theorem VI.nz {m : MV} {s : PS} {q : QS} (h : VI m s q) {p : Nat} (hz : m.mp p = true) : q.fr p ≠ 0 := by
  have := h.mp p
  rw [hz] at this
  simpa using this.symm

theorem VI.map {m : MV} {s : PS} {q : QS} (h : VI m s q) (hm : m.ok) {k : Nat} {s1 : PS} (t : Took2 s k s1) (p : Nat) : VI (m.map p) s1 (q.put p (k + 1) 1) where
  pi := t.pi
  qo := by
    have := t.kr; have := h.pi.ok.r2; have := h.tot; have := hm.ur; have := hm.r2
    exact PT.QS.put_ok h.qo p (k + 1) 1 (by omega) (by omega) (by omega)
  pages := h.pages
  room := t.room.trans h.room
  page := t.page.trans h.page
  used := by rw [t.used, h.used]; rfl
  high := by rw [t.high, h.used, h.high]; rfl
  tot := by
    show q.tot + 1 = ((m.used + 1 : Nat) : Int)
    rw [h.tot]; omega
  mp := fun x => by
    show (if x = p then true else m.mp x) = (upd q.fr p (k + 1) x != 0)
    unfold upd
    by_cases e : x = p
    · rw [if_pos e, if_pos e]; rfl
    · rw [if_neg e, if_neg e]; exact h.mp x
  al := fun x hx => by
    have hx' : upd q.fr p (k + 1) x ≠ 0 := hx
    show s1.al (upd q.fr p (k + 1) x - 1) = true
    rw [t.al]
    unfold upd at hx' ⊢
    by_cases e : x = p
    · rw [if_pos e]; simp
    · rw [if_neg e] at hx' ⊢
      have := h.al x hx'
      show (if q.fr x - 1 = k then true else s.al (q.fr x - 1)) = true
      split
      · rfl
      · exact this
  inj := fun x y hx hxy => by
    have hx' : upd q.fr p (k + 1) x ≠ 0 := hx
    have hxy' : upd q.fr p (k + 1) x = upd q.fr p (k + 1) y := hxy
    have no : ∀ z, q.fr z ≠ k + 1 := fun z hz => by
      have := h.al z (by omega)
      rw [show q.fr z - 1 = k by omega, t.was] at this; cases this
    unfold upd at hx' hxy'
    by_cases e : x = p
    · by_cases e2 : y = p
      · rw [e, e2]
      · rw [if_pos e, if_neg e2] at hxy'
        exact absurd hxy'.symm (no y)
    · rw [if_neg e] at hx' hxy'
      by_cases e2 : y = p
      · rw [if_pos e2] at hxy'
        exact absurd hxy' (no x)
      · rw [if_neg e2] at hxy'
        exact h.inj x y hx' hxy'
  val := fun x j hx hj => by
    have hx' : upd q.fr p (k + 1) x ≠ 0 := hx
    have hj' : j < m.page := hj
    show s1.ws ((upd q.fr p (k + 1) x - 1) * m.page + j) = (if x = p then fun _ => (0 : Int) else m.val x) j
    rw [t.ws]
    have hpg := h.page
    unfold upd at hx' ⊢
    by_cases e : x = p
    · rw [if_pos e, if_pos e, hpg, Nat.add_sub_cancel]
      show (if k * m.page ≤ k * m.page + j ∧ k * m.page + j < k * m.page + m.page then (0 : Int) else _) = 0
      rw [if_pos (by omega)]
    · rw [if_neg e] at hx' ⊢
      rw [if_neg e, hpg]
      have ne : k ≠ q.fr x - 1 := fun e2 => by
        have := h.al x hx'
        rw [← e2, t.was] at this; cases this
      show (if k * m.page ≤ (q.fr x - 1) * m.page + j ∧ (q.fr x - 1) * m.page + j < k * m.page + m.page then (0 : Int) else s.ws ((q.fr x - 1) * m.page + j)) = m.val x j
      rw [if_neg (page_apart k (q.fr x - 1) m.page j ne hj')]
      exact h.val x j hx' hj'

theorem VI.unmap {m : MV} {s : PS} {q : QS} (h : VI m s q) (hm : m.ok) (p : Nat) (hz : m.mp p = true) : VI (m.unmap p) (s.give (q.fr p - 1)) (q.put p 0 (-1)) where
  pi := (h.pi.give (h.al p (h.nz hz))).1
  qo := by
    have := h.tot; have := hm.ur; have := hm.r2
    exact PT.QS.put_ok h.qo p 0 (-1) (by omega) (by omega) (by omega)
  pages := h.pages
  room := h.room
  page := h.page
  used := by
    have := (h.pi.give (h.al p (h.nz hz))).2
    show s.fresh - (s.rel ++ [q.fr p - 1]).length = m.used - 1
    have := h.used
    rw [List.length_append, List.length_singleton]; omega
  high := h.high
  tot := by
    have := (h.pi.give (h.al p (h.nz hz))).2
    have := h.used
    show q.tot + -1 = ((m.used - 1 : Nat) : Int)
    rw [h.tot]; omega
  mp := fun x => by
    show (if x = p then false else m.mp x) = (upd q.fr p 0 x != 0)
    unfold upd
    by_cases e : x = p
    · rw [if_pos e, if_pos e]; rfl
    · rw [if_neg e, if_neg e]; exact h.mp x
  al := fun x hx => by
    have hx' : upd q.fr p 0 x ≠ 0 := hx
    show (if upd q.fr p 0 x - 1 = q.fr p - 1 then false else s.al (upd q.fr p 0 x - 1)) = true
    unfold upd at hx' ⊢
    by_cases e : x = p
    · rw [if_pos e] at hx'; exact absurd rfl hx'
    · rw [if_neg e] at hx' ⊢
      have := h.nz hz
      rw [if_neg (fun e2 => e (h.inj x p hx' (by omega)))]
      exact h.al x hx'
  inj := fun x y hx hxy => by
    have hx' : upd q.fr p 0 x ≠ 0 := hx
    have hxy' : upd q.fr p 0 x = upd q.fr p 0 y := hxy
    unfold upd at hx' hxy'
    by_cases e : x = p
    · rw [if_pos e] at hx'; exact absurd rfl hx'
    · rw [if_neg e] at hx' hxy'
      by_cases e2 : y = p
      · rw [if_pos e2] at hxy'; exact absurd hxy' hx'
      · rw [if_neg e2] at hxy'; exact h.inj x y hx' hxy'
  val := fun x j hx hj => by
    have hx' : upd q.fr p 0 x ≠ 0 := hx
    show s.ws ((upd q.fr p 0 x - 1) * m.page + j) = m.val x j
    unfold upd at hx' ⊢
    by_cases e : x = p
    · rw [if_pos e] at hx'; exact absurd rfl hx'
    · rw [if_neg e] at hx' ⊢
      exact h.val x j hx' hj

theorem VI.move {m : MV} {s : PS} {q : QS} (h : VI m s q) (p r : Nat) (hz : m.mp p = true) (hr : m.mp r = false) : VI (m.move p r) s ((q.put p 0 (-1)).put r (q.fr p) 1) := by
  have hp0 := h.nz hz
  have hr0 := h.z hr
  have hpr : r ≠ p := fun e => by rw [e, hz] at hr; cases hr
  have F : ∀ x, ((q.put p 0 (-1)).put r (q.fr p) 1).fr x = if x = r then q.fr p else if x = p then 0 else q.fr x := fun x => rfl
  refine ⟨h.pi, ?_, h.pages, h.room, h.page, h.used, h.high, ?_, ?_, ?_, ?_, ?_⟩
  · have := h.qo
    exact ⟨this.p1, this.p2, by show -1000000 ≤ q.tot + -1 + 1; have := this.t1; omega, by show q.tot + -1 + 1 ≤ 1000000; have := this.t2; omega, fun x => by
      rw [F]; split
      · exact this.fb _
      · split
        · omega
        · exact this.fb _⟩
  · show q.tot + -1 + 1 = (m.used : Int)
    rw [h.tot]; omega
  · intro x
    rw [F]
    show (if x = r then true else if x = p then false else m.mp x) = _
    by_cases e : x = r
    · rw [if_pos e, if_pos e]; simpa using hp0
    · rw [if_neg e, if_neg e]
      by_cases e2 : x = p
      · rw [if_pos e2, if_pos e2]; rfl
      · rw [if_neg e2, if_neg e2]; exact h.mp x
  · intro x hx
    rw [F] at hx ⊢
    by_cases e : x = r
    · rw [if_pos e]; exact h.al p hp0
    · rw [if_neg e] at hx ⊢
      by_cases e2 : x = p
      · rw [if_pos e2] at hx; exact absurd rfl hx
      · rw [if_neg e2] at hx ⊢; exact h.al x hx
  · intro x y hx hxy
    rw [F] at hx
    rw [F, F] at hxy
    by_cases e : x = r
    · by_cases e3 : y = r
      · rw [e, e3]
      · rw [if_pos e, if_neg e3] at hxy
        by_cases e4 : y = p
        · rw [if_pos e4] at hxy; exact absurd hxy hp0
        · rw [if_neg e4] at hxy
          exact absurd (h.inj p y hp0 hxy).symm e4
    · rw [if_neg e] at hx hxy
      by_cases e2 : x = p
      · rw [if_pos e2] at hx; exact absurd rfl hx
      · rw [if_neg e2] at hx hxy
        by_cases e3 : y = r
        · rw [if_pos e3] at hxy
          exact absurd (h.inj x p hx hxy) e2
        · rw [if_neg e3] at hxy
          by_cases e4 : y = p
          · rw [if_pos e4] at hxy; exact absurd hxy hx
          · rw [if_neg e4] at hxy
            exact h.inj x y hx hxy
  · intro x j hx hj
    rw [F] at hx ⊢
    show s.ws _ = (if x = r then m.val p else m.val x) j
    by_cases e : x = r
    · rw [if_pos e, if_pos e]; exact h.val p j hp0 hj
    · rw [if_neg e] at hx ⊢
      rw [if_neg e]
      by_cases e2 : x = p
      · rw [if_pos e2] at hx; exact absurd rfl hx
      · rw [if_neg e2] at hx ⊢; exact h.val x j hx hj

theorem VI.put {m : MV} {s : PS} {q : QS} (h : VI m s q) (p j : Nat) (u : Int) (hz : m.mp p = true) (hj : j < m.page) : VI (m.put p j u) (s.store (q.fr p - 1) j u) q := by
  refine ⟨h.pi.store _ _ _, h.qo, h.pages, h.room, h.page, h.used, h.high, h.tot, h.mp, h.al, h.inj, ?_⟩
  intro x i hx hi
  have hi' : i < m.page := hi
  show (if (q.fr x - 1) * m.page + i = (q.fr p - 1) * s.page + j then u else s.ws ((q.fr x - 1) * m.page + i)) = (if x = p then fun i => if i = j then u else m.val p i else m.val x) i
  rw [h.page]
  by_cases e : x = p
  · subst e
    rw [if_pos rfl]
    show _ = if i = j then u else m.val x i
    by_cases e2 : i = j
    · rw [if_pos e2, if_pos (by rw [e2])]
    · rw [if_neg e2, if_neg (by omega)]; exact h.val x i hx hi'
  · rw [if_neg e]
    have ne : q.fr p - 1 ≠ q.fr x - 1 := fun e2 => by
      have := h.nz hz
      exact e (h.inj x p hx (by omega))
    have := page_apart (q.fr p - 1) (q.fr x - 1) m.page i ne hi'
    rw [if_neg (fun e2 => this (by omega))]
    exact h.val x i hx hi'

/-- words of pages that are not mapped don't matter -/
theorem VI.eqv {m : MV} {s : PS} {q : QS} (h : VI m s q) (v : Nat → Nat → Int) (hv : ∀ p j, m.mp p = true → j < m.page → v p j = m.val p j) : VI { m with val := v } s q :=
  ⟨h.pi, h.qo, h.pages, h.room, h.page, h.used, h.high, h.tot, h.mp, h.al, h.inj, fun p j hp hj => by
    rw [show ({ m with val := v } : MV).val p j = v p j from rfl, hv p j (by rw [h.mp]; simpa using hp) hj]
    exact h.val p j hp hj⟩

theorem VI.new (words page room : Nat) (h1 : 1 ≤ room) (h2 : room ≤ 4096) (hp : powP page) (w2 : words ≤ 524288) (n1 : 1 ≤ words / page) :
    VI { words, page, room, mp := fun _ => false, val := fun _ _ => 0, used := 0, high := 0 } (newP room page) (newQ (words / page)) where
  pi := PI.new room page h1 h2 hp
  qo := PT.newQ_ok _ n1 (Nat.le_trans (Nat.div_le_self _ _) w2)
  pages := rfl
  room := rfl
  page := rfl
  used := rfl
  high := rfl
  tot := rfl
  mp := fun _ => rfl
  al := fun p h => absurd rfl h
  inj := fun p _ h => absurd rfl h
  val := fun p _ h => absurd rfl h

end Go.Proofs.YtflkbefiopnigabDoor.VM
