/- A paged memory (layer 9): a page keeps its words, whatever happens to others. -/
import Derived.Test.YtflkbefiopnigabDoorVmH
namespace Go.Proofs.YtflkbefiopnigabDoor.VM
open Go.ChangeShapes Go.WideShapes Go.ChangeAt Go.RowKit
open PT (QS upd pmA newQ)

/-- page P is as it was -/
structure Kp (P : Nat) (m m' : MV) : Prop where
  ok : m'.ok
  words : m'.words = m.words
  page : m'.page = m.page
  room : m'.room = m.room
  mp : m'.mp P = m.mp P
  val : m'.val P = m.val P

theorem Kp.refl {P : Nat} {m : MV} (h : m.ok) : Kp P m m := ⟨h, rfl, rfl, rfl, rfl, rfl⟩

theorem kp_map {P : Nat} {m : MV} (hm : m.ok) (p : Nat) (hp : p < m.pages) (hne : p ≠ P) (c : Nat) : ∃ (e : Int) (m' : MV), Kp P m m' ∧ Tri1 Tryd.prog 13 #[.pointer (some ⟨c, 0, none⟩), .int .i64 p] (memA c m) (.int .i64 e) (memA c m') := by
  cases h : m.mp p with
  | true => exact ⟨13, m, .refl hm, (vm_map_mapped hm p h).tri⟩
  | false =>
    by_cases hu : m.used < m.room
    · exact ⟨0, _, ⟨hm.map p hp hu, rfl, rfl, rfl, by show (if P = p then true else m.mp P) = _; rw [if_neg (Ne.symm hne)], by show (if P = p then fun _ => 0 else m.val P) = _; rw [if_neg (Ne.symm hne)]⟩, vm_map_ok hm p hp h hu⟩
    · exact ⟨14, m, .refl hm, (vm_map_full p hp h (by have := hm.ur; omega)).tri⟩

theorem kp_unmap {P : Nat} {m : MV} (hm : m.ok) (p : Nat) (hp : p < m.pages) (hne : p ≠ P) (c : Nat) : ∃ (e : Int) (m' : MV), Kp P m m' ∧ Tri1 Tryd.prog 14 #[.pointer (some ⟨c, 0, none⟩), .int .i64 p] (memA c m) (.int .i64 e) (memA c m') := by
  cases h : m.mp p with
  | true => exact ⟨0, _, ⟨hm.unmap p, rfl, rfl, rfl, by show (if P = p then false else m.mp P) = _; rw [if_neg (Ne.symm hne)], rfl⟩, vm_unmap_ok hm p h⟩
  | false =>
    have := vm_unmap_bad (p := c) (m := m) (p : Int) (by rw [frE_un hp h]; omega)
    exact ⟨_, m, .refl hm, this.tri⟩

theorem kp_move {P : Nat} {m : MV} (hm : m.ok) (p q : Nat) (hq : q < m.pages) (hne : p ≠ P) (hP : m.mp P = true) (c : Nat) : ∃ (e : Int) (m' : MV), Kp P m m' ∧ Tri1 Tryd.prog 15 #[.pointer (some ⟨c, 0, none⟩), .int .i64 p, .int .i64 q] (memA c m) (.int .i64 e) (memA c m') := by
  by_cases h0 : mvE m p q = 0
  · unfold mvE at h0
    split at h0
    · rename_i hr
      rw [Int.toNat_natCast, Int.toNat_natCast] at h0
      by_cases h1 : m.mp p = true
      · rw [if_pos h1] at h0
        by_cases h2 : m.mp q = true
        · rw [if_pos h2] at h0; omega
        · have h3 : m.mp q = false := by simpa using h2
          have hqP : P ≠ q := fun e => by rw [e, h3] at hP; cases hP
          refine ⟨0, _, ⟨hm.move p q hq, rfl, rfl, rfl, ?_, ?_⟩, vm_move_ok hm p q h1 h3 hq⟩
          · show (if P = q then true else if P = p then false else m.mp P) = _
            rw [if_neg hqP, if_neg (Ne.symm hne)]
          · show (if P = q then m.val p else m.val P) = _
            rw [if_neg hqP]
      · rw [if_neg h1] at h0; omega
    · omega
  · exact ⟨_, m, .refl hm, (vm_move_bad p q h0).tri⟩

theorem kp_free {P : Nat} {m : MV} (hm : m.ok) (p : Nat) (hp : p < m.pages) (hne : p ≠ P) (c : Nat) : ∃ (n : Nat) (m' : MV), Kp P m m' ∧ Tri1 Tryd.prog 16 #[.pointer (some ⟨c, 0, none⟩), .int .i64 (p * m.page : Nat), .int .i64 (p * m.page + m.page : Nat)] (memA c m) (.int .i64 n) (memA c m') := by
  have p1 := hm.p1
  have hT : p * m.page + m.page ≤ m.words := by
    rw [← hm.dv, ← Nat.succ_mul]
    exact Nat.mul_le_mul_right _ hp
  have T := vm_free_ok (p := c) hm (p * m.page) (p * m.page + m.page) (by omega) hT
  have e1 : (p * m.page + m.page - 1) / m.page = p := by
    have := (split_pg p (m.page - 1) m.page (by omega)).1
    rw [show p * m.page + m.page - 1 = p * m.page + (m.page - 1) by omega]; exact this
  have e2 : (p * m.page + m.page) / m.page = p + 1 := by
    have := (split_pg (p + 1) 0 m.page (by omega)).1
    rw [show p * m.page + m.page = (p + 1) * m.page + 0 by rw [Nat.succ_mul]; omega]; exact this
  rw [e1, e2] at T
  refine ⟨_, _, ⟨hm.cut p (p + 1), rfl, rfl, rfl, ?_, rfl⟩, T⟩
  show (m.mp P && !(decide (p ≤ P) && decide (P < p + 1))) = _
  have : (decide (p ≤ P) && decide (P < p + 1)) = false := by
    rw [Bool.eq_false_iff]
    intro h
    simp at h
    omega
  rw [this]; simp

theorem kp_store {P : Nat} {m : MV} (hm : m.ok) (p j : Nat) (u : Int) (hj : j < m.page) (hp : p < m.pages) (hne : p ≠ P) (c : Nat) : ∃ (e : Int) (m' : MV), Kp P m m' ∧ Tri1 Tryd.prog 12 #[.pointer (some ⟨c, 0, none⟩), .int .i64 (p * m.page + j : Nat), .int .u64 u] (memA c m) (.int .i64 e) (memA c m') := by
  cases h : m.mp p with
  | true => exact ⟨0, _, ⟨hm.put p j u, rfl, rfl, rfl, rfl, by show (if P = p then _ else m.val P) = _; rw [if_neg (Ne.symm hne)]⟩, vm_store_ok hm p j u h hj⟩
  | false =>
    have e : (((p * m.page + j : Nat) : Int) / m.page) = (p : Int) := by exact_mod_cast congrArg (fun x : Nat => (x : Int)) (split_pg p j m.page hj).1
    have := vm_store_bad (p := c) (m := m) ((p * m.page + j : Nat) : Int) u (by rw [e, frE_un hp h]; omega)
    exact ⟨_, m, .refl hm, this.tri⟩

end Go.Proofs.YtflkbefiopnigabDoor.VM
