/- The document's page map (layer 8): Move done; Drop and Move in numbers. -/
import Derived.Test.YtpdnbkibnpkfbacPgZs
import Derived.Deep.RegionWith
namespace Go.Proofs.Ytpdnbkibnpkfbac.PT
open Go.ChangeShapes Go.WideShapes Go.ChangeAt Go.RowKit

set_option maxRecDepth 100000 in
theorem ls_move_ok {c n : Nat} {L : List (Nat × Nat)} (hn : n ≤ 524288) (hL : L.length ≤ 1000000) (p q : Nat) (hp : p < n) (hq : q < n) (k : Nat) (hk : ix L p = k) (hkl : k < L.length) (hz : ix L q = -1) : Tri1 Try.prog 27 #[.pointer (some ⟨c, 0, none⟩), .int .i64 p, .int .i64 q] (lsA c n L) (.int .i64 0) (lsA c n (L.set k (q, (L.getD k (0, 0)).2))) := by
  intro w S h
  have I := ls_in hn p w S h
  have J := ls_in hn q w S h
  rw [decide_eq_true (by omega)] at I
  rw [decide_eq_true (by omega)] at J
  have I := Lib.hid I
  have J := Lib.hid J
  have A := fun m => ls_at hL p (w.drewN m) S ((lsA c n L).keep (w' := w.drewN m) h (fun _ _ => rfl))
  have B := ls_at hL q w S h
  rw [hk] at A
  rw [hz] at B
  have A0 := Lib.hid (show Calls Try.prog 42 #[.pointer (some ⟨c, 0, none⟩), .int .i64 p] w fun e w' => e = .returned (.int .i64 k) ∧ w = w' from A 0)
  have A := Lib.hid A
  have B := Lib.hid B
  obtain ⟨a, cap, hX, c0, c1, cf, ce⟩ := ls_open h
  obtain ⟨g, rfl, e0, e1⟩ := ce k hkl
  have hltI : (k : Int) < (L.length : Int) := by omega
  have hk0I : (0 : Int) ≤ (k : Int) := by omega
  have FIN := Lib.hid (fun m => ls_turn k q hkl (hX.drewN m))
  have fg : w.frozen? ⟨g, k * 2, none⟩ = false := by
    obtain ⟨_, _, _, ho⟩ := ls_read hX
    exact ho.frozenAt (k * 2)
  clear h hX ce hk hz hkl
  go_enter Try.func27, Try.ntmps27
  go_wp2_with fail
  refine I.out.mono ?_
  rintro e1 w1 ⟨rfl, rfl⟩
  go_wp2_with fail
  refine J.out.mono ?_
  rintro e1 w1 ⟨rfl, rfl⟩
  go_wp2_with fail
  refine A0.out.mono ?_
  rintro e1 w1 ⟨rfl, rfl⟩
  go_wp2_with fail
  refine B.out.mono ?_
  rintro e1 w1 ⟨rfl, rfl⟩
  go_wp2
  go_region_with (go_at_call 42; refine (A.out 1).mono ?_; rintro e1 w1 ⟨rfl, rfl⟩)
  all_goals go_wp2
  all_goals go_ret
  all_goals exact ⟨rfl, FIN.out 1⟩

theorem mem_cut {L : List (Nat × Nat)} {k : Nat} (hk : k < L.length) (e : Nat × Nat) : e ∈ L ↔ e ∈ L.take k ++ L.drop (k + 1) ∨ e = L.getD k (0, 0) := by
  have h : L = L.take k ++ (L.getD k (0, 0) :: L.drop (k + 1)) := by
    have e : L.getD k (0, 0) = L[k] := by simp [List.getD_eq_getElem?_getD, hk]
    rw [e, ← List.drop_eq_getElem_cons hk, List.take_append_drop]
  conv => lhs; rw [h]
  simp only [List.mem_append, List.mem_cons]
  constructor
  · rintro (h | h | h)
    · exact .inl (.inl h)
    · exact .inr h
    · exact .inl (.inr h)
  · rintro ((h | h) | h)
    · exact .inl h
    · exact .inr (.inr h)
    · exact .inr (.inl h)

theorem nd_cut {L : List (Nat × Nat)} {k : Nat} (hk : k < L.length) (nd : (L.map (·.1)).Nodup) : ((L.take k ++ L.drop (k + 1)).map (·.1)).Nodup ∧ ∀ e ∈ L.take k ++ L.drop (k + 1), e.1 ≠ (L.getD k (0, 0)).1 := by
  have h : L = L.take k ++ (L.getD k (0, 0) :: L.drop (k + 1)) := by
    have e : L.getD k (0, 0) = L[k] := by simp [List.getD_eq_getElem?_getD, hk]
    rw [e, ← List.drop_eq_getElem_cons hk, List.take_append_drop]
  rw [h, List.map_append, List.map_cons, List.nodup_append, List.nodup_cons] at nd
  obtain ⟨n1, ⟨n2, n3⟩, n4⟩ := nd
  generalize L.getD k (0, 0) = x at *
  constructor
  · rw [List.map_append, List.nodup_append]
    exact ⟨n1, n3, fun a ha b hb => n4 a ha b (List.mem_cons_of_mem _ hb)⟩
  · intro e he e2
    rcases List.mem_append.1 he with he | he
    · exact n4 e.1 (List.mem_map.2 ⟨e, he, rfl⟩) x.1 (by simp) e2
    · exact n2 (List.mem_map.2 ⟨e, he, e2⟩)

theorem RL.drop {s : QS} {L : List (Nat × Nat)} (h : RL s L) (p : Nat) (k : Nat) (hk : k < L.length) (he : (L.getD k (0, 0)).1 = p) (ht : -900000 ≤ s.tot) : RL (s.put p 0 (-1)) (L.take k ++ L.drop (k + 1)) where
  ok := QS.put_ok h.ok p 0 (-1) (by omega) (by omega) (by have := h.ok.t2; omega)
  tot := by
    show s.tot + -1 = _
    rw [h.tot, List.length_append, List.length_take, List.length_drop]
    omega
  nd := (nd_cut hk h.nd).1
  bd := fun e hm => h.bd e ((mem_cut hk e).2 (.inl hm))
  has := fun e hm => by
    show upd s.fr p 0 e.1 = _
    unfold upd
    rw [if_neg (by rw [← he]; exact (nd_cut hk h.nd).2 e hm)]
    exact h.has e ((mem_cut hk e).2 (.inl hm))
  no := fun q hq => by
    show upd s.fr p 0 q = 0
    unfold upd
    by_cases e : q = p
    · rw [if_pos e]
    · rw [if_neg e]
      refine h.no q fun x hx => ?_
      rcases (mem_cut hk x).1 hx with hx | hx
      · exact hq x hx
      · rw [hx, he]; exact fun e2 => e e2.symm

end Go.Proofs.Ytpdnbkibnpkfbac.PT
