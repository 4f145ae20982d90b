/- The document's page map (layer 8): Move; the numbers of Drop and Move. -/
import Derived.Test.YtpdnbkibnpkfbacPgZr
namespace Go.Proofs.Ytpdnbkibnpkfbac.PT
open Go.ChangeShapes Go.WideShapes Go.ChangeAt Go.RowKit

theorem ls_drop_bad {c n : Nat} {L : List (Nat × Nat)} (hn : n ≤ 524288) (hL : L.length ≤ 1000000) (p : Int) (e : Int) (he : lfE n L p = e) (h0 : ¬ e = 0) : Ask Try.prog 25 #[.pointer (some ⟨c, 0, none⟩), .int .i64 p] (lsA c n L) (.tuple #[.int .i64 0, .int .i64 e]) := by
  intro w S h
  have F := ls_frame hn hL p w S h
  rw [he] at F
  have F := Lib.hid F
  clear h he
  generalize lfV n L p = v at *
  go_enter Try.func25, Try.ntmps25
  go_wp2_with (go_at_call 29; refine F.out.mono ?_; rintro e1 w1 ⟨rfl, rfl⟩)
  go_ret2
  exact ⟨rfl, rfl⟩

theorem ls_move_range {c n : Nat} {L : List (Nat × Nat)} (hn : n ≤ 524288) (p q : Int) (hp : ¬ ((0 ≤ p ∧ p < n) ∧ (0 ≤ q ∧ q < n))) : Ask Try.prog 27 #[.pointer (some ⟨c, 0, none⟩), .int .i64 p, .int .i64 q] (lsA c n L) (.int .i64 11) := by
  intro w S h
  have I := ls_in hn p w S h
  have J := ls_in hn q w S h
  clear h
  by_cases h1 : 0 ≤ p ∧ p < n
  · rw [decide_eq_true h1] at I
    rw [decide_eq_false (fun h2 => hp ⟨h1, h2⟩)] at J
    have I := Lib.hid I
    have J := Lib.hid J
    clear hp h1
    go_enter Try.func27, Try.ntmps27
    go_wp2_with fail
    refine I.out.mono ?_
    rintro e1 w1 ⟨rfl, rfl⟩
    go_wp2_with fail
    refine J.out.mono ?_
    rintro e1 w1 ⟨rfl, rfl⟩
    go_wp2
    go_ret
    exact ⟨rfl, rfl⟩
  · rw [decide_eq_false h1] at I
    have I := Lib.hid I
    clear hp h1 J
    go_enter Try.func27, Try.ntmps27
    go_wp2_with fail
    refine I.out.mono ?_
    rintro e1 w1 ⟨rfl, rfl⟩
    go_wp2
    go_ret
    exact ⟨rfl, rfl⟩

/-- both pages are there: what the list says of them -/
theorem ls_move_no {c n : Nat} {L : List (Nat × Nat)} (hn : n ≤ 524288) (hL : L.length ≤ 1000000) (p q : Int) (hp : 0 ≤ p ∧ p < n) (hq : 0 ≤ q ∧ q < n) (e : Int)
    (he : (ix L p = -1 ∧ e = 12) ∨ (∃ k j : Nat, ix L p = k ∧ ix L q = j ∧ e = 13)) : Ask Try.prog 27 #[.pointer (some ⟨c, 0, none⟩), .int .i64 p, .int .i64 q] (lsA c n L) (.int .i64 e) := by
  intro w S h
  have I := ls_in hn p w S h
  have J := ls_in hn q w S h
  rw [decide_eq_true hp] at I
  rw [decide_eq_true hq] at J
  have I := Lib.hid I
  have J := Lib.hid J
  have A := ls_at hL p w S h
  have B := ls_at hL q w S h
  clear h hp hq
  rcases he with ⟨e1, rfl⟩ | ⟨k, j, e1, e2, rfl⟩
  · rw [e1] at A
    have A := Lib.hid A
    clear e1 B
    go_enter Try.func27, Try.ntmps27
    go_wp2_with fail
    refine I.out.mono ?_
    rintro e1 w1 ⟨rfl, rfl⟩
    go_wp2_with fail
    refine J.out.mono ?_
    rintro e1 w1 ⟨rfl, rfl⟩
    go_wp2_with fail
    refine A.out.mono ?_
    rintro e1 w1 ⟨rfl, rfl⟩
    go_wp2
    go_ret
    exact ⟨rfl, rfl⟩
  · rw [e1] at A
    rw [e2] at B
    have A := Lib.hid A
    have B := Lib.hid B
    clear e1 e2
    go_enter Try.func27, Try.ntmps27
    go_wp2_with fail
    refine I.out.mono ?_
    rintro e1 w1 ⟨rfl, rfl⟩
    go_wp2_with fail
    refine J.out.mono ?_
    rintro e1 w1 ⟨rfl, rfl⟩
    go_wp2_with fail
    refine A.out.mono ?_
    rintro e1 w1 ⟨rfl, rfl⟩
    go_wp2_with fail
    refine B.out.mono ?_
    rintro e1 w1 ⟨rfl, rfl⟩
    go_wp2
    go_ret
    exact ⟨rfl, rfl⟩

theorem flat_set (L : List (Nat × Nat)) (k q : Nat) (hk : k < L.length) : flat (L.set k (q, (L.getD k (0, 0)).2)) = (flat L).set (2 * k) (.int .i64 (q : Nat)) := by
  induction L generalizing k with
  | nil => simp at hk
  | cons e r ih =>
    cases k with
    | zero => rfl
    | succ k =>
      show _ :: _ :: flat (r.set k (q, (r.getD k (0, 0)).2)) = (_ :: _ :: flat r).set (2 * k + 1 + 1) _
      rw [ih k (by simpa using hk)]
      rfl

/-- a page's frame is another's now -/
theorem ls_turn {w0 w : World} {S : Nat → Prop} {c n : Nat} {L : List (Nat × Nat)} {g cap : Nat} (k q : Nat) (hk : k < L.length) (h : At (lsX c n L (.slice (some ⟨g, 0, none⟩) L.length cap)) w0 S w) :
    At (lsA c n (L.set k (q, (L.getD k (0, 0)).2))) w0 S (w.setCell ⟨g, k * 2, none⟩ (.int .i64 (q : Nat))) := by
  refine At.ofex (A := fun v => lsX c n (L.set k (q, (L.getD k (0, 0)).2)) v) (.slice (some ⟨g, 0, none⟩) L.length cap) ?_
  have h1 := h.re (B := own 75 2 (.slice (some ⟨g, 0, none⟩) L.length cap) L.length (flat L) * blk c (.cells #[.int .i64 n, .slice (some ⟨g, 0, none⟩) L.length cap] 47 (0, 0))) (by unfold lsX; ac_rfl)
  have h2 := h1.frame (B := own 75 2 (.slice (some ⟨g, 0, none⟩) L.length cap) L.length (flat (L.set k (q, (L.getD k (0, 0)).2)))) (w' := w.setCell ⟨g, k * 2, none⟩ (.int .i64 (q : Nat))) (by
    rintro S' ⟨a, hS⟩
    refine ⟨S', ⟨?_, hS⟩, fun _ h => .inl h, (Fr.refl S' w).setCell (p := ⟨g, k * 2, none⟩) (fun _ => (hS g).2 rfl) _⟩
    rw [flat_set L k q hk, show 2 * k = k * 2 by omega]
    exact (a.stored (k * 2) (.int .i64 (q : Nat))).1)
  refine h2.re ?_
  unfold lsX
  rw [List.length_set]
  ac_rfl

end Go.Proofs.Ytpdnbkibnpkfbac.PT
