/- The stack of layer 19: Pop. -/
import Derived.Test.YtpdnbkibnpkfbabStkB
namespace Go.Proofs.Ytpdnbkibnpkfbab
open Go.ChangeShapes Go.WideShapes Go.ChangeAt Go.RowKit

theorem own_some {w : World} {B n z : Nat} {e : TypeId} {v : Value} {xs : List Value} (h : w.ownsRow B e z v n xs) (hn : 0 < n) : ∃ g cap, v = .slice (some ⟨g, 0, none⟩) n cap ∧ B ≤ g := by
  rcases h.2 with ⟨rfl, rfl⟩ | ⟨g, cap, cur, rfl, hb, _⟩
  · omega
  · exact ⟨_, _, rfl, hb⟩

theorem pop_none {b : Nat} {g : Option Nat} {room high : Int} {lost : Bool} {w : World} (hs : Stk 58 w b g [] room high lost) :
    Calls Try.prog 12 #[.pointer (some ⟨b, 0, none⟩)] w fun e w' => e = .returned (.tuple #[.int .i64 0, .bool false]) ∧ w = w' := by
  go_enter Try.func12, Try.ntmps12
  go_wp2_with (go_at_call 17; refine (len_any hs).mono ?_; rintro e w1 ⟨rfl, rfl⟩)
  go_ret2
  exact ⟨rfl, rfl⟩

theorem rpop_none {b : Nat} {g : Option Nat} {room high : Int} {lost : Bool} {w : World} (hs : Stk 32 w b g [] room high lost) :
    Calls Try.prog 13 #[.pointer (some ⟨b, 0, none⟩)] w fun e w' => e = .returned (.tuple #[.int .i64 0, .bool false]) ∧ w = w' := by
  obtain ⟨v, hb, hown, hg, hgb⟩ := hs
  obtain ⟨a0, cap, rfl⟩ := own_form hown
  obtain ⟨c0, c1, c2, c3, f0, f1, f2, f3⟩ := cells4 hb
  clear hb hown hg hgb
  simp at c0
  go_enter Try.func13, Try.ntmps13
  go_wp2
  go_ret2
  exact ⟨rfl, rfl⟩

/-- what a pop leaves -/
def PopPost (ty : TypeId) (w : World) (b : Nat) (g : Option Nat) (ys : List Int) (room high a : Int) (lost : Bool) (e : Ending) (w' : World) : Prop :=
  e = .returned (.tuple #[.int .i64 a, .bool true]) ∧ ∃ g', Stk ty w' b g' ys room high lost ∧ (∀ k, g' = some k → g = some k ∨ w.heap.size ≤ k) ∧ Fr (fun k => k = b) w w'

theorem pop_some {b : Nat} {g : Option Nat} {ys : List Int} {a room high : Int} {lost : Bool} {w : World} (hs : Stk 58 w b g (ys ++ [a]) room high lost) (hl : ys.length ≤ 5000) :
    Calls Try.prog 12 #[.pointer (some ⟨b, 0, none⟩)] w (PopPost 58 w b g ys room high a lost) := by
  have hs0 := hs
  obtain ⟨v, hb, hown, hg, hgb⟩ := hs
  obtain ⟨q, cap, rfl, -⟩ := own_some hown (by simp)
  have e1 : (ys ++ [a]).length = ys.length + 1 := by simp
  rw [e1, List.map_append] at hown
  rw [e1] at hb
  obtain ⟨c0, c1, c2, c3, f0, f1, f2, f3⟩ := cells4 hb
  have hcell : w.cell? ⟨q, ys.length, none⟩ = some (.int .i64 a) := by rw [hown.cellAt _ (by omega)]; simp
  have hcap : ys.length + 1 ≤ cap := by
    rcases hown.2 with ⟨h, _⟩ | ⟨_, _, _, h, _, _, h2, _⟩
    · cases h
    · cases h; exact h2
  have hcapm : cap ≤ 9223372036854775807 := by
    rcases hown.2 with ⟨h, _⟩ | ⟨_, _, _, h, _, _, _, h2, _⟩
    · cases h
    · cases h; unfold maxLen at h2; omega
  have FIN : Hid (PopPost 58 w b g ys room high a lost (.returned (.tuple #[.int .i64 a, .bool true])) (w.setCell ⟨b, 0, none⟩ (.slice (some ⟨q, 0, none⟩) ys.length cap))) :=
    ⟨rfl, g, ⟨_, blk_set hb _, ownsRow_setCell_other (ownsRow_pop (by simp) hown) (a := ⟨b, 0, none⟩) (by rw [← hg] at hgb; simpa [Value.ownBlock] using hgb) _, hg, hgb⟩, fun k hk => .inl hk, (Fr.refl (fun k => k = b) w).setCell (fun _ => rfl) _⟩
  have L := len_any hs0
  rw [e1] at L
  have L' : Hid (Calls Try.prog 17 #[.pointer (some ⟨b, 0, none⟩)] w (fun e w' => e = .returned (.int .i64 ((ys.length : Int) + 1)) ∧ w = w')) := by show Calls _ _ _ _ _; simpa using L
  clear hs0 hb hown hg hgb L e1
  go_enter Try.func12, Try.ntmps12
  go_wp2_with (go_at_call 17; refine (L'.out).mono ?_; rintro e w1 ⟨rfl, rfl⟩)
  go_ret2
  exact FIN.out

set_option maxHeartbeats 1000000 in
theorem rpop_some {b : Nat} {g : Option Nat} {ys : List Int} {a room high : Int} {lost : Bool} {w : World} (hs : Stk 32 w b g (ys ++ [a]) room high lost) (hl : ys.length ≤ 5000) :
    Calls Try.prog 13 #[.pointer (some ⟨b, 0, none⟩)] w (PopPost 32 w b g ys room high a lost) := by
  obtain ⟨v, hb, hown, hg, hgb⟩ := hs
  obtain ⟨q, cap, rfl, -⟩ := own_some hown (by simp)
  have e1 : (ys ++ [a]).length = ys.length + 1 := by simp
  rw [e1, List.map_append] at hown
  rw [e1] at hb
  obtain ⟨c0, c1, c2, c3, f0, f1, f2, f3⟩ := cells4 hb
  have hcell : w.cell? ⟨q, ys.length, none⟩ = some (.int .i64 a) := by rw [hown.cellAt _ (by omega)]; simp
  have hcap : ys.length + 1 ≤ cap := by
    rcases hown.2 with ⟨h, _⟩ | ⟨_, _, _, h, _, _, h2, _⟩
    · cases h
    · cases h; exact h2
  have hcapm : cap ≤ 9223372036854775807 := by
    rcases hown.2 with ⟨h, _⟩ | ⟨_, _, _, h, _, _, _, h2, _⟩
    · cases h
    · cases h; unfold maxLen at h2; omega
  obtain ⟨i0, hi, hz0, hz1, hz2⟩ := info_parts infInt
  have HI := Lib.hid hi
  have HZ0 := Lib.hid hz0
  have HZ1 := Lib.hid hz1
  have HZ2 := Lib.hid hz2
  clear hi hz0 hz1 hz2
  have hlt := lt_of_block hb
  have hown' := ownsRow_pop (xs := ys.map (Value.int .i64)) (by simp) hown
  have hq : q < w.heap.size := World.block_lt_of_cell? w ⟨q, ys.length, none⟩ hcell
  have hnews : ∀ j u, (ys.map (Value.int .i64))[j]? = some u → (w.alloc (.cells #[] 3)).cell? ((⟨q, 0, none⟩ : Addr).add j) = some u := by
    intro j u hu
    have h := hown'.cells (g := q) rfl j u hu
    have e : ((⟨q, 0, none⟩ : Addr).add j) = ⟨q, j, none⟩ := by unfold Addr.add; split <;> simp_all
    rw [e] at h ⊢
    rw [World.cell?_alloc_past _ _ _ hq]; exact h
  have FIN : Hid (∀ g' cap' w1, w1.ownsRow 0 3 1 (.slice (some ⟨g', 0, none⟩) ys.length cap') ys.length (ys.map (Value.int .i64)) → (w.alloc (.cells #[] 3)).grownBy w1 (some w.heap.size) → w.heap.size ≤ g' → PopPost 32 w b g ys room high a lost (.returned (.tuple #[.int .i64 a, .bool true])) (w1.setCell ⟨b, 0, none⟩ (.slice (some ⟨g', 0, none⟩) ys.length cap'))) := by
    intro g' cap' w1 ho hgr hge
    have hb1 : w1.heap[b]? = _ := (hgr.block b (by simp; omega) (fun e => by cases e; omega)).trans (blk_alloc hb)
    exact ⟨rfl, some g', ⟨_, blk_set hb1 _, ownsRow_setCell_other ho (a := ⟨b, 0, none⟩) (by simp [Value.ownBlock]; omega) _, rfl, fun e => by cases e; omega⟩, fun k hk => .inr (by cases hk; exact hge),
      ((((Fr.refl (fun k => k = b) w).alloc _).grown hgr (fun k hk hlt' => by cases hk; omega)).setCell (fun _ => rfl) _)⟩
  have FB : Hid (∀ w1 : World, (w.alloc (.cells #[] 3)).grownBy w1 (some w.heap.size) → w1.cell? ⟨b, 0, none⟩ = some (.slice (some ⟨q, 0, none⟩) (ys.length + 1) cap) ∧ w1.frozen? ⟨b, 0, none⟩ = false) := by
    intro w1 hgr
    have hb1 : w1.heap[b]? = _ := (hgr.block b (by simp; omega) (fun e => by cases e; omega)).trans (blk_alloc hb)
    exact ⟨(cells4 hb1).1, (cells4 hb1).2.2.2.2.1⟩
  have ho0 := World.ownsRow_made (base := 0) (size := 1) (e := 3) w #[] 0 (Nat.zero_le _) (by unfold maxLen; omega) rfl
  clear hown hown' hb e1 hg hgb
  by_cases hy : ys.length = 0
  · obtain rfl : ys = [] := List.eq_nil_of_length_eq_zero hy
    clear hy
    have HN := Lib.hid hnews
    clear hnews
    simp at c0 hcell hcap
    go_enter Try.func13, Try.ntmps13
    go_wp2_with (at_builtin; refine wpList_append_fits _ rfl _ _ 30 rfl 0 3 i0 1 Try.underlying30 HI.out HZ1.out w.heap.size 0 0 [] rfl ho0 ⟨q, 0, none⟩ 0 cap [] rfl rfl ?c1 ?c2 ?c3 ?_)
    case c1 => intro j u hj; simp at hj
    case c2 => intro u hu; simp at hu
    case c3 => omega
    intro w1 hown1 hgrow1
    obtain ⟨d0, e0⟩ := FB.out w1 hgrow1
    simp at d0
    go_wp2
    go_ret2
    exact FIN.out _ _ _ (by simpa using hown1) hgrow1 (Nat.le_refl _)
  · go_enter Try.func13, Try.ntmps13
    go_wp2_with (at_builtin; refine wpList_append_sep _ rfl _ _ 30 rfl 0 3 i0 (.int .i64 0) 1 8 Try.underlying30 HI.out HZ0.out HZ1.out HZ2.out rfl (by decide) _ _ _ rfl ho0 ⟨q, 0, none⟩ ys.length cap (ys.map (Value.int .i64)) rfl (by simp) hnews ?c2 ?c3 ?c4 ?c5 ?c6 ?_)
    case c2 => intro u hu; simp at hu; obtain ⟨z, _, rfl⟩ := hu; rfl
    case c3 => unfold maxLen; omega
    case c4 => omega
    case c5 => exact Nat.zero_le _
    case c6 => omega
    intro g' cap' w1 hown1 hgrow1 hwhere
    obtain ⟨d0, e0⟩ := FB.out w1 hgrow1
    have FI := FIN.out g' cap' w1 (by simpa using hown1) hgrow1 (by rcases hwhere with h | h <;> (try simp [Value.ownBlock] at h) <;> omega)
    have FI' := Lib.hid FI
    clear FI FIN hown1 hgrow1 hwhere FB hnews ho0
    go_wp2
    go_ret2
    exact FI'.out

end Go.Proofs.Ytpdnbkibnpkfbab
