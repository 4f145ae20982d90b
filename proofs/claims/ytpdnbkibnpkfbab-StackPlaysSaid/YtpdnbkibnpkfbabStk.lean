/- The stack of layer 19 in memory, and what is pushed to it. -/
import Derived.Test.YtpdnbkibnpkfbabSep
import Derived.Deep.RegionLaw
import Derived.WalkSmall
namespace Go.Proofs.Ytpdnbkibnpkfbab
open Go.ChangeShapes Go.WideShapes Go.ChangeAt Go.RowKit

theorem infInt : (Try.prog.info? 3).map (fun i => (i.zero, i.size, i.bytes)) = some (some (.int .i64 0), 1, 8) := by kernel_rfl

def mx (a b : Int) : Int := if a < b then b else a

/-- A block of four cells is a stack that holds xs; its row is the call's own, in block g. -/
def Stk (ty : TypeId) (w : World) (b : Nat) (g : Option Nat) (xs : List Int) (room high : Int) (lost : Bool) : Prop :=
  ∃ v, w.heap[b]? = some (.cells #[v, .int .i64 room, .int .i64 high, .bool lost] ty (0, 0)) ∧ w.ownsRow 0 3 1 v xs.length (xs.map (Value.int .i64)) ∧ v.ownBlock = g ∧ g ≠ some b

theorem own_form {w : World} {B n z : Nat} {e : TypeId} {v : Value} {xs : List Value} (h : w.ownsRow B e z v n xs) : ∃ a cap, v = .slice a n cap := by
  rcases h.2 with ⟨rfl, rfl⟩ | ⟨g, cap, cur, rfl, _⟩
  · exact ⟨_, _, rfl⟩
  · exact ⟨_, _, rfl⟩

theorem cells4 {w : World} {b : Nat} {x0 x1 x2 x3 : Value} {t : TypeId} (h : w.heap[b]? = some (.cells #[x0, x1, x2, x3] t (0, 0))) :
    w.cell? ⟨b, 0, none⟩ = some x0 ∧ w.cell? ⟨b, 1, none⟩ = some x1 ∧ w.cell? ⟨b, 2, none⟩ = some x2 ∧ w.cell? ⟨b, 3, none⟩ = some x3 ∧ w.frozen? ⟨b, 0, none⟩ = false ∧ w.frozen? ⟨b, 1, none⟩ = false ∧ w.frozen? ⟨b, 2, none⟩ = false ∧ w.frozen? ⟨b, 3, none⟩ = false := by
  simp [World.cell?, World.frozen?, h]

theorem blk_set {w : World} {b i : Nat} {c : Array Value} {t : TypeId} {fz : Nat × Nat} (h : w.heap[b]? = some (.cells c t fz)) (u : Value) : (w.setCell ⟨b, i, none⟩ u).heap[b]? = some (.cells (c.setIfInBounds i u) t fz) := by
  simp [World.setCell, Array.getElem?_modify, h]

theorem blk_other {w : World} {b k i : Nat} {o : Option Obj} (h : w.heap[b]? = o) (u : Value) (hne : b ≠ k) : (w.setCell ⟨k, i, none⟩ u).heap[b]? = o := by
  rw [Below.heap_setCell _ _ _ _ hne]; exact h

theorem blk_alloc {w : World} {b : Nat} {o o' : Obj} (h : w.heap[b]? = some o) : (w.alloc o').heap[b]? = some o := by
  rw [Below.heap_alloc _ _ _ (lt_of_block h)]; exact h

/-- what a push leaves -/
def PushPost (ty : TypeId) (w : World) (b : Nat) (g : Option Nat) (xs : List Int) (room high a : Int) (lost : Bool) (e : Ending) (w' : World) : Prop :=
  e = .returned (.bool true) ∧ ∃ g', Stk ty w' b (some g') (xs ++ [a]) room (mx high (xs.length + 1)) lost ∧ (g = some g' ∨ w.heap.size ≤ g') ∧ Fr (fun k => k = b ∨ g = some k) w w'

theorem pushed {ty : TypeId} {w w1 : World} {b g' cap' : Nat} {g : Option Nat} {xs : List Int} {room high a h' : Int} {lost : Bool} {v0 : Value} (hb1 : w1.heap[b]? = some (.cells #[v0, .int .i64 room, .int .i64 high, .bool lost] ty (0, 0)))
    (hown : w1.ownsRow 0 3 1 (.slice (some ⟨g', 0, none⟩) (xs.length + 1) cap') (xs.length + 1) (xs.map (Value.int .i64) ++ [.int .i64 a])) (hwhere : g = some g' ∨ w.heap.size ≤ g') (hgb : g ≠ some b) (hfr : Fr (fun k => k = b ∨ g = some k) w w1) (hlt : b < w.heap.size) (hh : h' = mx high (xs.length + 1)) :
    PushPost ty w b g xs room high a lost (.returned (.bool true)) (((w1.setCell ⟨b, 0, none⟩ (.slice (some ⟨g', 0, none⟩) (xs.length + 1) cap')).setCell ⟨b, 2, none⟩ (.int .i64 h')).drew) := by
  subst hh
  have hne : g' ≠ b := by
    rintro rfl
    rcases hwhere with h | h
    · exact hgb h
    · omega
  refine ⟨rfl, g', ⟨_, blk_set (blk_set hb1 _) _, ?_, rfl, fun e => hne (by cases e; rfl)⟩, hwhere, ((hfr.setCell (fun _ => .inl rfl) _).setCell (fun _ => .inl rfl) _).drew⟩
  have h2 := ownsRow_setCell_other (ownsRow_setCell_other hown (a := ⟨b, 0, none⟩) (by simpa [Value.ownBlock] using hne) (.slice (some ⟨g', 0, none⟩) (xs.length + 1) cap')) (a := ⟨b, 2, none⟩) (by simpa [Value.ownBlock] using hne) (.int .i64 (mx high (xs.length + 1)))
  have e1 : (xs ++ [a]).length = xs.length + 1 := by simp
  rw [e1, List.map_append]
  exact h2

theorem one_nw (wr : World) (x : Int) : ∀ j u, [Value.int .i64 x][j]? = some u → (wr.alloc (.cells #[.int .i64 x] 3)).cell? ((⟨wr.heap.size, 0, none⟩ : Addr).add j) = some u := by
  intro j u hj
  match j, hj with
  | 0, hj => simp at hj; subst hj; simp [Addr.add]

set_option maxHeartbeats 1000000 in
theorem push_room {b : Nat} {g : Option Nat} {xs : List Int} {room high : Int} {lost : Bool} {w : World} (hs : Stk 58 w b g xs room high lost) (hr : (xs.length : Int) < room) (hl : xs.length ≤ 5000) (hh : 0 ≤ high ∧ high ≤ 5000) (a : Int) :
    Calls Try.prog 15 #[.pointer (some ⟨b, 0, none⟩), .int .i64 a] w (PushPost 58 w b g xs room high a lost) := by
  obtain ⟨v, hb, hown, hg, hgb⟩ := hs
  obtain ⟨i0, hi, hz0, hz1, hz2⟩ := info_parts infInt
  have HI := Lib.hid hi
  have HZ0 := Lib.hid hz0
  have HZ1 := Lib.hid hz1
  have HZ2 := Lib.hid hz2
  clear hi hz0 hz1 hz2
  obtain ⟨a0, cap, rfl⟩ := own_form hown
  obtain ⟨c0, c1, c2, c3, f0, f1, f2, f3⟩ := cells4 hb
  have hlt := lt_of_block hb
  have HG := Lib.hid hg
  clear hg
  have hne : (((xs.length : Nat) : Int) == room) = false := by simp; omega
  obtain ⟨hh0, hh1⟩ := hh
  go_enter Try.func15, Try.ntmps15
  go_wp2
  go_quiet (fail)
  go_wp2_with (at_builtin; refine wpList_append_sep _ rfl _ _ 30 rfl 0 3 i0 (.int .i64 0) 1 8 Try.underlying30 HI.out HZ0.out HZ1.out HZ2.out rfl (by decide) _ _ _ rfl (World.ownsRow.alloc (w := w.drewN nq) hown _) ⟨w.heap.size, 0, none⟩ 1 1 [.int .i64 a] rfl rfl ?c1 ?c2 ?c3 ?c4 ?c5 ?c6 ?_)
  case c1 => exact one_nw (w.drewN nq) a
  case c2 => simp [Value.oneCell']
  case c3 => unfold maxLen; omega
  case c4 => omega
  case c5 => exact Nat.zero_le _
  case c6 => omega
  intro g' cap' w1 hown' hgrow hwhere
  have hfr : Fr (fun k => k = b ∨ g = some k) w w1 := (((Fr.refl _ w).drewN nq).alloc _).grown hgrow (fun k hk _ => .inr (by rw [← HG.out]; exact hk))
  have hb1 : w1.heap[b]? = _ := (hgrow.block b (by simp; omega) (fun e => hgb (by rw [← HG.out]; exact e.symm))).trans (blk_alloc (w := w.drewN nq) hb)
  obtain ⟨d0, d1, d2, d3, e0, e1, e2, e3⟩ := cells4 hb1
  have FIN : Hid (∀ h' : Int, h' = mx high (xs.length + 1) → PushPost 58 w b g xs room high a lost (.returned (.bool true)) (((w1.setCell ⟨b, 0, none⟩ (.slice (some ⟨g', 0, none⟩) (xs.length + 1) cap')).setCell ⟨b, 2, none⟩ (.int .i64 h')).drew)) :=
    fun h' hh' => pushed hb1 hown' (hwhere.imp (fun e => HG.out.symm.trans e) (fun e => by first | omega | (simp at e; omega))) hgb hfr hlt hh'
  clear hown hown' hgrow hwhere hgb hfr hlt hb hb1 HG
  go_wp2
  go_region
  all_goals go_wp2
  all_goals go_ret
  all_goals exact FIN.out _ (by unfold mx; split <;> omega)

set_option maxHeartbeats 1000000 in
theorem rpush_room {b : Nat} {g : Option Nat} {xs : List Int} {room high : Int} {lost : Bool} {w : World} (hs : Stk 32 w b g xs room high lost) (hr : (xs.length : Int) < room) (hl : xs.length ≤ 5000) (hh : 0 ≤ high ∧ high ≤ 5000) (a : Int) :
    Calls Try.prog 16 #[.pointer (some ⟨b, 0, none⟩), .int .i64 a] w (PushPost 32 w b g xs room high a lost) := by
  obtain ⟨v, hb, hown, hg, hgb⟩ := hs
  obtain ⟨i0, hi, hz0, hz1, hz2⟩ := info_parts infInt
  have HI := Lib.hid hi
  have HZ0 := Lib.hid hz0
  have HZ1 := Lib.hid hz1
  have HZ2 := Lib.hid hz2
  clear hi hz0 hz1 hz2
  obtain ⟨a0, cap, rfl⟩ := own_form hown
  obtain ⟨c0, c1, c2, c3, f0, f1, f2, f3⟩ := cells4 hb
  have hlt := lt_of_block hb
  have HG := Lib.hid hg
  clear hg
  have hne : decide (room ≤ ((xs.length : Nat) : Int)) = false := by simp; omega
  obtain ⟨hh0, hh1⟩ := hh
  go_enter Try.func16, Try.ntmps16
  go_wp2
  go_quiet (fail)
  go_wp2_with (at_builtin; refine wpList_append_sep _ rfl _ _ 30 rfl 0 3 i0 (.int .i64 0) 1 8 Try.underlying30 HI.out HZ0.out HZ1.out HZ2.out rfl (by decide) _ _ _ rfl (World.ownsRow.alloc (w := w.drewN nq) hown _) ⟨w.heap.size, 0, none⟩ 1 1 [.int .i64 a] rfl rfl ?c1 ?c2 ?c3 ?c4 ?c5 ?c6 ?_)
  case c1 => exact one_nw (w.drewN nq) a
  case c2 => simp [Value.oneCell']
  case c3 => unfold maxLen; omega
  case c4 => omega
  case c5 => exact Nat.zero_le _
  case c6 => omega
  intro g' cap' w1 hown' hgrow hwhere
  have hfr : Fr (fun k => k = b ∨ g = some k) w w1 := (((Fr.refl _ w).drewN nq).alloc _).grown hgrow (fun k hk _ => .inr (by rw [← HG.out]; exact hk))
  have hb1 : w1.heap[b]? = _ := (hgrow.block b (by simp; omega) (fun e => hgb (by rw [← HG.out]; exact e.symm))).trans (blk_alloc (w := w.drewN nq) hb)
  obtain ⟨d0, d1, d2, d3, e0, e1, e2, e3⟩ := cells4 hb1
  have FIN : Hid (∀ h' : Int, h' = mx high (xs.length + 1) → PushPost 32 w b g xs room high a lost (.returned (.bool true)) (((w1.setCell ⟨b, 0, none⟩ (.slice (some ⟨g', 0, none⟩) (xs.length + 1) cap')).setCell ⟨b, 2, none⟩ (.int .i64 h')).drew)) :=
    fun h' hh' => pushed hb1 hown' (hwhere.imp (fun e => HG.out.symm.trans e) (fun e => by first | omega | (simp at e; omega))) hgb hfr hlt hh'
  clear hown hown' hgrow hwhere hgb hfr hlt hb hb1 HG
  go_wp2
  go_region
  all_goals go_wp2
  all_goals go_ret
  all_goals exact FIN.out _ (by unfold mx; split <;> omega)

end Go.Proofs.Ytpdnbkibnpkfbab
