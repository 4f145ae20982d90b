/- A page map of nine pages, with one second-level table or none. -/
import Derived.Test.YtpdnbkibnpkfbacPg
namespace Go.Proofs.Ytpdnbkibnpkfbac
open Go.ChangeShapes Go.WideShapes Go.ChangeAt Go.RowKit

/-- the map: block c; its slot: block b; m pages mapped; the slot holds v -/
def PM (w : World) (c b : Nat) (m : Int) (v : Option Addr) : Prop :=
  w.heap[c]? = some (.cells #[.slice (some ⟨b, 0, none⟩) 1 1, .int .i64 9, .int .i64 m] 70 (0, 0)) ∧ w.rowIs b 76 1 (fun _ => .pointer v) ∧ b ≠ c

def tf (fs : Nat → Int) (k : Int) : Nat → Value := fun i => if i < 512 then .int .u32 (fs i) else .int .i64 k

def zCells : Array Value := (Array.replicate 512 (Value.int .u32 0)).push (.int .i64 0)
theorem zTab (w : World) : (zeroValue 79).run Try.prog w = .ok (.agg zCells) w := by kernel_rfl
theorem zAt (i : Nat) (h : i < 512) : zCells[i]? = some (.int .u32 0) := by
  unfold zCells
  rw [Array.getElem?_push]
  rw [if_neg (by simp; omega)]
  simp [h]
theorem zLast : zCells[512]? = some (.int .i64 0) := by
  unfold zCells
  rw [Array.getElem?_push]
  simp
theorem zSize : zCells.size = 513 := by simp [zCells]

theorem zRow (w : World) : (w.alloc (.cells zCells 79)).rowIs w.heap.size 79 513 (tf (fun _ => 0) 0) := by
  refine ⟨zCells, heap_alloc_new _ _, zSize, fun i hi => ?_⟩
  unfold tf
  by_cases h : i < 512
  · rw [if_pos h]; exact zAt i h
  · obtain rfl : i = 512 := by omega
    rw [if_neg h]; exact zLast
attribute [irreducible] zCells

theorem pcells {w : World} {b : Nat} {x0 x1 x2 : Value} {t : TypeId} (h : w.heap[b]? = some (.cells #[x0, x1, x2] t (0, 0))) :
    w.cell? ⟨b, 0, none⟩ = some x0 ∧ w.cell? ⟨b, 1, none⟩ = some x1 ∧ w.cell? ⟨b, 2, none⟩ = some x2 ∧ w.frozen? ⟨b, 0, none⟩ = false ∧ w.frozen? ⟨b, 1, none⟩ = false ∧ w.frozen? ⟨b, 2, none⟩ = false := by
  simp [World.cell?, World.frozen?, h]

theorem q_check {w : World} {c b : Nat} {m : Int} {v : Option Addr} (h : PM w c b m v) (p : Nat) (hp : p < 9) : Calls Try.prog 38 #[.pointer (some ⟨c, 0, none⟩), .int .i64 p] w fun e w' => e = .returned (.int .i64 0) ∧ w = w' := by
  obtain ⟨c0, c1, c2, f0, f1, f2⟩ := pcells h.1
  go_enter Try.func38, Try.ntmps38
  go_wp2
  go_ret
  exact ⟨rfl, rfl⟩

theorem q_len {w : World} {c b : Nat} {m : Int} {v : Option Addr} (h : PM w c b m v) : Calls Try.prog 34 #[.pointer (some ⟨c, 0, none⟩)] w fun e w' => e = .returned (.int .i64 m) ∧ w = w' := by
  obtain ⟨c0, c1, c2, f0, f1, f2⟩ := pcells h.1
  go_enter Try.func34, Try.ntmps34
  go_wp2
  go_ret
  exact ⟨rfl, rfl⟩

theorem q_mapped_nil {w : World} {c b : Nat} {m : Int} (h : PM w c b m none) (p : Nat) (hp : p < 9) : Calls Try.prog 39 #[.pointer (some ⟨c, 0, none⟩), .int .i64 p] w fun e w' => e = .returned (.bool false) ∧ w = w' := by
  obtain ⟨c0, c1, c2, f0, f1, f2⟩ := pcells h.1
  have b0 := h.2.1.cell (i := 0) (by omega)
  have e1 : (p : Int) / 512 = 0 := by omega
  go_enter Try.func39, Try.ntmps39
  go_wp2
  go_ret
  exact ⟨rfl, rfl⟩

theorem q_mapped {w : World} {c b T : Nat} {m : Int} {fs : Nat → Int} {k : Int} (h : PM w c b m (some ⟨T, 0, none⟩)) (ht : w.rowIs T 79 513 (tf fs k)) (p : Nat) (hp : p < 9) : Calls Try.prog 39 #[.pointer (some ⟨c, 0, none⟩), .int .i64 p] w fun e w' => e = .returned (.bool (fs p != 0)) ∧ w = w' := by
  obtain ⟨c0, c1, c2, f0, f1, f2⟩ := pcells h.1
  have b0 := h.2.1.cell (i := 0) (by omega)
  have e1 : (p : Int) / 512 = 0 := by omega
  have e2 : (p : Int) % 512 = p := by omega
  have t0 := ht.cell (i := p) (by omega)
  rw [show tf fs k p = .int .u32 (fs p) by unfold tf; rw [if_pos (by omega)]] at t0
  generalize fs p = fp at t0 ⊢
  go_enter Try.func39, Try.ntmps39
  go_wp2
  go_ret
  exact ⟨rfl, rfl⟩

theorem q_frame {w : World} {c b T : Nat} {m : Int} {fs : Nat → Int} {k : Int} (h : PM w c b m (some ⟨T, 0, none⟩)) (ht : w.rowIs T 79 513 (tf fs k)) (p : Nat) (hp : p < 9) (hf : 0 < fs p) (hf2 : fs p < 100) : Calls Try.prog 28 #[.pointer (some ⟨c, 0, none⟩), .int .i64 p] w fun e w' => e = .returned (.tuple #[.int .i64 (fs p - 1), .int .i64 0]) ∧ w = w' := by
  obtain ⟨c0, c1, c2, f0, f1, f2⟩ := pcells h.1
  have b0 := h.2.1.cell (i := 0) (by omega)
  have e1 : (p : Int) / 512 = 0 := by omega
  have e2 : (p : Int) % 512 = p := by omega
  have t0 := ht.cell (i := p) (by omega)
  rw [show tf fs k p = .int .u32 (fs p) by unfold tf; rw [if_pos (by omega)]] at t0
  have CH := Lib.hid (q_check h p hp)
  have MP := q_mapped h ht p hp
  rw [show (fs p != 0) = true by simp; omega] at MP
  generalize fs p = fp at *
  have MPH := Lib.hid MP
  clear MP
  go_enter Try.func28, Try.ntmps28
  go_wp2_with (first | (go_at_call 38; refine (CH.out).mono ?_; rintro e1 w1 ⟨rfl, rfl⟩) | (go_at_call 39; refine (MPH.out).mono ?_; rintro e1 w1 ⟨rfl, rfl⟩))
  go_ret2
  exact ⟨rfl, rfl⟩

theorem q_frame_none {w : World} {c b T : Nat} {m : Int} {fs : Nat → Int} {k : Int} (h : PM w c b m (some ⟨T, 0, none⟩)) (ht : w.rowIs T 79 513 (tf fs k)) (p : Nat) (hp : p < 9) (hf : fs p = 0) : Calls Try.prog 28 #[.pointer (some ⟨c, 0, none⟩), .int .i64 p] w fun e w' => e = .returned (.tuple #[.int .i64 0, .int .i64 12]) ∧ w = w' := by
  have CH := Lib.hid (q_check h p hp)
  have MP := q_mapped h ht p hp
  rw [show (fs p != 0) = false by simp; omega] at MP
  have MPH := Lib.hid MP
  clear MP
  go_enter Try.func28, Try.ntmps28
  go_wp2_with (first | (go_at_call 38; refine (CH.out).mono ?_; rintro e1 w1 ⟨rfl, rfl⟩) | (go_at_call 39; refine (MPH.out).mono ?_; rintro e1 w1 ⟨rfl, rfl⟩))
  go_ret2
  exact ⟨rfl, rfl⟩

/-- a second-level table with page p's frame, and no other -/
def SetPost (w : World) (c b : Nat) (p : Nat) (f : Int) (e : Ending) (w' : World) : Prop :=
  e = .returned (.tuple #[]) ∧ ∃ T, PM w' c b 1 (some ⟨T, 0, none⟩) ∧ w'.rowIs T 79 513 (tf (fun i => if i = p then f + 1 else 0) 1) ∧ T ≠ b ∧ T ≠ c ∧ w.heap.size ≤ T ∧ Fr (fun k => k = b ∨ k = c) w w'

theorem pblk_set {w : World} {b i : Nat} {c : Array Value} {t : TypeId} {fz : Nat × Nat} (h : w.heap[b]? = some (.cells c t fz)) (u : Value) : (w.setCell ⟨b, i, none⟩ u).heap[b]? = some (.cells (c.setIfInBounds i u) t fz) := by
  simp [World.setCell, Array.getElem?_modify, h]

theorem set_post {w : World} {c b : Nat} (h : PM w c b 0 none) (p : Nat) (f : Int) (hp : p < 9) :
    SetPost w c b p f (.returned (.tuple #[])) (((w.setCell ⟨b, 0, none⟩ (.pointer (some ⟨w.heap.size, 0, none⟩))).setCell ⟨c, 2, none⟩ (.int .i64 1)).alloc (.cells ((zCells.setIfInBounds p (.int .u32 (f + 1))).setIfInBounds 512 (.int .i64 1)) 79)) := by
  have hc := lt_of_block h.1
  have hb := h.2.1.lt
  have hbc := h.2.2
  have s2 : ((w.setCell ⟨b, 0, none⟩ (.pointer (some ⟨w.heap.size, 0, none⟩))).setCell ⟨c, 2, none⟩ (.int .i64 1)).heap.size = w.heap.size := by simp [World.setCell]
  have hcell : ∀ i, i < 513 → ((zCells.setIfInBounds p (.int .u32 (f + 1))).setIfInBounds 512 (.int .i64 1))[i]? = some (tf (fun i => if i = p then f + 1 else 0) 1 i) := by
    intro i hi
    unfold tf
    have hs := zSize
    by_cases e : i = 512
    · subst e; simp [hs]
    · have l : i < 512 := by omega
      rw [Array.getElem?_setIfInBounds_ne (show 512 ≠ i by omega)]
      by_cases e2 : i = p
      · subst e2
        simp [Array.getElem?_setIfInBounds, hs, l]
        omega
      · rw [Array.getElem?_setIfInBounds_ne (show p ≠ i by omega), zAt i l]
        simp [l, e2]
  have f1 : Fr (fun k => k = b ∨ k = c) w ((w.setCell ⟨b, 0, none⟩ (.pointer (some ⟨w.heap.size, 0, none⟩))).setCell ⟨c, 2, none⟩ (.int .i64 1)) :=
    ((Fr.refl (fun k => k = b ∨ k = c) w).setCell (p := ⟨b, 0, none⟩) (fun _ => .inl rfl) _).setCell (p := ⟨c, 2, none⟩) (fun _ => .inr rfl) _
  refine ⟨rfl, w.heap.size, ⟨?_, ?_, hbc⟩, ?_, by omega, by omega, Nat.le_refl _, f1.alloc _⟩
  · have e1 : (w.setCell ⟨b, 0, none⟩ (.pointer (some ⟨w.heap.size, 0, none⟩))).heap[c]? = _ := (Below.heap_setCell _ _ _ _ (by simpa using fun e => hbc e.symm)).trans h.1
    have e2 := pblk_set (i := 2) e1 (.int .i64 1)
    rw [Below.heap_alloc _ _ _ (by omega), e2]
    rfl
  · have e1 := h.2.1.set 0 (.pointer (some ⟨w.heap.size, 0, none⟩))
    have e2 := e1.of_block (w' := (w.setCell ⟨b, 0, none⟩ (.pointer (some ⟨w.heap.size, 0, none⟩))).setCell ⟨c, 2, none⟩ (.int .i64 1)) (Below.heap_setCell _ _ _ _ (by simpa using hbc))
    exact (e2.of_block (Below.heap_alloc _ _ _ (by omega))).congr (fun i hi => by rw [if_pos (by omega)])
  · have hn := heap_alloc_new ((w.setCell ⟨b, 0, none⟩ (.pointer (some ⟨w.heap.size, 0, none⟩))).setCell ⟨c, 2, none⟩ (.int .i64 1)) (.cells ((zCells.setIfInBounds p (.int .u32 (f + 1))).setIfInBounds 512 (.int .i64 1)) 79)
    rw [s2] at hn
    exact ⟨_, hn, by rw [Array.size_setIfInBounds, Array.size_setIfInBounds, zSize], hcell⟩

theorem q_set {w : World} {c b : Nat} (h : PM w c b 0 none) (p f : Nat) (hp : p < 9) (hf : f < 100) : Calls Try.prog 40 #[.pointer (some ⟨c, 0, none⟩), .int .i64 p, .int .i64 f] w (SetPost w c b p f) := by
  have hc := lt_of_block h.1
  have hb := h.2.1.lt
  have hbc := h.2.2
  have e1 : (p : Int) / 512 = 0 := by omega
  have e2 : (p : Int) % 512 = p := by omega
  have hz := zTab
  have hs := zSize
  have z0 := zAt p (by omega)
  have z1 := zLast
  have z2 : ∀ (v : Value) (h : 512 < (zCells.setIfInBounds p v).size), (zCells.setIfInBounds p v)[512] = .int .i64 0 := by
    intro v h
    rw [Array.getElem_setIfInBounds_ne (by simpa using h) (by omega)]
    have g := zLast
    rw [Array.getElem?_eq_getElem (by simpa using h)] at g
    exact Option.some.inj g
  have zr := zRow w
  -- the worlds
  have hA1 : (w.alloc (.cells zCells 79)).heap[c]? = some (.cells #[.slice (some ⟨b, 0, none⟩) 1 1, .int .i64 9, .int .i64 0] 70 (0, 0)) := (Below.heap_alloc _ _ _ hc).trans h.1
  have hA2 : (w.alloc (.cells zCells 79)).rowIs b 76 1 (fun _ => .pointer none) := h.2.1.of_block (Below.heap_alloc _ _ _ hb)
  obtain ⟨c0, c1, c2, f0, f1, f2⟩ := pcells hA1
  have b0 := hA2.cell (i := 0) (by omega)
  have g0 := hA2.frozen 0
  have t0 := zr.cell (i := p) (by omega)
  rw [show tf (fun _ => 0) 0 p = .int .u32 0 by unfold tf; rw [if_pos (by omega)]] at t0
  have t1 := zr.cell (i := 512) (by omega)
  rw [show tf (fun _ => 0) 0 512 = .int .i64 0 by unfold tf; rw [if_neg (by omega)]] at t1
  have tz0 := zr.frozen p
  have tz1 := zr.frozen 512
  have FIN := Lib.hid (set_post h p f hp)
  obtain ⟨d0, d1, d2, k0, k1, k2⟩ := pcells h.1
  have bb0 := h.2.1.cell (i := 0) (by omega)
  have u0 : ¬ c = b := fun e => hbc e.symm
  clear h hA1 hA2 zr
  obtain ⟨T, hT⟩ : ∃ T, w.heap.size = T := ⟨_, rfl⟩
  rw [hT] at hc hb t0 t1 tz0 tz1 FIN
  have u1 : ¬ T = b := by omega
  have u2 : ¬ T = c := by omega
  have u3 : ¬ b = T := by omega
  have u4 : ¬ c = T := by omega
  go_enter Try.func40, Try.ntmps40
  go_wp2_with fail
  refine bodyPost_end (results_none rfl _ _ _) rfl ?_
  exact FIN.out

end Go.Proofs.Ytpdnbkibnpkfbac
