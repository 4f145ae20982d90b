/- A map of objects (layer 13): the iterator that All gives. -/
import Derived.Test.YtaaapbfhedgnjaaDoorEx2
import Derived.Test.YtaaapbfhedgnjaaDoorExN
import Derived.Test.YtaaapbfhedgnjaaDoorBvO
namespace Go.Proofs.YtaaapbfhedgnjaaDoor.BV
open Go.ChangeShapes Go.WideShapes Go.ChangeAt Go.RowKit Go.Shelf

attribute [local go_sem] Oper.semAt_some

/-- where the next search begins -/
def stq (pre : List (Nat × Nat)) : Nat := match pre.getLast? with | none => 0 | some x => x.1 + x.2
theorem stq_nil : stq [] = 0 := rfl
theorem stq_snoc (pre : List (Nat × Nat)) (x : Nat × Nat) : stq (pre ++ [x]) = x.1 + x.2 := by simp [stq]

structure ExRd (B c n : Nat) (s : (Nat → Nat) × Int) (w : World) : Prop where
  box : w.cell? ⟨B, 0, none⟩ = some (.pointer (some ⟨c, 0, none⟩))
  tab : Tab w
  ok : ExOk n s.1
  mp : ∃ p q w0 S C, At (exX c p q n s.1 s.2 * C) w0 S w

def ExFnd (n : Nat) (sz : Nat → Nat) (i x z : Nat) (b : Bool) : Prop := (b = true ∧ nxF (fst' sz) i (n - i) = some x ∧ z = sz x) ∨ (b = false ∧ nxF (fst' sz) i (n - i) = none)
def ExOkY (n : Nat) (s : (Nat → Nat) × Int) (pre : List (Nat × Nat)) (x : Nat × Nat) : Prop := nxF (fst' s.1) (stq pre) (n - stq pre) = some x.1 ∧ x.2 = s.1 x.1
def ExDn (n : Nat) (s : (Nat → Nat) × Int) (pre : List (Nat × Nat)) : Prop := nxF (fst' s.1) (stq pre) (n - stq pre) = none

theorem exo_next {B c n : Nat} {s : (Nat → Nat) × Int} {w : World} (h : ExRd B c n s w) (i : Nat) : ∃ (x z : Nat) (b : Bool), ExFnd n s.1 i x z b ∧ Calls Tryd.prog 34 #[.pointer (some ⟨c, 0, none⟩), .int .i64 i] w fun e w' => e = .returned (.tuple #[.int .i64 x, .int .i64 z, .bool b]) ∧ w = w' := by
  obtain ⟨p, q, w0, S, C, hA⟩ := h.mp
  have := ex_next h.ok (i : Int) h.tab hA
  unfold nxI at this
  rw [show (max (i : Int) 0).toNat = i by omega] at this
  cases hr : nxF (fst' s.1) i (n - i) with
  | none => rw [hr] at this; exact ⟨0, 0, false, .inr ⟨rfl, hr⟩, this⟩
  | some x => rw [hr] at this; exact ⟨x, s.1 x, true, .inl ⟨rfl, hr, rfl⟩, this⟩

/-- what is left of the walk -/
def msq (n : Nat) : Value → Value → Nat
  | .int _ k, .bool true => n - k.toNat + 1
  | _, _ => 0
theorem msq_t (n : Nat) (k : IntKind) (x : Nat) : msq n (.int k x) (.bool true) = n - x + 1 := rfl
theorem msq_f (n : Nat) (k : IntKind) (x : Int) : msq n (.int k x) (.bool false) = 0 := rfl
attribute [irreducible] msq

set_option maxRecDepth 100000 in
set_option maxHeartbeats 2000000 in
theorem all_iter {F : Fence} (hW : Wd F) (m B c n : Nat) (hn : n ≤ 1048576) (hm : 1 ≤ m) : IterC F m Tryd.prog 62 #[.pointer (some ⟨B, 0, none⟩)] (fun x : Nat × Nat => #[.int .i64 x.1, .int .i64 x.2]) (ExRd B c n) (ExOkY n) (ExDn n) := by
  intro l J Jx s0 W hRd hY h0
  have hro := hW.ro
  have hf1 := hW.fn 62
  have hf2 := hW.fn 34
  have R0 := hRd _ _ _ h0
  have b0 := R0.box
  obtain ⟨k0, y0, z0, F0, N0⟩ := exo_next R0 0
  rw [show ((0 : Nat) : Int) = 0 from rfl] at N0
  have N0 := Lib.hid (hW.cal (n := m - 1) N0)
  have F0 := Lib.hid F0
  refine callsIn_of_wp Tryd.func62 rfl hf1 ?_ hro
  simp only [Tryd.ntmps62, List.size_toArray, List.length_cons, List.length_nil, Nat.reduceAdd, Nat.reduceSub, Array.replicate_succ, Array.replicate_zero, List.push_toArray, List.append_toArray, List.nil_append, List.cons_append]
  clear R0
  gi_wp2_with (gi_at_call 34; with_reducible refine N0.out.mono ?_; rintro e1 w1 ⟨rfl, rfl⟩)
  clear N0 b0
  gi_loopw [3, 4, 5] (fun u v t wr => ∃ (s : (Nat → Nat) × Int) (pre : List (Nat × Nat)) (x z : Nat) (b : Bool), J s pre wr ∧ u = .int .i64 x ∧ v = .int .i64 z ∧ t = .bool b ∧ Hid (ExFnd n s.1 (stq pre) x z b)) (fun u _ t _ => msq n u t)
  case atStart => exact ⟨s0, [], k0, y0, z0, h0, rfl, rfl, rfl, F0⟩
  case round =>
    clear h0 F0
    obtain ⟨s, pre, x, z, b, hJ, rfl, rfl, rfl, HF⟩ := hrel
    rcases HF.out with ⟨rfl, hr, hz⟩ | ⟨rfl, hr⟩
    · obtain ⟨g1, g2, g3, _⟩ := nxF_lt hr
      have hz1 : 0 < z := by rw [hz]; exact fst_iff.1 g3
      have hfit := (hRd _ _ _ hJ).ok.s.fit x (by rw [← hz]; exact hz1)
      rw [← hz] at hfit
      have hY1 := hY s pre (x, z) wr hJ ⟨hr, hz⟩
      have hx : x < n := by omega
      have hxI : (x : Int) < 1048576 := by omega
      have hzI : (z : Int) ≤ 1048576 := by omega
      clear hr g1 g2 g3 hz hJ HF
      obtain ⟨fn, tmps, assign, body, hy, hR⟩ := hY1
      dsimp only at hy
      gi_wp2
      refine hR.mono ?_
      rintro e W3 (⟨rfl, s3, hJ3⟩ | ⟨rfl, hJx3⟩)
      · have R3 := hRd _ _ _ hJ3
        have b3 := R3.box
        obtain ⟨k3, y3, z3, F3, N3⟩ := exo_next R3 (x + z)
        rw [show ((x + z : Nat) : Int) = (x : Int) + (z : Int) by omega] at N3
        have N3 := Lib.hid (hW.cal (n := m - 1) N3)
        have F3 := Lib.hid F3
        clear R3 hy hR
        gi_wp2_with (gi_at_call 34; with_reducible refine N3.out.mono ?_; rintro e1 w1 ⟨rfl, rfl⟩)
        go_roundw
        case rel => exact ⟨s3, pre ++ [(x, z)], k3, y3, z3, hJ3, rfl, rfl, rfl, by rw [stq_snoc]; exact F3⟩
        case measure =>
          rcases F3.out with ⟨rfl, hr3, _⟩ | ⟨rfl, hr3⟩
          · obtain ⟨g1, g2, _, _⟩ := nxF_lt hr3
            rw [msq_t, msq_t]; omega
          · rw [msq_t, msq_f]; omega
      · gi_wp2
        refine bodyPost_ret (results_none rfl _ _ _) rfl ?_
        exact ⟨⟨_, rfl⟩, .inr hJx3⟩
    · gi_wp2
      go_end0
      exact ⟨⟨_, rfl⟩, .inl ⟨s, pre, hJ, hr⟩⟩

/-- of no map: nothing is yielded -/
theorem all_nil {F : Fence} (hW : Wd F) (m B : Nat) (hm : 1 ≤ m) : IterC F m Tryd.prog 62 #[.pointer (some ⟨B, 0, none⟩)] (fun x : Nat × Nat => #[.int .i64 x.1, .int .i64 x.2]) (fun (_ : Unit) w => w.cell? ⟨B, 0, none⟩ = some (.pointer none)) (fun _ _ _ => False) (fun _ _ => True) := by
  intro l J Jx s0 W hRd hY h0
  have hro := hW.ro
  have hf1 := hW.fn 62
  have hf2 := hW.fn 34
  have b0 := hRd _ _ _ h0
  have N0 := Lib.hid (hW.cal (n := m - 1) (en_next 0 W))
  refine callsIn_of_wp Tryd.func62 rfl hf1 ?_ hro
  simp only [Tryd.ntmps62, List.size_toArray, List.length_cons, List.length_nil, Nat.reduceAdd, Nat.reduceSub, Array.replicate_succ, Array.replicate_zero, List.push_toArray, List.append_toArray, List.nil_append, List.cons_append]
  gi_wp2_with (gi_at_call 34; with_reducible refine N0.out.mono ?_; rintro e1 w1 ⟨rfl, rfl⟩)
  refine wpIn_loop_rounds 1 ?_
  rw [roundsIn_succ]
  gi_wp2
  go_end0
  exact ⟨⟨_, rfl⟩, .inl ⟨s0, [], h0, trivial⟩⟩

end Go.Proofs.YtaaapbfhedgnjaaDoor.BV
