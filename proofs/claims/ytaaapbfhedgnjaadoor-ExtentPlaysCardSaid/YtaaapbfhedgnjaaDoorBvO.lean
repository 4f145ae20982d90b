/- A vector of bits (layer 11): the iterator that Ones gives. -/
import Derived.Test.YtaaapbfhedgnjaaDoorBvOn
import Derived.Test.YtaaapbfhedgnjaaDoorBvLt
import Derived.Test.YtaaapbfhedgnjaaDoorRfL
import Derived.RangeFuncLeaves
import Derived.Shelf.Abstract
import Derived.Shelf.RegionOpen
import Derived.WalkKit
import Derived.OwnWalkIn
import Derived.TacticsInMore
import Derived.LoopNIn
import Derived.LoopIn
namespace Go.Proofs.YtaaapbfhedgnjaaDoor.BV
open Go.ChangeShapes Go.WideShapes Go.ChangeAt Go.RowKit Go.Shelf

attribute [local go_sem] Oper.semAt_some

/-- where the next search begins -/
def stp (pre : List Nat) : Nat := match pre.getLast? with | none => 0 | some x => x + 1
theorem stp_nil : stp [] = 0 := rfl
theorem stp_snoc (pre : List Nat) (x : Nat) : stp (pre ++ [x]) = x + 1 := by simp [stp]

/-- what is left of the walk -/
def msr (n : Nat) : Value → Value → Nat
  | .int _ k, .bool true => n - k.toNat + 1
  | _, _ => 0
theorem msr_t (n : Nat) (k : IntKind) (x : Nat) : msr n (.int k x) (.bool true) = n - x + 1 := rfl
theorem msr_f (n : Nat) (k : IntKind) (x : Int) : msr n (.int k x) (.bool false) = 0 := rfl
attribute [irreducible] msr

structure OnRd (B p n : Nat) (s : Bits) (w : World) : Prop where
  box : w.cell? ⟨B, 0, none⟩ = some (.pointer (some ⟨p, 0, none⟩))
  tab : Tab w
  ok : s.ok
  n : s.n = n
  vec : ∃ S, (bvA p s).holds w S

def OnOk (n : Nat) (s : Bits) (pre : List Nat) (x : Nat) : Prop := nxF s.b (stp pre) (n - stp pre) = some x
def OnDn (n : Nat) (s : Bits) (pre : List Nat) : Prop := nxF s.b (stp pre) (n - stp pre) = none

theorem nxF_lt {p : Nat → Bool} {m i x : Nat} (h : nxF p i m = some x) : i ≤ x ∧ x < i + m ∧ p x = true ∧ ∀ k, i ≤ k → k < x → p k = false := by
  rcases nxF_is (p := p) m i with ⟨e, _⟩ | ⟨r, e, h1, h2, h3, h4⟩
  · rw [e] at h; cases h
  · rw [e] at h; cases h; exact ⟨h1, h2, h3, h4⟩

def Fnd (n : Nat) (s : Bits) (i k : Nat) (b : Bool) : Prop := (b = true ∧ nxF s.b i (n - i) = some k) ∨ (b = false ∧ nxF s.b i (n - i) = none)

theorem on_next {B p n : Nat} {s : Bits} {w : World} (h : OnRd B p n s w) (i : Nat) : ∃ (k : Nat) (b : Bool), Fnd n s i k b ∧ Calls Tryd.prog 61 #[.pointer (some ⟨p, 0, none⟩), .int .i64 i] w fun e w' => e = .returned (.tuple #[.int .i64 k, .bool b]) ∧ w = w' := by
  obtain ⟨S, hS⟩ := h.vec
  have := bv_next h.ok (i : Int) w h.tab S hS
  rw [show (max (i : Int) 0).toNat = i by omega, h.n] at this
  cases hr : nxF s.b i (n - i) with
  | none => rw [hr] at this; exact ⟨0, false, .inr ⟨rfl, hr⟩, this⟩
  | some x => rw [hr] at this; exact ⟨x, true, .inl ⟨rfl, hr⟩, this⟩

set_option maxRecDepth 100000 in
set_option maxHeartbeats 2000000 in
theorem ones_iter {F : Fence} (hW : Wd F) (m B p n : Nat) (hn : n ≤ 1048576) (hm : 1 ≤ m) : IterC F m Tryd.prog 65 #[.pointer (some ⟨B, 0, none⟩)] (fun x : Nat => #[.int .i64 x]) (OnRd B p n) (OnOk n) (OnDn n) := by
  intro l J Jx s0 W hRd hY h0
  have hro := hW.ro
  have hf1 := hW.fn 65
  have hf2 := hW.fn 61
  have R0 := hRd _ _ _ h0
  have b0 := R0.box
  obtain ⟨k0, z0, F0, N0⟩ := on_next R0 0
  have N0 := Lib.hid (hW.cal (n := m - 1) N0)
  have F0 := Lib.hid F0
  refine callsIn_of_wp Tryd.func65 rfl hf1 ?_ hro
  simp only [Tryd.ntmps65, List.size_toArray, List.length_cons, List.length_nil, Nat.reduceAdd, Nat.reduceSub, Array.replicate_succ, Array.replicate_zero, List.push_toArray, List.append_toArray, List.nil_append, List.cons_append]
  clear R0
  gi_wp2_with (gi_at_call 61; refine N0.out.mono ?_; rintro e1 w1 ⟨rfl, rfl⟩)
  clear N0 b0
  gi_loopw [3, 4] (fun u z wr => ∃ (s : Bits) (pre : List Nat) (k : Nat) (b : Bool), J s pre wr ∧ u = .int .i64 k ∧ z = .bool b ∧ Hid (Fnd n s (stp pre) k b)) (fun u z _ => msr n u z)
  case atStart => exact ⟨s0, [], k0, z0, h0, rfl, rfl, F0⟩
  case round =>
    clear h0 F0
    obtain ⟨s, pre, x, b, hJ, rfl, rfl, HF⟩ := hrel
    rcases HF.out with ⟨rfl, hr⟩ | ⟨rfl, hr⟩
    · obtain ⟨g1, g2, _, _⟩ := nxF_lt hr
      have hY1 := hY s pre x wr hJ hr
      have hx : x < n := by omega
      have hxI : (x : Int) < 1048576 := by omega
      clear hr g1 g2 hJ HF
      obtain ⟨fn, tmps, assign, body, hy, hR⟩ := hY1
      gi_wp2
      refine hR.mono ?_
      rintro e W3 (⟨rfl, s3, hJ3⟩ | ⟨rfl, hJx3⟩)
      · have R3 := hRd _ _ _ hJ3
        have b3 := R3.box
        obtain ⟨k3, z3, F3, N3⟩ := on_next R3 (x + 1)
        rw [show ((x + 1 : Nat) : Int) = (x : Int) + 1 by omega] at N3
        have N3 := Lib.hid (hW.cal (n := m - 1) N3)
        have F3 := Lib.hid F3
        clear R3 hy hR
        gi_wp2_with (gi_at_call 61; refine N3.out.mono ?_; rintro e1 w1 ⟨rfl, rfl⟩)
        go_roundw
        case rel => exact ⟨s3, pre ++ [x], k3, z3, hJ3, rfl, rfl, by rw [stp_snoc]; exact F3⟩
        case measure =>
          rcases F3.out with ⟨rfl, hr3⟩ | ⟨rfl, hr3⟩
          · obtain ⟨g1, g2, _, _⟩ := nxF_lt hr3
            rw [msr_t, msr_t]; omega
          · rw [msr_t, msr_f]; omega
      · gi_wp2
        refine bodyPost_ret (results_none rfl _ _ _) rfl ?_
        exact ⟨⟨_, rfl⟩, .inr hJx3⟩
    · gi_wp2
      go_end0
      exact ⟨⟨_, rfl⟩, .inl ⟨s, pre, hJ, hr⟩⟩

end Go.Proofs.YtaaapbfhedgnjaaDoor.BV
