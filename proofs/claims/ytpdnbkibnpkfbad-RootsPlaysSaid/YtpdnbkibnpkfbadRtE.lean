/- The table of root slots: Turn. -/
import Derived.Test.YtpdnbkibnpkfbadRtD
import Derived.Deep.RegionWith
import Derived.StillTailTactics
namespace Go.Proofs.Ytpdnbkibnpkfbad
open Go.ChangeShapes Go.WideShapes Go.ChangeAt Go.RowKit

/-- the numbers behind a turn, after k of them -/
def turnF (B : Int) (xs : Nat → Int) (k : Nat) : Nat → Int := fun i => if i < k then (if xs i = 0 then 0 else max (turnedV (xs i) B) 0) else xs i

theorem turnF_zero (B : Int) (xs : Nat → Int) : turnF B xs 0 = xs := by funext i; simp [turnF]
theorem turnF_at (B : Int) (xs : Nat → Int) (k : Nat) : turnF B xs k k = xs k := by simp [turnF]
theorem turnF_put (B : Int) (xs : Nat → Int) (k : Nat) (h : xs k ≠ 0) : put (turnF B xs k) k (max (turnedV (xs k) B) 0) = turnF B xs (k + 1) := by
  funext i
  unfold put turnF
  by_cases e : i = k
  · subst e; simp [h]
  · by_cases l : i < k
    · simp [e, l, show i < k + 1 by omega]
    · simp [e, l, show ¬ i < k + 1 by omega]
theorem turnF_skip (B : Int) (xs : Nat → Int) (k : Nat) (h : xs k = 0) : turnF B xs k = turnF B xs (k + 1) := by
  funext i
  unfold turnF
  by_cases e : i = k
  · subst e; simp [h]
  · by_cases l : i < k
    · simp [l, show i < k + 1 by omega]
    · simp [l, show ¬ i < k + 1 by omega]

theorem turnedV_bd (a b : Int) : -99 ≤ turnedV a b ∧ turnedV a b ≤ 12884901885 := by unfold turnedV; omega

theorem clo_any (x : Nat) (B a : Int) (w : World) (hx : w.cell? ⟨x, 2, none⟩ = some (.int .i64 B)) : Calls Try.prog 31 #[.int .i64 a, .pointer (some ⟨x, 0, none⟩)] w fun e w' => e = .returned (.int .i64 (turnedV a B)) ∧ ∃ m, w' = w.drewN m := by
  go_enter Try.func31, Try.ntmps31
  go_wp2_with (go_at_call 32; refine (turned_any _ _ _).mono ?_; rintro e1 w1 ⟨rfl, rfl⟩)
  go_ret
  exact ⟨rfl, 0, rfl⟩


theorem run_eql_func2 (w : World) (k : Nat) (x y : Array Value) : (binOp BinOp.eql 39 (Value.func (Fn.func k) x y) Value.nilFunc).run Try.prog w = .ok (.bool false) w := run_eql_func w k x y

set_option maxHeartbeats 8000000 in
theorem turn_any {w : World} {c b n x : Nat} {xs : Nat → Int} {v0 v1 : Value} {B : Int} {ty : TypeId} {fz : Nat × Nat} (h : Rt w c b n xs) (hn : n ≤ 64) (hx : w.heap[x]? = some (.cells #[v0, v1, .int .i64 B] ty fz)) (hxb : x ≠ b) :
    Calls Try.prog 30 #[.pointer (some ⟨c, 0, none⟩), .func (.func 31) #[] #[.pointer (some ⟨x, 0, none⟩)]] w fun e w' => e = .returned (.tuple #[]) ∧ Rt w' c b n (turnF B xs n) ∧ Fr (fun k => k = b) w w' := by
  have LN := fun w (h : Rt w c b n xs) => len_any h
  have hxlt := lt_of_block hx
  go_enter Try.func30, Try.ntmps30
  go_wp2_with fail
  simp only [run_eql_func]
  go_wp2_with (go_at_call 37; refine (len_any h).mono ?_; rintro e1 w1 ⟨rfl, m1, rfl⟩)
  go_loopw [9] (fun i wr => ∃ k : Nat, k ≤ n ∧ i = .int .i64 k ∧ Rt wr c b n (turnF B xs k) ∧ Fr (fun k => k = b) w wr) (fun i _ => n - (intOf i).toNat)
  case atStart => exact ⟨0, by omega, rfl, by rw [turnF_zero]; exact h.drewN _, (Fr.refl _ w).drewN _⟩
  case round =>
    obtain ⟨k, hk, rfl, hr, hf⟩ := hrel
    obtain ⟨c0, f0⟩ := cells1 hr.1
    by_cases hlt : k < n
    · have d0 := hr.2.1.cell hlt
      rw [turnF_at] at d0
      have g0 := hr.2.1.frozen k
      have hb : wr.heap[x]? = _ := (hf.block x hxlt hxb).trans hx
      have x0 : wr.cell? ⟨x, 2, none⟩ = some (.int .i64 B) := by simp [World.cell?, hb]
      by_cases hz : xs k = 0
      · rw [hz] at d0
        have NX := Lib.hid (turnF_skip B xs k hz)
        have HR := Lib.hid hr
        have HF := Lib.hid hf
        clear hr hf hb hx h
        go_wp2
        case roundEnd => exact ⟨⟨k + 1, by omega, by go_num, by rw [← NX.out]; exact HR.out, HF.out⟩, by simp [intOf]; omega⟩
      · have bd := turnedV_bd (xs k) B
        have NX := Lib.hid (turnF_put B xs k hz)
        have CL := fun (q : Nat) => clo_any x B (xs k) (wr.drewN q) x0
        have CLO := Lib.hid CL
        have HR := Lib.hid hr
        have HF := Lib.hid hf
        clear hr hf hb hx h CL
        generalize turnedV (xs k) B = tv at *
        generalize xs k = xk at *
        have FIN : Hid (∀ q, Rt ((wr.drewN q).setCell ⟨b, k, none⟩ (.int .i64 (max tv 0))) c b n (turnF B xs (k + 1)) ∧ Fr (fun k => k = b) w ((wr.drewN q).setCell ⟨b, k, none⟩ (.int .i64 (max tv 0)))) := fun q =>
          ⟨by have := (HR.out.drewN q).set k (max tv 0); rwa [NX.out] at this, (HF.out.drewN q).setCell (fun _ => rfl) _⟩
        clear HR HF NX
        go_wp2
        go_region_with (go_at_call 31; refine (CLO.out _).mono ?_; rintro e1 w1 ⟨rfl, m1, rfl⟩)
        all_goals go_wp2
        all_goals exact ⟨⟨k + 1, by omega, by go_num, (FIN.out _).1, (FIN.out _).2⟩, by simp [intOf]; omega⟩
    · obtain rfl : k = n := by omega
      have HR := Lib.hid hr
      have HF := Lib.hid hf
      clear hr hf hx h
      go_wp2
      refine bodyPost_end (results_none rfl _ _ _) rfl ?_
      exact ⟨rfl, HR.out, HF.out⟩
end Go.Proofs.Ytpdnbkibnpkfbad
