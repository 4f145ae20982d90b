/- A vector of bits (layer 11): each word of a range, for any function. -/
import Derived.Test.YtaaapbfhedgnjaaDoorBvC
namespace Go.Proofs.YtaaapbfhedgnjaaDoor.BV
open Go.ChangeShapes Go.WideShapes Go.ChangeAt Go.RowKit

set_option maxRecDepth 100000 in
theorem bv_each {p : Nat} {v : Bits} (hv : v.ok) (F : FuncId) (eg : ∀ args w, (callFunc F args).run Tryd.prog w = .ok (.enter F args) w) (c1 c2 : Value) (x y : Int) (I : Nat → Asn) (f t : Nat) (hf : max x 0 = (f : Int)) (ht : min y v.n = (t : Int)) (hft : f < t)
    (hn : ∀ w0 S w, At (I (f / 64)) w0 S w → w.cell? ⟨p, 2, none⟩ = some (.int .i64 v.n))
    (T : ∀ k, f / 64 ≤ k → k ≤ (t - 1) / 64 → Tri1 Tryd.prog F #[.int .i64 k, .int .u64 (runN ((f : Int) - (k : Int) * 64) ((t : Int) - (k : Int) * 64) : Nat), c1, c2] (I k) (.tuple #[]) (I (k + 1))) :
    Tri1 Tryd.prog 49 #[.pointer (some ⟨p, 0, none⟩), .int .i64 x, .int .i64 y, .func (.func F) #[] #[c1, c2]] (I (f / 64)) (.tuple #[]) (I ((t - 1) / 64 + 1)) := by
  intro w S h
  have cn := hn _ _ _ (At.refl h)
  have A0 := Lib.hid (At.refl h)
  have n2 := hv.n2
  have htn : t ≤ v.n := by omega
  have q1 : (f : Int).tdiv 64 = ((f / 64 : Nat) : Int) := by rw [Int.tdiv_eq_ediv_of_nonneg (by omega)]; rfl
  have q2 : ((t : Int) - 1).tdiv 64 = (((t - 1) / 64 : Nat) : Int) := by rw [Int.tdiv_eq_ediv_of_nonneg (by omega)]; omega
  have q3 : IntKind.i64.wrap ((t : Int) - 1) = (t : Int) - 1 := IntWalk.i64_in _ (by omega)
  have TT := Lib.hid T
  have hft' : (f : Int) < (t : Int) := by omega
  have db : decide ((t : Int) ≤ (f : Int)) = false := by simp; omega
  have db2 : decide (t ≤ f) = false := by simp; omega
  have RUN := Lib.hid (fun a b w => run_any a b w)
  have le1 : f / 64 ≤ (t - 1) / 64 := by omega
  have le2 : (t - 1) / 64 ≤ 16384 := by omega
  have HF := Lib.hid hf
  clear h hn T hv hft htn
  go_enter Tryd.func49, Tryd.ntmps49
  go_wp2_with fail
  go_quiet (fail)
  have A1 := Lib.hid (A0.out.drewN nq)
  obtain ⟨wz, hwz⟩ : ∃ wz, w.drewN nq = wz := ⟨_, rfl⟩
  rw [hwz] at A1 ⊢
  clear hwz A0 cn
  go_wp2_with fail
  go_loopw [8] (fun i wr => ∃ (k : Nat), i = .int .i64 k ∧ f / 64 ≤ k ∧ k ≤ (t - 1) / 64 + 1 ∧ Hid (At (I k) w S wr)) (fun i _ => (t - 1) / 64 + 1 - (intOf i).toNat)
  case atStart => exact ⟨f / 64, rfl, Nat.le_refl _, by omega, A1⟩
  case round =>
    clear A1
    obtain ⟨k, rfl, hk0, hk, HA⟩ := hrel
    by_cases hlt : k ≤ (t - 1) / 64
    · have hltI : (k : Int) ≤ (((t - 1) / 64 : Nat) : Int) := by omega
      have C := Lib.hid (HA.out.tri0 (TT.out k hk0 hlt))
      have k3 : (k : Int) ≤ 16384 := by omega
      clear HA
      generalize hr : runN ((f : Int) - (k : Int) * 64) ((t : Int) - (k : Int) * 64) = R at *
      have RR := Lib.hid (RUN.out ((f : Int) - (k : Int) * 64) ((t : Int) - (k : Int) * 64) wr)
      rw [hr] at RR
      clear hr
      go_wp2_with (go_at_call 55; with_reducible refine RR.out.mono ?_; rintro e1 w1 ⟨rfl, rfl⟩)
      refine C.out.mono ?_
      rintro e w3 ⟨rfl, hA⟩
      have A2 := Lib.hid hA
      clear hA C
      go_wp2_with fail
      exact ⟨⟨k + 1, by go_num, by omega, by omega, A2⟩, by simp [intOf]; omega⟩
    · obtain rfl : k = (t - 1) / 64 + 1 := by omega
      have hltI : ¬ (((t - 1) / 64 + 1 : Nat) : Int) ≤ (((t - 1) / 64 : Nat) : Int) := by omega
      go_wp2_with fail
      go_end0
      exact ⟨rfl, HA.out⟩

theorem bv_each_none {p : Nat} {v : Bits} (hv : v.ok) (F : Value) (x y : Int) (h : min y v.n ≤ max x 0) (w0 w : World) (S : Nat → Prop) (hc : w.cell? ⟨p, 2, none⟩ = some (.int .i64 v.n)) :
    Calls Tryd.prog 49 #[.pointer (some ⟨p, 0, none⟩), .int .i64 x, .int .i64 y, F] w fun e w' => e = .returned (.tuple #[]) ∧ ∃ n, w' = w.drewN n := by
  have n2 := hv.n2
  clear hv
  go_enter Tryd.func49, Tryd.ntmps49
  go_wp2_with fail
  go_quiet (fail)
  go_wp2_with fail
  refine bodyPost_ret (v := .tuple #[]) (results_none rfl _ _ _) rfl ?_
  exact ⟨rfl, _, rfl⟩

end Go.Proofs.YtaaapbfhedgnjaaDoor.BV
