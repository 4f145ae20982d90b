/- A map of objects (layer 13): the example. -/
import Derived.Test.YtaaapbfhedgnjaaDoorExK
import Derived.Test.YtaaapbfhedgnjaaDoorExY
namespace Go.Proofs.YtaaapbfhedgnjaaDoor.BV
open Go.ChangeShapes Go.WideShapes Go.ChangeAt Go.RowKit

def z1 : Nat → Nat := putZ (fun _ => 0) 3 3
def z2 : Nat → Nat := putZ z1 6 1

theorem xl1 : liveB 10 (fun _ => 0) 3 3 = false := by decide +kernel
theorem xl2 : liveB 10 z1 6 1 = false := by decide +kernel
theorem xl3 : liveB 10 z2 5 1 = true := by decide +kernel
theorem xl4 : exV z2 (fdI 10 z2 5) = .tuple #[.int .i64 3, .int .i64 3, .bool true] := by rw [show fdI 10 z2 5 = some 3 by decide +kernel]; rfl
theorem xl5 : wdF z2 10 (10 + 1) 0 3 = some 6 := by decide +kernel
theorem xl6 : cp (lvR z2 4 7) 10 = 3 := by decide +kernel

set_option maxRecDepth 100000 in
set_option maxHeartbeats 2000000 in
theorem elives (w : World) (hT : Tab w) : Calls Tryd.prog 25 #[] w fun e w' => e = .returned (.bool true) ∧ Below w.heap.size w w' := by
  have N := Lib.hid ((At.emp w).trix (ex_new_ok 10 (by omega) (by omega)))
  have HT := Lib.hid (fun (A : Asn) (W : World) (h : At A w (fun _ => False) W) => At.tabB hT h)
  have o0 := ex_zero 10 (by omega) (by omega)
  have A1 : Hid (∀ c p q w', At (exX c p q 10 (fun _ => 0) 0 * pur True) w (fun _ => False) w' → Calls Tryd.prog 30 #[.pointer (some ⟨c, 0, none⟩), .int .i64 3, .int .i64 3] w' fun e w2 => e = .returned (.int .i64 0) ∧ ExOk 10 z1 ∧ At (exX c p q 10 z1 1 * pur True) w (fun _ => False) w2) := Lib.hid fun c p q w' h => by
    refine (ex_add_in o0 3 3 (by omega) (by omega) (by omega) (HT.out _ _ h) h).mono ?_
    rintro e w2 (⟨g, _⟩ | ⟨_, rfl, o1, hA⟩)
    · rw [xl1] at g; cases g
    · exact ⟨rfl, o1, hA⟩
  have A2 : Hid (ExOk 10 z1 → ∀ c p q w', At (exX c p q 10 z1 1 * pur True) w (fun _ => False) w' → Calls Tryd.prog 30 #[.pointer (some ⟨c, 0, none⟩), .int .i64 6, .int .i64 1] w' fun e w2 => e = .returned (.int .i64 0) ∧ ExOk 10 z2 ∧ At (exX c p q 10 z2 2 * pur True) w (fun _ => False) w2) := Lib.hid fun o1 c p q w' h => by
    refine (ex_add_in o1 6 1 (by omega) (by omega) (by omega) (HT.out _ _ h) h).mono ?_
    rintro e w2 (⟨g, _⟩ | ⟨_, rfl, o2, hA⟩)
    · rw [xl2] at g; cases g
    · exact ⟨rfl, o2, hA⟩
  have A3 : Hid (ExOk 10 z2 → ∀ c p q w', At (exX c p q 10 z2 2 * pur True) w (fun _ => False) w' → Calls Tryd.prog 30 #[.pointer (some ⟨c, 0, none⟩), .int .i64 5, .int .i64 1] w' fun e w2 => e = .returned (.int .i64 7) ∧ At (exX c p q 10 z2 2 * pur True) w (fun _ => False) w2) := Lib.hid fun o2 c p q w' h => by
    refine (ex_add_in o2 5 1 (by omega) (by omega) (by omega) (HT.out _ _ h) h).mono ?_
    rintro e w2 (⟨_, rfl, hA⟩ | ⟨g, _⟩)
    · exact ⟨rfl, hA⟩
    · rw [xl3] at g; cases g
  have A4 : Hid (ExOk 10 z2 → ∀ c p q w', At (exX c p q 10 z2 2 * pur True) w (fun _ => False) w' → (Calls Tryd.prog 31 #[.pointer (some ⟨c, 0, none⟩), .int .i64 5] w' fun e w2 => e = .returned (.tuple #[.int .i64 3, .int .i64 3, .bool true]) ∧ w' = w2) ∧
      (Calls Tryd.prog 36 #[.pointer (some ⟨c, 0, none⟩), .int .i64 3] w' fun e w2 => e = .returned (.tuple #[.int .i64 6, .bool true]) ∧ At (exX c p q 10 z2 2 * pur True) w (fun _ => False) w2) ∧
      (Calls Tryd.prog 38 #[.pointer (some ⟨c, 0, none⟩), .int .i64 4, .int .i64 7] w' fun e w2 => e = .returned (.int .i64 3) ∧ w' = w2)) := Lib.hid fun o2 c p q w' h => by
    have f := ex_find o2 5 (HT.out _ _ h) h
    rw [xl4] at f
    have wd := callsIn_wide.1 (word_in Wd.wide o2 HT.out 3 (by omega) h)
    rw [xl5] at wd
    have l := ex_live_some o2 4 7 4 7 (by decide) (by decide) (by omega) (HT.out _ _ h) h
    rw [xl6] at l
    exact ⟨f, wd, l⟩
  have AO := Lib.hid (fun w' c (h : At (exA c 10 (fun _ => 0) 0) w (fun _ => False) w') => ex_open h)
  clear hT o0
  go_enter Tryd.func25, Tryd.ntmps25
  go_wp2_with fail
  refine N.out.mono ?_
  rintro e w1 ⟨c, rfl, a1⟩
  obtain ⟨p, q, a1⟩ := AO.out _ _ a1
  have B1 := Lib.hid (A1.out c p q _ a1)
  clear N a1 A1 AO
  go_wp2_with fail
  refine B1.out.mono ?_
  rintro e w2 ⟨rfl, o1, a1⟩
  have B1 := Lib.hid (A2.out o1 c p q _ a1)
  clear a1 A2 o1
  go_wp2_with fail
  refine B1.out.mono ?_
  rintro e w3 ⟨rfl, o2, a1⟩
  have B1 := Lib.hid (A3.out o2 c p q _ a1)
  have O2 := Lib.hid o2
  clear a1 A3 o2
  go_wp2_with fail
  refine B1.out.mono ?_
  rintro e w4 ⟨rfl, a1⟩
  obtain ⟨f, wd, _⟩ := A4.out O2.out c p q _ a1
  have f := Lib.hid f
  have wd := Lib.hid wd
  clear a1 B1
  go_wp2_with (go_at_call 31; with_reducible refine f.out.mono ?_; rintro e1 w5 ⟨rfl, rfl⟩)
  refine wd.out.mono ?_
  rintro e w6 ⟨rfl, a1⟩
  obtain ⟨_, _, l⟩ := A4.out O2.out c p q _ a1
  have l := Lib.hid l
  have B := Lib.hid a1.below
  clear a1 A4 wd f
  go_wp2_with (go_at_call 38; with_reducible refine l.out.mono ?_; rintro e1 w5 ⟨rfl, rfl⟩)
  go_ret
  exact ⟨rfl, B.out⟩

end Go.Proofs.YtaaapbfhedgnjaaDoor.BV
