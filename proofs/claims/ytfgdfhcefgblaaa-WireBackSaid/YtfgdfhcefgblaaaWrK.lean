/- The writer (layer 5): Done, the example. -/
import Derived.Test.YtfgdfhcefgblaaaWrN
namespace Go.Proofs.Ytfgdfhcefgblaaa
open Go.ChangeShapes Go.WideShapes Go.ChangeAt Go.RowKit

theorem bytes_of_row {w : World} {B n cap g : Nat} {e : TypeId} {l : List UInt8} (h : w.ownsRow B e 1 (.slice (some ⟨g, 0, none⟩) n cap) n (l.map fun b => Value.int .u8 b.toNat)) : ∀ j (hj : j < l.length), w.cell? ((⟨g, 0, none⟩ : Addr).add j) = some (.int .u8 (l[j].toNat : Int)) := by
  intro j hj
  exact h.cells (g := g) rfl j _ (by simp [hj])

theorem own_str {w : World} {B n cap : Nat} {e : TypeId} {a : Option Addr} {l : List UInt8} (hn : 0 < n) (hl : l.length = n) (h : w.ownsRow B e 1 (.slice a n cap) n (byV l)) (src dst : TypeId) {P : Program} (hs : P.underlying src = some (.slice e)) (he : P.underlying e = some (.int .u8)) (hd : P.underlying dst = some .string) :
    (convert src dst (.slice a n cap)).run P w = .ok (.string ⟨l.toArray⟩) w := by
  subst hl
  rcases h.2 with ⟨hv, hx⟩ | ⟨g, cap', cur, hv, _⟩
  · simp only [Value.slice.injEq] at hv; omega
  · simp only [Value.slice.injEq, true_and] at hv
    obtain ⟨rfl, rfl⟩ := hv
    exact run_convert_bytes_back w src dst e ⟨g, 0, none⟩ cap l hs he hd (bytes_of_row h)

theorem wr_done {p : Nat} {bs : List UInt8} (hb : 0 < bs.length) : Ask Try.prog 20 #[.pointer (some ⟨p, 0, none⟩)] (wrA p bs false) (.tuple #[.string ⟨bs.toArray⟩, .int .i64 0]) := by
  intro w S h
  obtain ⟨a, cap, hX⟩ := wr_open (At.refl h)
  obtain ⟨c0, c1, cf⟩ := wr_cells hX
  have hcv := own_str hb rfl (wr_own hX) 22 9 (P := Try.prog) Try.underlying22 Try.underlying5 Try.underlying9
  clear hX h
  go_enter Try.func20, Try.ntmps20
  go_wp2
  go_ret2
  exact ⟨rfl, rfl⟩

theorem wlives (w : World) : Calls Try.prog 5 #[] w fun e w' => e = .returned (.bool true) ∧ Below w.heap.size w w' := by
  have E := Lib.hid (At.emp w)
  have N1 := fun p => wr_num (p := p) (bs := []) (lg := false) 300 (by omega) (by simp)
  have e1 : ([] : List UInt8) ++ leb 300 = [172, 2] := by rw [leb_big (by omega), leb_small (by omega)]; rfl
  have N2 := fun p => wr_int (p := p) (bs := [172, 2]) (lg := false) (-1) (by omega) (by omega) (by simp)
  have e2 : [172, 2] ++ leb (if (0 : Int) ≤ -1 then (2 * (-1 : Int)).toNat else (-2 * (-1 : Int) - 1).toNat) = [172, 2, 1] := by
    rw [if_neg (by omega), show (-2 * (-1 : Int) - 1).toNat = 1 by decide, leb_small (by omega)]; rfl
  rw [e1] at N1
  rw [e2] at N2
  have H1 : ∀ p, Tri1 Try.prog 21 #[.pointer (some ⟨p, 0, none⟩), .int .u64 300] (wrA p [] false) (.tuple #[]) (wrA p [172, 2] false) := N1
  have N1 := Lib.hid H1
  have N2 := Lib.hid N2
  have D := Lib.hid (fun p => wr_done (p := p) (bs := [172, 2, 1]) (by simp))
  clear e1 e2 H1
  go_enter Try.func5, Try.ntmps5
  go_wp2_with fail
  refine (E.out.trix wr_new).mono ?_
  rintro e w1 ⟨p, rfl, a1⟩
  have A1 := Lib.hid (a1.tri0 (N1.out p))
  clear a1
  go_wp2_with fail
  refine A1.out.mono ?_
  rintro e w2 ⟨rfl, a2⟩
  have A2 := Lib.hid (a2.tri0 (N2.out p))
  clear a2 A1
  go_wp2_with fail
  refine A2.out.mono ?_
  rintro e w3 ⟨rfl, a3⟩
  have A3 := Lib.hid (a3.ask1 (D.out p))
  have B := Lib.hid a3.below
  clear a3 A2
  go_wp2_with fail
  refine A3.out.mono ?_
  rintro e w4 ⟨rfl, rfl⟩
  go_wp2
  go_ret
  exact ⟨rfl, B.out⟩

end Go.Proofs.Ytfgdfhcefgblaaa
