/- The document's pool of frames (layer 7): Load, Store. -/
import Derived.Test.YtpdnbkibnpkfbadFmX
import Derived.Deep.RegionWith
namespace Go.Proofs.Ytpdnbkibnpkfbad
open Go.ChangeShapes Go.WideShapes Go.ChangeAt Go.RowKit

theorem rp_load_none {c : Nat} {r : RS} (hL : r.L.length ≤ 1000000) (p j : Int) (hk : fix r.L p = -1) : Ask Try.prog 18 #[.pointer (some ⟨c, 0, none⟩), .int .i64 p, .int .i64 j] (rpA c r) (.tuple #[.int .u64 0, .int .i64 6]) := by
  intro w S h
  have A := rp_at hL p w S h
  rw [hk] at A
  have A := Lib.hid A
  clear h hk
  go_enter Try.func18, Try.ntmps18
  go_wp2_with (go_at_call 42; refine A.out.mono ?_; rintro e1 w1 ⟨rfl, rfl⟩)
  go_ret2
  exact ⟨rfl, rfl⟩

theorem rp_load_range {c : Nat} {r : RS} (hL : r.L.length ≤ 1000000) (p j : Int) (k : Nat) (hk : fix r.L p = k) (hj : j < 0 ∨ (r.page : Int) ≤ j) : Ask Try.prog 18 #[.pointer (some ⟨c, 0, none⟩), .int .i64 p, .int .i64 j] (rpA c r) (.tuple #[.int .u64 0, .int .i64 11]) := by
  intro w S h
  have A := rp_at hL p w S h
  rw [hk] at A
  have A := Lib.hid A
  obtain ⟨aL, cL, aB, cB, _, R⟩ := rp_open h
  have c1 := R.c1
  clear h hk R
  by_cases h0 : j < 0
  · clear hj
    go_enter Try.func18, Try.ntmps18
    go_wp2_with (go_at_call 42; refine A.out.mono ?_; rintro e1 w1 ⟨rfl, rfl⟩)
    go_ret2
    exact ⟨rfl, rfl⟩
  · have h1 : (r.page : Int) ≤ j := by omega
    clear hj
    go_enter Try.func18, Try.ntmps18
    go_wp2_with (go_at_call 42; refine A.out.mono ?_; rintro e1 w1 ⟨rfl, rfl⟩)
    go_ret2
    exact ⟨rfl, rfl⟩

theorem rp_load_ok {c : Nat} {r : RS} (hL : r.L.length ≤ 1000000) (hp : r.page ≤ 256) (p : Int) (j k : Nat) (hk : fix r.L p = k) (hkl : k < r.L.length) (hj : j < r.page) : Ask Try.prog 18 #[.pointer (some ⟨c, 0, none⟩), .int .i64 p, .int .i64 j] (rpA c r) (.tuple #[.int .u64 ((r.L.getD k fe0).g j), .int .i64 0]) := by
  intro w S h
  have A := rp_at hL p w S h
  rw [hk] at A
  have A := Lib.hid A
  obtain ⟨aL, cL, aB, cB, _, R⟩ := rp_open h
  have c1 := R.c1
  have c2 := R.c2
  obtain ⟨g, rfl, _, e1, hr⟩ := R.el k hkl
  have e2 := hr.cell hj
  have hltI : (k : Int) < (r.L.length : Int) := by omega
  have hjI : (j : Int) < (r.page : Int) := by omega
  generalize (r.L.getD k fe0).g j = u at *
  generalize (r.L.getD k fe0).b = b at *
  generalize r.L.length = n at *
  generalize r.page = pg at *
  clear h hk R hr
  go_enter Try.func18, Try.ntmps18
  go_wp2_with (go_at_call 42; refine A.out.mono ?_; rintro e1 w1 ⟨rfl, rfl⟩)
  go_ret2
  exact ⟨rfl, rfl⟩

/-- a word of the frame at place k is u now -/
def FE.put (e : FE) (j : Nat) (u : Int) : FE := { e with g := fun i => if i = j then u else e.g i }
def RS.put (r : RS) (k j : Nat) (u : Int) : RS := { r with L := r.L.set k ((r.L.getD k fe0).put j u) }

theorem ffl_set (pg : Nat) (L : List FE) (k j : Nat) (u : Int) (hk : k < L.length) : ffl pg (L.set k ((L.getD k fe0).put j u)) = ffl pg L := by
  induction L generalizing k with
  | nil => simp at hk
  | cons e r ih =>
    cases k with
    | zero => rfl
    | succ k =>
      show _ :: _ :: ffl pg (r.set k ((r.getD k fe0).put j u)) = _ :: _ :: ffl pg r
      rw [ih k (by simpa using hk)]

theorem rowsA_set (pg : Nat) (L : List FE) (k j : Nat) (u : Int) (hk : k < L.length) :
    rowsA pg (L.set k ((L.getD k fe0).put j u)) = row (L.getD k fe0).b 31 pg (fun i => if i = j then .int .u64 u else .int .u64 ((L.getD k fe0).g i)) * rowsA pg (L.take k ++ L.drop (k + 1)) := by
  rw [rowsA_at pg _ k (by rw [List.length_set]; exact hk)]
  have e : (L.set k ((L.getD k fe0).put j u)).getD k fe0 = (L.getD k fe0).put j u := by
    rw [List.getD_eq_getElem?_getD, List.getElem?_set_self hk]; rfl
  rw [e]
  have e2 : (L.set k ((L.getD k fe0).put j u)).take k ++ (L.set k ((L.getD k fe0).put j u)).drop (k + 1) = L.take k ++ L.drop (k + 1) := by
    rw [List.take_set_of_le (Nat.le_refl _), List.drop_set_of_lt (by omega)]
  rw [e2]
  congr 1
  show row (L.getD k fe0).b 31 pg (fun i => Value.int .u64 (if i = j then u else (L.getD k fe0).g i)) = _
  congr 1
  funext i
  split <;> rfl

theorem rp_put {w0 w : World} {S : Nat → Prop} {c : Nat} {r : RS} {vL vB : Value} (k j : Nat) (u : Int) (hk : k < r.L.length) (h : At (rpX c r vL vB) w0 S w) :
    At (rpA c (r.put k j u)) w0 S (w.setCell ⟨(r.L.getD k fe0).b, j, none⟩ (.int .u64 u)) := by
  refine rpA_of (vL := vL) (vB := vB) ?_
  have h1 := h.re (B := row (r.L.getD k fe0).b 31 r.page (fun i => .int .u64 ((r.L.getD k fe0).g i)) * (rowsA r.page (r.L.take k ++ r.L.drop (k + 1)) * (blk c (.cells (rpC r vL vB) 50 (0, 0)) * (own 79 2 vL r.L.length (ffl r.page r.L) * own 3 1 vB r.back.length (natL r.back))))) (by
    unfold rpX
    rw [rowsA_at r.page r.L k hk]
    ac_rfl)
  refine (h1.set_row j (.int .u64 u)).re ?_
  unfold rpX
  show _ = blk c (.cells (rpC r vL vB) 50 (0, 0)) * (own 79 2 vL (r.L.set k ((r.L.getD k fe0).put j u)).length (ffl r.page (r.L.set k ((r.L.getD k fe0).put j u))) * (own 3 1 vB r.back.length (natL r.back) * rowsA r.page (r.L.set k ((r.L.getD k fe0).put j u))))
  rw [List.length_set, ffl_set r.page r.L k j u hk, rowsA_set r.page r.L k j u hk]
  ac_rfl

theorem rp_store_none {c : Nat} {r : RS} (hL : r.L.length ≤ 1000000) (p j u : Int) (hk : fix r.L p = -1) : Ask Try.prog 16 #[.pointer (some ⟨c, 0, none⟩), .int .i64 p, .int .i64 j, .int .u64 u] (rpA c r) (.int .i64 6) := by
  intro w S h
  have A := Lib.hid (rp_load_none hL p j hk w S h)
  clear h hk
  go_enter Try.func16, Try.ntmps16
  go_wp2_with (go_at_call 18; refine A.out.mono ?_; rintro e1 w1 ⟨rfl, rfl⟩)
  go_ret
  exact ⟨rfl, rfl⟩

theorem rp_store_range {c : Nat} {r : RS} (hL : r.L.length ≤ 1000000) (p j u : Int) (k : Nat) (hk : fix r.L p = k) (hj : j < 0 ∨ (r.page : Int) ≤ j) : Ask Try.prog 16 #[.pointer (some ⟨c, 0, none⟩), .int .i64 p, .int .i64 j, .int .u64 u] (rpA c r) (.int .i64 11) := by
  intro w S h
  have A := Lib.hid (rp_load_range hL p j k hk hj w S h)
  clear h hk hj
  go_enter Try.func16, Try.ntmps16
  go_wp2_with (go_at_call 18; refine A.out.mono ?_; rintro e1 w1 ⟨rfl, rfl⟩)
  go_ret
  exact ⟨rfl, rfl⟩

set_option maxRecDepth 100000 in
theorem rp_store_ok {c : Nat} {r : RS} (hL : r.L.length ≤ 1000000) (hp : r.page ≤ 256) (p : Int) (j k : Nat) (u : Int) (hk : fix r.L p = k) (hkl : k < r.L.length) (hj : j < r.page) : Tri1 Try.prog 16 #[.pointer (some ⟨c, 0, none⟩), .int .i64 p, .int .i64 j, .int .u64 u] (rpA c r) (.int .i64 0) (rpA c (r.put k j u)) := by
  intro w S h
  have LD := Lib.hid (rp_load_ok hL hp p j k hk hkl hj w S h)
  have A := fun m => rp_at hL p (w.drewN m) S ((rpA c r).keep (w' := w.drewN m) h (fun _ _ => rfl))
  rw [hk] at A
  have A := Lib.hid A
  obtain ⟨aL, cL, aB, cB, hX, R⟩ := rp_open h
  have c2 := R.c2
  obtain ⟨g, rfl, _, e1, hr⟩ := R.el k hkl
  have e2 := hr.cell hj
  have ef := hr.frozen j
  have hltI : (k : Int) < (r.L.length : Int) := by omega
  have hjI : (j : Int) < (r.page : Int) := by omega
  have FIN := Lib.hid (fun m => rp_put k j u hkl (hX.drewN m))
  generalize rpA c (r.put k j u) = AA at *
  generalize (r.L.getD k fe0).g j = u0 at *
  generalize (r.L.getD k fe0).b = b at *
  generalize r.L.length = n at *
  generalize r.page = pg at *
  clear h hk R hr hX
  go_enter Try.func16, Try.ntmps16
  go_wp2_with (go_at_call 18; refine LD.out.mono ?_; rintro e1 w1 ⟨rfl, rfl⟩)
  go_region_with (go_at_call 42; refine (A.out 1).mono ?_; rintro e1 w1 ⟨rfl, rfl⟩)
  all_goals go_wp2
  all_goals go_ret
  all_goals exact ⟨rfl, FIN.out 1⟩

end Go.Proofs.Ytpdnbkibnpkfbad
