/- The document's pool of frames (layer 7) in memory. -/
import Derived.Test.YtpdnbkibnpkfbadFmI
import Derived.Maps.AppendAt
namespace Go.Proofs.Ytpdnbkibnpkfbad
open Go.ChangeShapes Go.WideShapes Go.ChangeAt Go.RowKit

/-- a frame of the document's: its number, the block of its words, its words -/
structure FE where
  f : Nat
  b : Nat
  g : Nat → Int

def fe0 : FE := ⟨0, 0, fun _ => 0⟩

def ffl (pg : Nat) : List FE → List Value
  | [] => []
  | e :: r => .int .i64 (e.f : Nat) :: .slice (some ⟨e.b, 0, none⟩) pg pg :: ffl pg r

def rowsA (pg : Nat) : List FE → Asn
  | [] => pur True
  | e :: r => row e.b 31 pg (fun i => .int .u64 (e.g i)) * rowsA pg r

theorem ffl_len (pg : Nat) : ∀ L : List FE, (ffl pg L).length = L.length * 2
  | [] => rfl
  | e :: r => by show (ffl pg r).length + 1 + 1 = (r.length + 1) * 2; rw [ffl_len pg r]; omega

theorem ffl_at (pg : Nat) : ∀ (L : List FE) (k : Nat), k < L.length → (ffl pg L)[2 * k]? = some (.int .i64 ((L.getD k fe0).f : Nat)) ∧ (ffl pg L)[2 * k + 1]? = some (.slice (some ⟨(L.getD k fe0).b, 0, none⟩) pg pg)
  | [], k, h => by simp at h
  | e :: r, 0, _ => ⟨rfl, rfl⟩
  | e :: r, k + 1, h => by
    have := ffl_at pg r k (by simpa using h)
    exact ⟨this.1, this.2⟩

theorem ffl_app (pg : Nat) (a b : List FE) : ffl pg (a ++ b) = ffl pg a ++ ffl pg b := by
  induction a with
  | nil => rfl
  | cons e r ih => show _ :: _ :: ffl pg (r ++ b) = _ :: _ :: (ffl pg r ++ ffl pg b); rw [ih]

theorem ffl_one (pg : Nat) (L : List FE) : ∀ u ∈ ffl pg L, u.oneCell' = true := by
  induction L with
  | nil => intro u hu; cases hu
  | cons e r ih =>
    intro u hu
    rcases List.mem_cons.1 hu with rfl | hu
    · rfl
    · rcases List.mem_cons.1 hu with rfl | hu
      · rfl
      · exact ih u hu

theorem ffl_take (pg : Nat) (L : List FE) (k : Nat) : ffl pg (L.take k) = (ffl pg L).take (2 * k) := by
  induction L generalizing k with
  | nil => simp [ffl]
  | cons e r ih =>
    cases k with
    | zero => rfl
    | succ k =>
      show _ :: _ :: ffl pg (r.take k) = (_ :: _ :: ffl pg r).take (2 * k + 1 + 1)
      rw [ih k]; rfl

theorem ffl_drop (pg : Nat) (L : List FE) (k : Nat) : ffl pg (L.drop k) = (ffl pg L).drop (2 * k) := by
  induction L generalizing k with
  | nil => simp [ffl]
  | cons e r ih =>
    cases k with
    | zero => rfl
    | succ k =>
      show ffl pg (r.drop k) = (_ :: _ :: ffl pg r).drop (2 * k + 1 + 1)
      rw [ih k]; rfl

theorem one_starF (A : Asn) : pur True * A = A := by
  refine Asn.ext' fun w S => ⟨?_, ?_⟩
  · rintro ⟨S1, S2, a, b, d, hS⟩
    have : S = S2 := by
      funext k; refine propext ((hS k).trans ⟨?_, .inr⟩)
      rintro (h | h)
      · exact absurd h (a.2 k)
      · exact h
    rw [this]; exact b
  · intro h
    exact ⟨fun _ => False, S, ⟨trivial, fun _ => id⟩, h, fun _ h => h.elim, fun k => by simp⟩

theorem rowsA_app (pg : Nat) (a b : List FE) : rowsA pg (a ++ b) = rowsA pg a * rowsA pg b := by
  induction a with
  | nil => exact (one_starF _).symm
  | cons e r ih =>
    show _ * rowsA pg (r ++ b) = _ * rowsA pg r * rowsA pg b
    rw [ih]; ac_rfl

theorem cutL (L : List FE) (k : Nat) (hk : k < L.length) : L = L.take k ++ (L.getD k fe0 :: L.drop (k + 1)) := by
  have e : L.getD k fe0 = L[k] := by simp [List.getD_eq_getElem?_getD, hk]
  rw [e, ← List.drop_eq_getElem_cons hk, List.take_append_drop]

theorem rowsA_at (pg : Nat) (L : List FE) (k : Nat) (hk : k < L.length) : rowsA pg L = row (L.getD k fe0).b 31 pg (fun i => .int .u64 ((L.getD k fe0).g i)) * rowsA pg (L.take k ++ L.drop (k + 1)) := by
  conv => lhs; rw [cutL L k hk]
  rw [rowsA_app, rowsA_app]
  show _ * (_ * _) = _
  ac_rfl

/-- the document's pool -/
structure RS where
  room : Nat
  page : Nat
  L : List FE
  back : List Nat
  never : Nat
  high : Nat
  times : Int

def natL (l : List Nat) : List Value := l.map (fun n : Nat => Value.int .i64 n)

def rpC (r : RS) (vL vB : Value) : Array Value := #[.int .i64 r.room, .int .i64 r.page, vL, vB, .int .i64 r.never, .int .i64 r.high, .int .i64 r.times]

def rpX (c : Nat) (r : RS) (vL vB : Value) : Asn :=
  blk c (.cells (rpC r vL vB) 50 (0, 0)) * (own 79 2 vL r.L.length (ffl r.page r.L) * (own 3 1 vB r.back.length (natL r.back) * rowsA r.page r.L))

/-- block c is the document's pool r -/
def rpA (c : Nat) (r : RS) : Asn := exa fun x : Value × Value => rpX c r x.1 x.2

theorem rpA_of {w0 w : World} {S0 : Nat → Prop} {c : Nat} {r : RS} {vL vB : Value} (h : At (rpX c r vL vB) w0 S0 w) : At (rpA c r) w0 S0 w :=
  At.ofex (A := fun x : Value × Value => rpX c r x.1 x.2) (vL, vB) h

/-- what the document's pool reads -/
structure RpR (w : World) (c : Nat) (r : RS) (aL : Option Addr) (cL : Nat) (aB : Option Addr) (cB : Nat) : Prop where
  c0 : w.cell? ⟨c, 0, none⟩ = some (.int .i64 r.room)
  c1 : w.cell? ⟨c, 1, none⟩ = some (.int .i64 r.page)
  c2 : w.cell? ⟨c, 2, none⟩ = some (.slice aL r.L.length cL)
  c3 : w.cell? ⟨c, 3, none⟩ = some (.slice aB r.back.length cB)
  c4 : w.cell? ⟨c, 4, none⟩ = some (.int .i64 r.never)
  c5 : w.cell? ⟨c, 5, none⟩ = some (.int .i64 r.high)
  c6 : w.cell? ⟨c, 6, none⟩ = some (.int .i64 r.times)
  fz : ∀ i, w.frozen? ⟨c, i, none⟩ = false
  oL : w.ownsRow 0 79 2 (.slice aL r.L.length cL) r.L.length (ffl r.page r.L)
  oB : w.ownsRow 0 3 1 (.slice aB r.back.length cB) r.back.length (natL r.back)
  el : ∀ k, k < r.L.length → ∃ g, aL = some ⟨g, 0, none⟩ ∧ w.cell? ⟨g, k * 2, none⟩ = some (.int .i64 ((r.L.getD k fe0).f : Nat)) ∧ w.cell? ⟨g, k * 2 + 1, none⟩ = some (.slice (some ⟨(r.L.getD k fe0).b, 0, none⟩) r.page r.page) ∧
    w.rowIs (r.L.getD k fe0).b 31 r.page (fun i => .int .u64 ((r.L.getD k fe0).g i))

theorem rp_read {w0 w : World} {S : Nat → Prop} {c : Nat} {r : RS} {aL : Option Addr} {cL : Nat} {aB : Option Addr} {cB : Nat} (h : At (rpX c r (.slice aL r.L.length cL) (.slice aB r.back.length cB)) w0 S w) : RpR w c r aL cL aB cB := by
  have hb := At.blkIs h
  obtain ⟨c0, c1, c2, c3, c4, c5, c6, f⟩ := cells7 hb
  have oL := At.ownIs (h.re (B := own 79 2 (.slice aL r.L.length cL) r.L.length (ffl r.page r.L) * (blk c (.cells (rpC r (.slice aL r.L.length cL) (.slice aB r.back.length cB)) 50 (0, 0)) * (own 3 1 (.slice aB r.back.length cB) r.back.length (natL r.back) * rowsA r.page r.L))) (by unfold rpX; ac_rfl))
  have oB := At.ownIs (h.re (B := own 3 1 (.slice aB r.back.length cB) r.back.length (natL r.back) * (blk c (.cells (rpC r (.slice aL r.L.length cL) (.slice aB r.back.length cB)) 50 (0, 0)) * (own 79 2 (.slice aL r.L.length cL) r.L.length (ffl r.page r.L) * rowsA r.page r.L))) (by unfold rpX; ac_rfl))
  refine ⟨c0, c1, c2, c3, c4, c5, c6, f, oL, oB, fun k hk => ?_⟩
  have oR : w.rowIs (r.L.getD k fe0).b 31 r.page (fun i => .int .u64 ((r.L.getD k fe0).g i)) := by
    refine At.rowIs (h.re (B := row (r.L.getD k fe0).b 31 r.page (fun i => .int .u64 ((r.L.getD k fe0).g i)) * (rowsA r.page (r.L.take k ++ r.L.drop (k + 1)) * (blk c (.cells (rpC r (.slice aL r.L.length cL) (.slice aB r.back.length cB)) 50 (0, 0)) * (own 79 2 (.slice aL r.L.length cL) r.L.length (ffl r.page r.L) * own 3 1 (.slice aB r.back.length cB) r.back.length (natL r.back))))) ?_)
    unfold rpX
    rw [rowsA_at r.page r.L k hk]
    ac_rfl
  have h0 := oL
  rcases oL.2 with ⟨h1, h2⟩ | ⟨g, cap', cur, hv, _⟩
  · omega
  · cases hv
    have e1 := World.ownsRow.cellAt h0 (2 * k) (by omega)
    have e2 := World.ownsRow.cellAt h0 (2 * k + 1) (by omega)
    rw [(ffl_at r.page r.L k hk).1] at e1
    rw [(ffl_at r.page r.L k hk).2] at e2
    refine ⟨g, rfl, ?_, ?_, oR⟩
    · rw [show k * 2 = 2 * k by omega]; exact e1
    · rw [show k * 2 + 1 = 2 * k + 1 by omega]; exact e2

theorem rp_open {w : World} {S : Nat → Prop} {c : Nat} {r : RS} (h : (rpA c r).holds w S) : ∃ aL cL aB cB, At (rpX c r (.slice aL r.L.length cL) (.slice aB r.back.length cB)) w S w ∧ RpR w c r aL cL aB cB := by
  obtain ⟨⟨vL, vB⟩, h⟩ := (At.refl h).exaIs
  have oL := At.ownIs (h.re (B := own 79 2 vL r.L.length (ffl r.page r.L) * (blk c (.cells (rpC r vL vB) 50 (0, 0)) * (own 3 1 vB r.back.length (natL r.back) * rowsA r.page r.L))) (by unfold rpX; ac_rfl))
  have oB := At.ownIs (h.re (B := own 3 1 vB r.back.length (natL r.back) * (blk c (.cells (rpC r vL vB) 50 (0, 0)) * (own 79 2 vL r.L.length (ffl r.page r.L) * rowsA r.page r.L))) (by unfold rpX; ac_rfl))
  obtain ⟨aL, cL, rfl⟩ := own_form' oL
  obtain ⟨aB, cB, rfl⟩ := own_form' oB
  exact ⟨aL, cL, aB, cB, h, rp_read h⟩

/-- where a frame stands -/
def fix (L : List FE) (f : Int) : Int := match L.findIdx? (fun e => (e.f : Int) == f) with | some k => (k : Int) | none => -1

theorem getD_FE {L : List FE} {k : Nat} (hk : k < L.length) : L.getD k fe0 = L[k] := by simp [List.getD_eq_getElem?_getD, hk]

theorem fix_some (L : List FE) (p : Int) (k : Nat) (hk : k < L.length) (h1 : ((L.getD k fe0).f : Int) = p) (h2 : ∀ j, j < k → ((L.getD j fe0).f : Int) ≠ p) : fix L p = k := by
  unfold fix
  have : L.findIdx? (fun e => (e.f : Int) == p) = some k := by
    rw [List.findIdx?_eq_some_iff_getElem]
    refine ⟨hk, ?_, fun j hj => ?_⟩
    · rw [getD_FE hk] at h1; simpa using h1
    · have := h2 j hj
      rw [getD_FE (show j < L.length by omega)] at this; simpa using this
  rw [this]

theorem fix_none (L : List FE) (p : Int) (h2 : ∀ j, j < L.length → ((L.getD j fe0).f : Int) ≠ p) : fix L p = -1 := by
  unfold fix
  have : L.findIdx? (fun e => (e.f : Int) == p) = none := by
    rw [List.findIdx?_eq_none_iff]
    intro x hx
    obtain ⟨j, hj, rfl⟩ := List.mem_iff_getElem.1 hx
    have := h2 j hj
    rw [getD_FE hj] at this; simpa using this
  rw [this]

theorem fix_range (L : List FE) (p : Int) : (fix L p = -1 ∧ ∀ e ∈ L, (e.f : Int) ≠ p) ∨ ∃ k : Nat, fix L p = k ∧ k < L.length ∧ ((L.getD k fe0).f : Int) = p := by
  unfold fix
  cases h : L.findIdx? (fun e => (e.f : Int) == p) with
  | none =>
    rw [List.findIdx?_eq_none_iff] at h
    exact .inl ⟨rfl, fun e he hp => by have := h e he; simp [hp] at this⟩
  | some k =>
    rw [List.findIdx?_eq_some_iff_getElem] at h
    obtain ⟨hk, h1, _⟩ := h
    refine .inr ⟨k, rfl, hk, ?_⟩
    rw [getD_FE hk]; simpa using h1

theorem rp_at {c : Nat} {r : RS} (hL : r.L.length ≤ 1000000) (p : Int) : Ask Try.prog 42 #[.pointer (some ⟨c, 0, none⟩), .int .i64 p] (rpA c r) (.int .i64 (fix r.L p)) := by
  intro w S h
  obtain ⟨aL, cL, aB, cB, _, R⟩ := rp_open h
  have c2 := R.c2
  have CE := Lib.hid R.el
  have I1 := Lib.hid (fix_some r.L p)
  have I2 := Lib.hid (fix_none r.L p)
  clear h R
  generalize fix r.L p = fin at *
  generalize r.page = pg at *
  generalize r.L = L at *
  go_enter Try.func42, Try.ntmps42
  go_wp2
  go_loop [5] (fun v => ∃ k : Nat, v = .int .i64 k ∧ k ≤ L.length ∧ Hid (∀ j, j < k → ((L.getD j fe0).f : Int) ≠ p)) (fun v => L.length - (intOf v).toNat)
  case atStart => exact ⟨0, rfl, Nat.zero_le _, Lib.hid (fun j hj => absurd hj (by omega))⟩
  case round =>
    obtain ⟨k, rfl, hk, HK⟩ := hrel
    by_cases hlt : k < L.length
    · have hltI : (k : Int) < (L.length : Int) := by omega
      obtain ⟨g, rfl, e0, e1, _⟩ := CE.out k hlt
      by_cases heq : ((L.getD k fe0).f : Int) = p
      · have FN := Lib.hid (I1.out k hlt heq HK.out)
        generalize ((L.getD k fe0).f : Int) = x at *
        clear e1
        go_wp2
        go_ret
        exact ⟨by rw [FN.out]; rfl, rfl⟩
      · have HK2 : Hid (∀ j, j < k + 1 → ((L.getD j fe0).f : Int) ≠ p) := Lib.hid fun j hj => by
          by_cases e : j = k
          · rw [e]; exact heq
          · exact HK.out j (by omega)
        generalize ((L.getD k fe0).f : Int) = x at *
        clear e1
        go_wp2
        go_round
        case rel => exact ⟨k + 1, by go_num, by omega, HK2⟩
        case measure => simp [intOf]; omega
    · obtain rfl : k = L.length := by omega
      have FN := Lib.hid (I2.out HK.out)
      go_wp2
      go_ret
      exact ⟨by rw [FN.out]; rfl, rfl⟩

end Go.Proofs.Ytpdnbkibnpkfbad
