/- A map of objects (layer 13): what it is made of; Words, Find, Next. -/
import Derived.Test.YtaaapbfhedgnjaaDoorExM
import Derived.Test.YtaaapbfhedgnjaaDoorBvXn
namespace Go.Proofs.YtaaapbfhedgnjaaDoor.BV
open Go.ChangeShapes Go.WideShapes Go.ChangeAt Go.RowKit

def exX (c p q n : Nat) (sz : Nat → Nat) (k : Int) : Asn := blk c (.cells #[.pointer (some ⟨p, 0, none⟩), .pointer (some ⟨q, 0, none⟩), .int .i64 k] 90 (0, 0)) * (bvA p (fB n sz) * bvA q (lB n sz))

/-- block c is the map -/
def exA (c n : Nat) (sz : Nat → Nat) (k : Int) : Asn := exa fun x : Nat × Nat => exX c x.1 x.2 n sz k

structure ExOk (n : Nat) (sz : Nat → Nat) : Prop where
  n1 : 1 ≤ n
  n2 : n ≤ 1048576
  s : Snd n sz

theorem ExOk.f {n : Nat} {sz : Nat → Nat} (h : ExOk n sz) : (fB n sz).ok := fB_ok h.s h.n1 h.n2
theorem ExOk.l {n : Nat} {sz : Nat → Nat} (h : ExOk n sz) : (lB n sz).ok := lB_ok h.s h.n1 h.n2

section
variable {w0 w : World} {S : Nat → Prop} {c p q n : Nat} {sz : Nat → Nat} {k : Int} {C : Asn} {fn : FuncId} {args : Array Value} {r : Value}

theorem ex_cells (h : At (exX c p q n sz k * C) w0 S w) : w.cell? ⟨c, 0, none⟩ = some (.pointer (some ⟨p, 0, none⟩)) ∧ w.cell? ⟨c, 1, none⟩ = some (.pointer (some ⟨q, 0, none⟩)) ∧ w.cell? ⟨c, 2, none⟩ = some (.int .i64 k) :=
  vcells (At.blkIs (A := bvA p (fB n sz) * bvA q (lB n sz) * C) (h.re (by unfold exX; ac_rfl)))

theorem ex_f (h : At (exX c p q n sz k * C) w0 S w) : ∃ S, (bvA p (fB n sz)).holds w S := At.left (C := blk c (.cells #[.pointer (some ⟨p, 0, none⟩), .pointer (some ⟨q, 0, none⟩), .int .i64 k] 90 (0, 0)) * bvA q (lB n sz) * C) (h.re (by unfold exX; ac_rfl))
theorem ex_l (h : At (exX c p q n sz k * C) w0 S w) : ∃ S, (bvA q (lB n sz)).holds w S := At.left (C := blk c (.cells #[.pointer (some ⟨p, 0, none⟩), .pointer (some ⟨q, 0, none⟩), .int .i64 k] 90 (0, 0)) * bvA p (fB n sz) * C) (h.re (by unfold exX; ac_rfl))

theorem ex_open (h : At (exA c n sz k) w0 S w) : ∃ p q, At (exX c p q n sz k * pur True) w0 S w := by
  obtain ⟨⟨p, q⟩, h⟩ := At.exaIs h
  exact ⟨p, q, h.unit⟩

theorem ex_words (h : At (exX c p q n sz k * C) w0 S w) : Calls Tryd.prog 41 #[.pointer (some ⟨c, 0, none⟩)] w fun e w' => e = .returned (.int .i64 n) ∧ w = w' := by
  obtain ⟨c0, c1, c2⟩ := ex_cells h
  obtain ⟨S1, h1⟩ := ex_f h
  have L := Lib.hid (bv_len w S1 h1)
  clear h h1
  go_enter Tryd.func41, Tryd.ntmps41
  go_wp2_with (go_at_call 46; with_reducible refine L.out.mono ?_; rintro e1 w1 ⟨rfl, rfl⟩)
  go_ret
  exact ⟨rfl, rfl⟩

/-- start, size, and whether there is one -/
def exV (sz : Nat → Nat) : Option Nat → Value
  | none => .tuple #[.int .i64 0, .int .i64 0, .bool false]
  | some s => .tuple #[.int .i64 s, .int .i64 (sz s), .bool true]

/-- the object of a word -/
def fdI (n : Nat) (sz : Nat → Nat) (a : Int) : Option Nat := if 0 ≤ a ∧ a < (n : Int) then fdF sz a.toNat else none

set_option maxRecDepth 100000 in
theorem ex_find (ok : ExOk n sz) (a : Int) (hT : Tab w) (h : At (exX c p q n sz k * C) w0 S w) : Calls Tryd.prog 31 #[.pointer (some ⟨c, 0, none⟩), .int .i64 a] w fun e w' => e = .returned (exV sz (fdI n sz a)) ∧ w = w' := by
  have WD := Lib.hid (ex_words h)
  by_cases h0 : 0 ≤ a
  · by_cases h1 : a < (n : Int)
    · obtain ⟨i, rfl⟩ := Int.eq_ofNat_of_zero_le h0
      have hi : i < n := by omega
      obtain ⟨c0, c1, c2⟩ := ex_cells h
      obtain ⟨S1, hf⟩ := ex_f h
      obtain ⟨S2, hl⟩ := ex_l h
      have n2 := ok.n2
      have LS := bv_last ok.f ((i : Int) + 1) w S1 hf
      rw [show (min ((i : Int) + 1) ((fB n sz).n : Int)).toNat = i + 1 by show (min ((i : Int) + 1) (n : Int)).toNat = i + 1; omega] at LS
      have WA : IntKind.i64.wrap ((i : Int) + 1) = (i : Int) + 1 := IntWalk.i64_in _ (by omega)
      have e0 : fdI n sz (i : Int) = fdF sz i := by unfold fdI; rw [if_pos ⟨h0, h1⟩, Int.toNat_natCast]
      rw [e0]
      unfold fdF
      cases hr : lsF (fst' sz) (i + 1) with
      | none =>
        have LS : Hid (Calls Tryd.prog 60 #[.pointer (some ⟨p, 0, none⟩), .int .i64 ((i : Int) + 1)] w fun e w' => e = .returned (.tuple #[.int .i64 0, .bool false]) ∧ w = w') := Lib.hid (by rw [show lsF (fB n sz).b (i + 1) = none from hr] at LS; exact LS)
        clear h hf hl hr
        go_enter Tryd.func31, Tryd.ntmps31
        go_wp2_with (first | (go_at_call 41; with_reducible refine WD.out.mono ?_; rintro e1 w1 ⟨rfl, rfl⟩) | (go_at_call 60; with_reducible refine LS.out.mono ?_; rintro e1 w1 ⟨rfl, rfl⟩))
        go_ret3
        exact ⟨rfl, rfl⟩
      | some s =>
        have LS : Hid (Calls Tryd.prog 60 #[.pointer (some ⟨p, 0, none⟩), .int .i64 ((i : Int) + 1)] w fun e w' => e = .returned (.tuple #[.int .i64 s, .bool true]) ∧ w = w') := Lib.hid (by rw [show lsF (fB n sz).b (i + 1) = some s from hr] at LS; exact LS)
        obtain ⟨hs1, hs2⟩ : s ≤ i ∧ 0 < sz s := by
          rcases lsF_is (p := fst' sz) (i + 1) with ⟨e, _⟩ | ⟨r, e, g1, g2, _⟩
          · rw [hr] at e; cases e
          · rw [hr] at e; cases e; exact ⟨by omega, fst_iff.1 g2⟩
        have hft := ok.s.fit s hs2
        have NX := bv_next ok.l (s : Int) w hT S2 hl
        rw [show (max (s : Int) 0).toNat = s by omega, show nxF (lB n sz).b s ((lB n sz).n - s) = some (s + sz s - 1) from last_of ok.s hs2] at NX
        have NX : Hid (Calls Tryd.prog 61 #[.pointer (some ⟨q, 0, none⟩), .int .i64 s] w fun e w' => e = .returned (.tuple #[.int .i64 ((s : Int) + (sz s : Int) - 1), .bool true]) ∧ w = w') := Lib.hid (by
          have e : ((s + sz s - 1 : Nat) : Int) = (s : Int) + (sz s : Int) - 1 := by omega
          rw [← e]; exact NX)
        have hsI : (s : Int) ≤ 1048576 := by omega
        have hzI : (sz s : Int) ≤ 1048576 := by omega
        have hz0 : (0 : Int) < (sz s : Int) := by omega
        dsimp only
        clear h hf hl hr
        obtain ⟨z, hz⟩ : ∃ z, sz s = z := ⟨_, rfl⟩
        rw [hz] at hzI hz0 hft NX hs2 ⊢
        by_cases g : i < s + z
        · rw [if_pos g]
          unfold exV
          dsimp only
          rw [hz]
          clear hz
          have gI : ¬ (s : Int) + (z : Int) - 1 < (i : Int) := by omega
          have WB : IntKind.i64.wrap ((s : Int) + (z : Int) - 1 - (s : Int) + 1) = (z : Int) := by rw [show (s : Int) + (z : Int) - 1 - (s : Int) + 1 = (z : Int) by omega]; exact IntWalk.i64_in _ (by omega)
          have WC : (s : Int) + (z : Int) - 1 - (s : Int) + 1 = (z : Int) := by omega
          go_enter Tryd.func31, Tryd.ntmps31
          go_wp2_with (first | (go_at_call 41; with_reducible refine WD.out.mono ?_; rintro e1 w1 ⟨rfl, rfl⟩) | (go_at_call 60; with_reducible refine LS.out.mono ?_; rintro e1 w1 ⟨rfl, rfl⟩) | (go_at_call 61; with_reducible refine NX.out.mono ?_; rintro e1 w1 ⟨rfl, rfl⟩))
          go_ret3
          exact ⟨rfl, rfl⟩
        · rw [if_neg g]
          unfold exV
          clear hz
          have gI : (s : Int) + (z : Int) - 1 < (i : Int) := by omega
          go_enter Tryd.func31, Tryd.ntmps31
          go_wp2_with (first | (go_at_call 41; with_reducible refine WD.out.mono ?_; rintro e1 w1 ⟨rfl, rfl⟩) | (go_at_call 60; with_reducible refine LS.out.mono ?_; rintro e1 w1 ⟨rfl, rfl⟩) | (go_at_call 61; with_reducible refine NX.out.mono ?_; rintro e1 w1 ⟨rfl, rfl⟩))
          go_ret3
          exact ⟨rfl, rfl⟩
    · have e0 : fdI n sz a = none := by unfold fdI; rw [if_neg (by omega)]
      rw [e0]
      unfold exV
      clear h
      go_enter Tryd.func31, Tryd.ntmps31
      go_wp2_with (go_at_call 41; with_reducible refine WD.out.mono ?_; rintro e1 w1 ⟨rfl, rfl⟩)
      go_ret3
      exact ⟨rfl, rfl⟩
  · have e0 : fdI n sz a = none := by unfold fdI; rw [if_neg (by omega)]
    rw [e0]
    unfold exV
    clear h
    go_enter Tryd.func31, Tryd.ntmps31
    go_wp2_with (go_at_call 41; with_reducible refine WD.out.mono ?_; rintro e1 w1 ⟨rfl, rfl⟩)
    go_ret3
    exact ⟨rfl, rfl⟩

/-- the first object from an address on -/
def nxI (n : Nat) (sz : Nat → Nat) (a : Int) : Option Nat := nxF (fst' sz) (max a 0).toNat (n - (max a 0).toNat)

set_option maxRecDepth 100000 in
theorem ex_next (ok : ExOk n sz) (a : Int) (hT : Tab w) (h : At (exX c p q n sz k * C) w0 S w) : Calls Tryd.prog 34 #[.pointer (some ⟨c, 0, none⟩), .int .i64 a] w fun e w' => e = .returned (exV sz (nxI n sz a)) ∧ w = w' := by
  obtain ⟨c0, c1, c2⟩ := ex_cells h
  obtain ⟨S1, hf⟩ := ex_f h
  obtain ⟨S2, hl⟩ := ex_l h
  have n2 := ok.n2
  have NF := bv_next ok.f a w hT S1 hf
  unfold nxI
  cases hr : nxF (fst' sz) (max a 0).toNat (n - (max a 0).toNat) with
  | none =>
    have NF : Hid (Calls Tryd.prog 61 #[.pointer (some ⟨p, 0, none⟩), .int .i64 a] w fun e w' => e = .returned (.tuple #[.int .i64 0, .bool false]) ∧ w = w') := Lib.hid (by rw [show nxF (fB n sz).b (max a 0).toNat ((fB n sz).n - (max a 0).toNat) = none from hr] at NF; exact NF)
    unfold exV
    clear h hf hl hr
    go_enter Tryd.func34, Tryd.ntmps34
    go_wp2_with (go_at_call 61; with_reducible refine NF.out.mono ?_; rintro e1 w1 ⟨rfl, rfl⟩)
    go_ret3
    exact ⟨rfl, rfl⟩
  | some s =>
    have NF : Hid (Calls Tryd.prog 61 #[.pointer (some ⟨p, 0, none⟩), .int .i64 a] w fun e w' => e = .returned (.tuple #[.int .i64 s, .bool true]) ∧ w = w') := Lib.hid (by rw [show nxF (fB n sz).b (max a 0).toNat ((fB n sz).n - (max a 0).toNat) = some s from hr] at NF; exact NF)
    have hs2 : 0 < sz s := by
      rcases nxF_is (p := fst' sz) (n - (max a 0).toNat) (max a 0).toNat with ⟨e, _⟩ | ⟨r, e, _, _, g, _⟩
      · rw [hr] at e; cases e
      · rw [hr] at e; cases e; exact fst_iff.1 g
    have hft := ok.s.fit s hs2
    have NX := bv_next ok.l (s : Int) w hT S2 hl
    rw [show (max (s : Int) 0).toNat = s by omega, show nxF (lB n sz).b s ((lB n sz).n - s) = some (s + sz s - 1) from last_of ok.s hs2] at NX
    have NX : Hid (Calls Tryd.prog 61 #[.pointer (some ⟨q, 0, none⟩), .int .i64 s] w fun e w' => e = .returned (.tuple #[.int .i64 ((s : Int) + (sz s : Int) - 1), .bool true]) ∧ w = w') := Lib.hid (by
      have e : ((s + sz s - 1 : Nat) : Int) = (s : Int) + (sz s : Int) - 1 := by omega
      rw [← e]; exact NX)
    have hsI : (s : Int) ≤ 1048576 := by omega
    have hzI : (sz s : Int) ≤ 1048576 := by omega
    have hz0 : (0 : Int) < (sz s : Int) := by omega
    unfold exV
    dsimp only
    obtain ⟨z, hz⟩ : ∃ z, sz s = z := ⟨_, rfl⟩
    rw [hz] at hzI hz0 hft NX hs2 ⊢
    clear hz
    have WB : IntKind.i64.wrap ((s : Int) + (z : Int) - 1 - (s : Int) + 1) = (z : Int) := by rw [show (s : Int) + (z : Int) - 1 - (s : Int) + 1 = (z : Int) by omega]; exact IntWalk.i64_in _ (by omega)
    have WC : (s : Int) + (z : Int) - 1 - (s : Int) + 1 = (z : Int) := by omega
    clear h hf hl hr
    go_enter Tryd.func34, Tryd.ntmps34
    go_wp2_with (go_at_call 61; first | (with_reducible refine NF.out.mono ?_; rintro e1 w1 ⟨rfl, rfl⟩) | (with_reducible refine NX.out.mono ?_; rintro e1 w1 ⟨rfl, rfl⟩))
    go_ret3
    exact ⟨rfl, rfl⟩
end

end Go.Proofs.YtaaapbfhedgnjaaDoor.BV
