/- A vector of bits (layer 11) in the small logic: put. -/
import Derived.Test.YtaaapbfhedgnjaaDoorMLoopA
import Derived.Test.YtaaapbfhedgnjaaDoorSL
import Derived.Deep.QuietTactic
import Derived.BigQuiet
import Derived.Deep.RegionWith
import Derived.Deep.RegionHeld3
namespace Go.Proofs.YtaaapbfhedgnjaaDoor.BV
open Go.ChangeShapes Go.WideShapes Go.ChangeAt Go.RowKit

/-- a vector, as plain bits -/
structure Bits where
  n : Nat
  b : Nat → Bool

structure Bits.ok (v : Bits) : Prop where
  n1 : 1 ≤ v.n
  n2 : v.n ≤ 1048576
  far : ∀ x, v.n ≤ x → v.b x = false

def Bits.nw (v : Bits) : Nat := (v.n + 63) / 64
def Bits.nu (v : Bits) : Nat := (v.nw + 63) / 64

/-- word i -/
def wd (b : Nat → Bool) (i : Nat) : Nat := ob (fun j => b (64 * i + j)) 64
/-- word i of the words that are not 0 -/
def us (b : Nat → Bool) (i : Nat) : Nat := ob (fun j => wd b (64 * i + j) != 0) 64

theorem wd_lt (b : Nat → Bool) (i : Nat) : wd b i < 18446744073709551616 := ob_lt _ 64 (Nat.le_refl _)
theorem us_lt (b : Nat → Bool) (i : Nat) : us b i < 18446744073709551616 := ob_lt _ 64 (Nat.le_refl _)

theorem wd_bit (b : Nat → Bool) (i j : Nat) (hj : j < 64) : (wd b i).testBit j = b (64 * i + j) := by
  unfold wd
  rw [ob_bit, decide_eq_true hj, Bool.true_and]

theorem wd_congr {b c : Nat → Bool} {i : Nat} (h : ∀ j, j < 64 → b (64 * i + j) = c (64 * i + j)) : wd b i = wd c i :=
  eq_bits _ _ (wd_lt b i) (wd_lt c i) fun j hj => by rw [wd_bit b i j hj, wd_bit c i j hj]; exact h j hj

theorem ob_on (p : Nat → Bool) (k : Nat) (hk : k < 64) : ob p 64 ||| 2 ^ k = ob (fun j => if j = k then true else p j) 64 := by
  have h2 : 2 ^ k < 2 ^ 64 := Nat.pow_lt_pow_right (by decide) hk
  refine eq_bits _ _ (Nat.or_lt_two_pow (ob_lt p 64 (Nat.le_refl _)) h2) (ob_lt _ 64 (Nat.le_refl _)) fun j hj => ?_
  rw [Nat.testBit_or, ob_bit, ob_bit, decide_eq_true hj, Nat.testBit_two_pow]
  by_cases e : j = k
  · rw [if_pos e, e]; simp
  · rw [if_neg e, decide_eq_false (fun h => e h.symm)]; simp

theorem ob_off (p : Nat → Bool) (k : Nat) (hk : k < 64) : ob p 64 &&& (18446744073709551615 - 2 ^ k) = ob (fun j => if j = k then false else p j) 64 := by
  have h2 : 2 ^ k < 2 ^ 64 := Nat.pow_lt_pow_right (by decide) hk
  refine eq_bits _ _ (Nat.lt_of_le_of_lt Nat.and_le_left (ob_lt p 64 (Nat.le_refl _))) (ob_lt _ 64 (Nat.le_refl _)) fun j hj => ?_
  rw [Nat.testBit_and, ob_bit, ob_bit, decide_eq_true hj, show 18446744073709551615 - 2 ^ k = 2 ^ 64 - (2 ^ k + 1) by omega, Nat.testBit_two_pow_sub_succ h2, Nat.testBit_two_pow, decide_eq_true hj]
  by_cases e : j = k
  · rw [if_pos e, e]; simp
  · rw [if_neg e, decide_eq_false (fun h => e h.symm)]; simp

/-- where a row lies: its block, the slice's capacity, the block's length and what lies behind -/
structure Loc where
  b : Nat
  cap : Nat
  len : Nat
  rest : Nat → Value

/-- the first n cells of a row -/
def lrow (x : Loc) (t : TypeId) (n : Nat) (f : Nat → Value) : Asn where
  holds w S := (w.rowIs x.b t x.len (fun i => if i < n then f i else x.rest i) ∧ n ≤ x.len) ∧ ∀ k, S k ↔ k = x.b
  lt := fun h k hk => by rw [(h.2 k).1 hk]; exact h.1.1.lt
  keep := fun h hk => ⟨⟨h.1.1.of_block (hk x.b ((h.2 x.b).2 rfl)), h.1.2⟩, h.2⟩

theorem has_lrow (x : Loc) (t : TypeId) (n : Nat) (f : Nat → Value) : (lrow x t n f).has x.b := fun _ _ h => (h.2 x.b).2 rfl

structure LR (w : World) (b n : Nat) (f : Nat → Value) : Prop where
  cell : ∀ {i}, i < n → w.cell? ⟨b, i, none⟩ = some (f i)
  frozen : ∀ i, w.frozen? ⟨b, i, none⟩ = false

theorem At.lrowIs {A : Asn} {w0 w : World} {S0 : Nat → Prop} {x : Loc} {n : Nat} {f : Nat → Value} {t : TypeId} (h : At (lrow x t n f * A) w0 S0 w) : LR w x.b n f := by
  obtain ⟨S, a⟩ := h.left
  refine ⟨fun {i} hi => ?_, fun i => a.1.1.frozen i⟩
  have := a.1.1.cell (show i < x.len from Nat.lt_of_lt_of_le hi a.1.2)
  rw [this, if_pos hi]

theorem At.set_lrow {A : Asn} {w0 w : World} {S0 : Nat → Prop} {x : Loc} {n : Nat} {f : Nat → Value} {t : TypeId} (h : At (lrow x t n f * A) w0 S0 w) (i : Nat) (hi : i < n) (v : Value) :
    At (lrow x t n (fun j => if j = i then v else f j) * A) w0 S0 (w.setCell ⟨x.b, i, none⟩ v) := by
  refine h.frame ?_
  rintro S ⟨⟨a, hl⟩, hS⟩
  refine ⟨S, ⟨⟨(a.set i v).congr fun j _ => ?_, hl⟩, hS⟩, fun _ h => .inl h, (Fr.refl S w).setCell (p := ⟨x.b, i, none⟩) (fun _ => (hS x.b).2 rfl) v⟩
  dsimp only
  by_cases e : j = i
  · subst e; rw [if_pos rfl, if_pos hi, if_pos rfl]
  · rw [if_neg e]
    by_cases g : j < n
    · rw [if_pos g, if_pos g, if_neg e]
    · rw [if_neg g, if_neg g]

theorem lrow_of {b n cap : Nat} {t : TypeId} {f : Nat → Value} (w : World) (S : Nat → Prop) (h : (row b t n f).holds w S) : (lrow ⟨b, cap, n, fun _ => .tuple #[]⟩ t n f).holds w S :=
  ⟨⟨h.1.congr fun i hi => by rw [if_pos hi], Nat.le_refl _⟩, h.2⟩

def bvC (v : Bits) (bw bu : Loc) : Array Value := #[.slice (some ⟨bw.b, 0, none⟩) v.nw bw.cap, .slice (some ⟨bu.b, 0, none⟩) v.nu bu.cap, .int .i64 v.n]

def bvX (p : Nat) (v : Bits) (bw bu : Loc) : Asn :=
  blk p (.cells (bvC v bw bu) 84 (0, 0)) * (lrow bw 66 v.nw (fun i => .int .u64 (wd v.b i : Nat)) * lrow bu 66 v.nu (fun i => .int .u64 (us v.b i : Nat)))

/-- block p is the vector v -/
def bvA (p : Nat) (v : Bits) : Asn := exa fun x : Loc × Loc => bvX p v x.1 x.2

theorem bvA_of {w0 w : World} {S : Nat → Prop} {p : Nat} {v : Bits} {bw bu : Loc} (h : At (bvX p v bw bu) w0 S w) : At (bvA p v) w0 S w :=
  At.ofex (A := fun x : Loc × Loc => bvX p v x.1 x.2) (bw, bu) h

theorem vcells {w : World} {b : Nat} {x0 x1 x2 : Value} {t : TypeId} (h : w.heap[b]? = some (.cells #[x0, x1, x2] t (0, 0))) :
    w.cell? ⟨b, 0, none⟩ = some x0 ∧ w.cell? ⟨b, 1, none⟩ = some x1 ∧ w.cell? ⟨b, 2, none⟩ = some x2 := by
  simp [World.cell?, h]

structure BvR (w : World) (p : Nat) (v : Bits) (bw bu : Loc) : Prop where
  c0 : w.cell? ⟨p, 0, none⟩ = some (.slice (some ⟨bw.b, 0, none⟩) v.nw bw.cap)
  c1 : w.cell? ⟨p, 1, none⟩ = some (.slice (some ⟨bu.b, 0, none⟩) v.nu bu.cap)
  c2 : w.cell? ⟨p, 2, none⟩ = some (.int .i64 v.n)
  rw : LR w bw.b v.nw (fun i => .int .u64 (wd v.b i : Nat))
  ru : LR w bu.b v.nu (fun i => .int .u64 (us v.b i : Nat))

theorem bv_read {w0 w : World} {S : Nat → Prop} {p : Nat} {v : Bits} {bw bu : Loc} (h : At (bvX p v bw bu) w0 S w) : BvR w p v bw bu := by
  obtain ⟨a, b, c⟩ := vcells (At.blkIs h)
  exact ⟨a, b, c, At.lrowIs (h.re (B := lrow bw 66 v.nw (fun i => .int .u64 (wd v.b i : Nat)) * (blk p (.cells (bvC v bw bu) 84 (0, 0)) * lrow bu 66 v.nu (fun i => .int .u64 (us v.b i : Nat)))) (by unfold bvX; ac_rfl)),
    At.lrowIs (h.re (B := lrow bu 66 v.nu (fun i => .int .u64 (us v.b i : Nat)) * (blk p (.cells (bvC v bw bu) 84 (0, 0)) * lrow bw 66 v.nw (fun i => .int .u64 (wd v.b i : Nat)))) (by unfold bvX; ac_rfl))⟩

theorem bv_open {w0 w : World} {S : Nat → Prop} {p : Nat} {v : Bits} (h : At (bvA p v) w0 S w) : ∃ bw bu, At (bvX p v bw bu) w0 S w ∧ BvR w p v bw bu := by
  obtain ⟨⟨bw, bu⟩, h⟩ := h.exaIs
  exact ⟨bw, bu, h, bv_read h⟩

theorem nu_of {v : Bits} (i k : Nat) (hk : k < 64) (h : i * 64 + k < v.nw) : i < v.nu := by unfold Bits.nu; omega

theorem ob_congr {p q : Nat → Bool} (h : ∀ j, j < 64 → p j = q j) : ob p 64 = ob q 64 :=
  eq_bits _ _ (ob_lt p 64 (Nat.le_refl _)) (ob_lt q 64 (Nat.le_refl _)) fun j hj => by rw [ob_bit, ob_bit, decide_eq_true hj, Bool.true_and, Bool.true_and]; exact h j hj

/-- bits of one word are others now -/
theorem us_same {b c : Nat → Bool} (a i i' k : Nat) (h : ∀ j, j ≠ a → wd c j = wd b j) (ha : a = i * 64 + k) (hk : k < 64) (hi : i' ≠ i) : us c i' = us b i' := by
  unfold us
  exact ob_congr fun j hj => by rw [h (64 * i' + j) (by omega)]

theorem us_zero {b c : Nat → Bool} (a i k : Nat) (h : ∀ j, j ≠ a → wd c j = wd b j) (ha : a = i * 64 + k) (hk : k < 64) (hz : wd c a = 0) : us b i &&& (18446744073709551615 - 2 ^ k) = us c i := by
  unfold us
  rw [ob_off _ k hk]
  exact ob_congr fun j hj => by
    by_cases e : j = k
    · rw [if_pos e, e, show 64 * i + k = a by omega, hz]; rfl
    · rw [if_neg e, h (64 * i + j) (by omega)]

theorem us_one {b c : Nat → Bool} (a i k : Nat) (h : ∀ j, j ≠ a → wd c j = wd b j) (ha : a = i * 64 + k) (hk : k < 64) (hz : wd c a ≠ 0) : us b i ||| 2 ^ k = us c i := by
  unfold us
  rw [ob_on _ k hk]
  exact ob_congr fun j hj => by
    by_cases e : j = k
    · rw [if_pos e, e, show 64 * i + k = a by omega]; simpa using hz
    · rw [if_neg e, h (64 * i + j) (by omega)]

theorem wrap_pow (k : Nat) (hk : k < 64) : IntKind.u64.wrap (2 ^ k) = ((2 ^ k : Nat) : Int) := by
  have h2 : 2 ^ k < 2 ^ 64 := Nat.pow_lt_pow_right (by decide) hk
  rw [show (2 : Int) ^ k = ((2 ^ k : Nat) : Int) by simp, IntKind.wrap_u64]
  generalize 2 ^ k = z at h2 ⊢
  omega

theorem or_pow (U k : Nat) (hU : U < 18446744073709551616) (hk : k < 64) : bits .or .u64 (U : Int) (IntKind.u64.wrap (2 ^ k)) = ((U ||| 2 ^ k : Nat) : Int) := by
  have h2 : 2 ^ k < 2 ^ 64 := Nat.pow_lt_pow_right (by decide) hk
  rw [wrap_pow k hk]
  exact u64_or_nat U _ hU (by omega)

theorem andn_pow (U k : Nat) (hU : U < 18446744073709551616) (hk : k < 64) : bits .andNot .u64 (U : Int) (IntKind.u64.wrap (2 ^ k)) = ((U &&& (18446744073709551615 - 2 ^ k) : Nat) : Int) := by
  have h2 : 2 ^ k < 2 ^ 64 := Nat.pow_lt_pow_right (by decide) hk
  rw [wrap_pow k hk]
  exact u64_andNot_nat U _ hU (by omega)

theorem bv_turn {w0 w : World} {S : Nat → Prop} {p : Nat} {v : Bits} {bw bu : Loc} (c : Nat → Bool) (a i k : Nat) (haw : a < v.nw) (hiu : i < v.nu) (hc : ∀ j, j ≠ a → wd c j = wd v.b j) (ha : a = i * 64 + k) (hk : k < 64) (h : At (bvX p v bw bu) w0 S w) (m : Nat) :
    At (bvA p { v with b := c }) w0 S (((w.setCell ⟨bw.b, a, none⟩ (.int .u64 (wd c a : Nat))).setCell ⟨bu.b, i, none⟩ (.int .u64 (us c i : Nat))).drewN m) := by
  refine bvA_of (bw := bw) (bu := bu) ?_
  have h1 := At.set_lrow (h.re (B := lrow bw 66 v.nw (fun i => .int .u64 (wd v.b i : Nat)) * (blk p (.cells (bvC v bw bu) 84 (0, 0)) * lrow bu 66 v.nu (fun i => .int .u64 (us v.b i : Nat)))) (by unfold bvX; ac_rfl)) a haw (.int .u64 (wd c a : Nat))
  have e1 : (fun j => if j = a then Value.int .u64 (wd c a : Nat) else .int .u64 (wd v.b j : Nat)) = (fun j => .int .u64 (wd c j : Nat)) := by
    funext j
    by_cases e : j = a
    · rw [if_pos e, e]
    · rw [if_neg e, hc j e]
  rw [e1] at h1
  have h2 := At.set_lrow (h1.re (B := lrow bu 66 v.nu (fun i => .int .u64 (us v.b i : Nat)) * (blk p (.cells (bvC v bw bu) 84 (0, 0)) * lrow bw 66 v.nw (fun i => .int .u64 (wd c i : Nat)))) (by ac_rfl)) i hiu (.int .u64 (us c i : Nat))
  have e2 : (fun j => if j = i then Value.int .u64 (us c i : Nat) else .int .u64 (us v.b j : Nat)) = (fun j => .int .u64 (us c j : Nat)) := by
    funext j
    by_cases e : j = i
    · rw [if_pos e, e]
    · rw [if_neg e, us_same a i j k hc ha hk e]
  rw [e2] at h2
  refine (h2.drewN m).re ?_
  unfold bvX
  show lrow bu _ _ _ * (blk p _ * lrow bw _ _ _) = blk p (.cells (bvC v bw bu) 84 (0, 0)) * (lrow bw 66 v.nw (fun i => .int .u64 (wd c i : Nat)) * lrow bu 66 v.nu (fun i => .int .u64 (us c i : Nat)))
  ac_rfl

set_option maxRecDepth 100000 in
theorem bv_put {p : Nat} {v : Bits} (hv : v.ok) (c : Nat → Bool) (a : Nat) (ha : a < v.nw) (hc : ∀ j, j ≠ a → wd c j = wd v.b j) : Tri1 Tryd.prog 52 #[.pointer (some ⟨p, 0, none⟩), .int .i64 a, .int .u64 (wd c a : Nat)] (bvA p v) (.tuple #[]) (bvA p { v with b := c }) := by
  intro w S h
  obtain ⟨bw, bu, hX, R⟩ := bv_open (At.refl h)
  have c0 := R.c0
  have c1 := R.c1
  have hk : a % 64 < 64 := Nat.mod_lt _ (by decide)
  have hak : a = a / 64 * 64 + a % 64 := by omega
  have hnw : v.nw ≤ 16384 := by have := hv.n2; unfold Bits.nw; omega
  have hiu : a / 64 < v.nu := by unfold Bits.nu; omega
  have cw := R.rw.cell ha
  have fw := R.rw.frozen a
  have cu := R.ru.cell hiu
  have fu := R.ru.frozen (a / 64)
  have ne1 : ¬ bw.b = p := (hX.re (B := lrow bw 66 v.nw (fun i => .int .u64 (wd v.b i : Nat)) * (blk p (.cells (bvC v bw bu) 84 (0, 0)) * lrow bu 66 v.nu (fun i => .int .u64 (us v.b i : Nat)))) (by unfold bvX; ac_rfl)).ne (has_lrow _ _ _ _) (has_l (has_blk _ _))
  have ne2 : ¬ bw.b = bu.b := (hX.re (B := lrow bw 66 v.nw (fun i => .int .u64 (wd v.b i : Nat)) * (lrow bu 66 v.nu (fun i => .int .u64 (us v.b i : Nat)) * blk p (.cells (bvC v bw bu) 84 (0, 0)))) (by unfold bvX; ac_rfl)).ne (has_lrow _ _ _ _) (has_l (has_lrow _ _ _ _))
  have ne3 : ¬ p = bw.b := fun e => ne1 e.symm
  have ne4 : ¬ bu.b = bw.b := fun e => ne2 e.symm
  have FIN := Lib.hid (fun m => bv_turn c a (a / 64) (a % 64) ha hiu hc hak hk hX m)
  have OR := or_pow (us v.b (a / 64)) (a % 64) (us_lt _ _) hk
  have AN := andn_pow (us v.b (a / 64)) (a % 64) (us_lt _ _) hk
  have q1 : (a : Int) / 64 = ((a / 64 : Nat) : Int) := rfl
  have q2 : (a : Int) % 64 = ((a % 64 : Nat) : Int) := rfl
  have haI : (a : Int) < (v.nw : Int) := by omega
  have hiI : ((a / 64 : Nat) : Int) < (v.nu : Int) := by omega
  by_cases hz : wd c a = 0
  · rw [us_zero a (a / 64) (a % 64) hc hak hk hz] at AN
    rw [hz] at FIN ⊢
    generalize us c (a / 64) = u1 at *
    generalize us v.b (a / 64) = u0 at *
    generalize wd v.b a = wa at *
    generalize a / 64 = i at *
    generalize a % 64 = k at *
    clear h hX R OR hz hc hak hv
    go_enter Tryd.func52, Tryd.ntmps52
    go_wp2
    go_region
    all_goals go_wp2
    all_goals go_end0
    all_goals exact ⟨rfl, FIN.out _⟩
  · rw [us_one a (a / 64) (a % 64) hc hak hk hz] at OR
    have hzI : ¬ ((wd c a : Nat) : Int) = 0 := by omega
    have hwb := wd_lt c a
    generalize hW : wd c a = W at *
    generalize us c (a / 64) = u1 at *
    generalize us v.b (a / 64) = u0 at *
    generalize wd v.b a = wa at *
    generalize a / 64 = i at *
    generalize a % 64 = k at *
    clear h hX R AN hz hc hak hv hW
    go_enter Tryd.func52, Tryd.ntmps52
    go_wp2
    go_region
    all_goals go_wp2
    all_goals go_end0
    all_goals exact ⟨rfl, FIN.out _⟩

end Go.Proofs.YtaaapbfhedgnjaaDoor.BV
