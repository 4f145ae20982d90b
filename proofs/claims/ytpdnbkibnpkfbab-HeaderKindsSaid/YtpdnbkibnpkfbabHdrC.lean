/- First, Size, Put, Take of package header. -/
import Derived.Test.YtpdnbkibnpkfbabHdrB
namespace Go.Proofs.Ytpdnbkibnpkfbab
open Go.ChangeShapes Go.WideShapes Go.ChangeAt Go.RowKit

/-- what First says -/
def firstOf (p f k : Int) : Int := if k = 2 then p else if k = 3 then p + f else 0

theorem keep3 {B b n : Nat} {x y z : Value} {W w0 w1 : World} (hb : Below n w0 w1)
    (h : w0.cell? ⟨b, 0, none⟩ = some x ∧ w0.cell? ⟨b, 1, none⟩ = some y ∧ w0.cell? ⟨b, 2, none⟩ = some z ∧ b < w0.heap.size ∧ Below B W w0) (hn : b < n) (hB : B ≤ n) :
    w1.cell? ⟨b, 0, none⟩ = some x ∧ w1.cell? ⟨b, 1, none⟩ = some y ∧ w1.cell? ⟨b, 2, none⟩ = some z ∧ b < w1.heap.size ∧ Below B W w1 :=
  ⟨(hb.cell (p := ⟨b, 0, none⟩) hn).trans h.1, (hb.cell (p := ⟨b, 1, none⟩) hn).trans h.2.1, (hb.cell (p := ⟨b, 2, none⟩) hn).trans h.2.2.1, Nat.lt_of_lt_of_le h.2.2.2.1 hb.size, h.2.2.2.2.trans (hb.mono hB)⟩

theorem first_any {p f w p' f' w' : Int} (h : Eff p f w p' f' w') (hw : HW p f w) (k : Int) (W : World) :
    Calls Try.prog 33 #[hdr p f w, .int .i64 k] W fun e W' => e = .returned (.int .i64 (firstOf p' f' k)) ∧ Below W.heap.size W W' := by
  obtain ⟨b1, b2, b3, b4⟩ := h.bounds
  by_cases c2 : k = 2
  · subst c2
    go_enter Try.func33, Try.ntmps33
    go_wp2_with (go_at_call 31; refine (count_any h hw _ _).mono ?_; rintro e w1 ⟨rfl, hb⟩; obtain ⟨hc, hz⟩ := bcell hb; have hs := hb.size; try simp at hs hc hz)
    go_ret
    exact ⟨by simp [countOf, firstOf], (by repeat (first | exact Below.refl _ _ | refine below_drewN ?_ _ | refine Below.drew ?_ | refine Below.alloc ?_ (by first | omega | (simp; done) | (simp; omega)) _ | refine Below.setCell ?_ (by first | omega | (simp; done) | (simp; omega)) _ | refine Below.step ?_ (by assumption) (by first | omega | (simp; done) | (simp; omega))))⟩
  by_cases c3 : k = 3
  · subst c3
    have e1 : countOf p' f' w' 1 = p' := by simp [countOf]
    have e2 : countOf p' f' w' 2 = f' := by simp [countOf]
    have n1 : 0 ≤ countOf p' f' w' 1 ∧ countOf p' f' w' 1 ≤ 255 := by omega
    have n2 : 0 ≤ countOf p' f' w' 2 ∧ countOf p' f' w' 2 ≤ 255 := by omega
    have E1 := Lib.hid e1
    have E2 := Lib.hid e2
    clear e1 e2
    obtain ⟨n10, n11⟩ := n1
    obtain ⟨n20, n21⟩ := n2
    go_enter Try.func33, Try.ntmps33
    go_wp2_with fail
    go_region_held3 (fun w' => w'.cell? ⟨W.heap.size, 0, none⟩ = some (.int .i64 p) ∧ w'.cell? ⟨W.heap.size, 1, none⟩ = some (.int .i64 f) ∧ w'.cell? ⟨W.heap.size, 2, none⟩ = some (.int .i64 w) ∧ W.heap.size < w'.heap.size ∧ Below W.heap.size W w') (first | exact ⟨by simp, by simp, by simp, by simp, ((Below.refl _ _).alloc (Nat.le_refl _) _).drew⟩ | exact keep3 (by assumption) (by assumption) (by first | omega | (simp; done) | (simp; omega)) (by first | omega | (simp; done) | (simp; omega)))
      (first | (go_at_call 31; refine (count_any h hw _ _).mono ?_; rintro e w1 ⟨rfl, hb⟩))
    go_wp2
    go_ret
    rename_i hh
    exact ⟨by rw [E1.out, E2.out, IntWalk.i64_in _ (by omega)]; simp [firstOf], hh.2.2.2.2⟩
  go_enter Try.func33, Try.ntmps33
  go_wp2
  go_ret
  exact ⟨by simp [firstOf, c2, c3], (by repeat (first | exact Below.refl _ _ | refine below_drewN ?_ _ | refine Below.drew ?_ | refine Below.alloc ?_ (by first | omega | (simp; done) | (simp; omega)) _ | refine Below.setCell ?_ (by first | omega | (simp; done) | (simp; omega)) _ | refine Below.step ?_ (by assumption) (by first | omega | (simp; done) | (simp; omega))))⟩

theorem size_ok (p f w : Int) (hp : 0 ≤ p) (hf : 0 ≤ f) (hw : 0 ≤ w) (h : p + f + w ≤ 255) (W : World) :
    Calls Try.prog 26 #[hdr p f w] W fun e W' => e = .returned (.int .i64 (1 + p + f + w)) ∧ Below W.heap.size W W' := by
  go_enter Try.func26, Try.ntmps26
  go_wp2_with (go_at_call 24; refine (check_ok p f w hp hf hw h _).mono ?_; rintro e w1 ⟨rfl, hb⟩; obtain ⟨hc, hz⟩ := bcell hb; have hs := hb.size; try simp at hs hc hz)
  go_ret
  exact ⟨rfl, (by repeat (first | exact Below.refl _ _ | refine below_drewN ?_ _ | refine Below.drew ?_ | refine Below.alloc ?_ (by first | omega | (simp; done) | (simp; omega)) _ | refine Below.setCell ?_ (by first | omega | (simp; done) | (simp; omega)) _ | refine Below.step ?_ (by assumption) (by first | omega | (simp; done) | (simp; omega))))⟩

theorem size_bad (p f w : Int) (h : ¬ Hok p f w) (hw : HW p f w) (W : World) :
    Calls Try.prog 26 #[hdr p f w] W fun e W' => e = .returned (.int .i64 0) ∧ Below W.heap.size W W' := by
  have H := Lib.hid h
  clear h
  go_enter Try.func26, Try.ntmps26
  go_wp2_with (go_at_call 24; refine (check_bad p f w H.out hw.p1 hw.f1 hw.w1 _).mono ?_; rintro e w1 ⟨rfl, hb⟩; obtain ⟨hc, hz⟩ := bcell hb; have hs := hb.size; try simp at hs hc hz)
  go_ret
  exact ⟨rfl, (by repeat (first | exact Below.refl _ _ | refine below_drewN ?_ _ | refine Below.drew ?_ | refine Below.alloc ?_ (by first | omega | (simp; done) | (simp; omega)) _ | refine Below.setCell ?_ (by first | omega | (simp; done) | (simp; omega)) _ | refine Below.step ?_ (by assumption) (by first | omega | (simp; done) | (simp; omega))))⟩

theorem put_bad (p f w : Int) (h : ¬ Hok p f w) (hw : HW p f w) (W : World) :
    Calls Try.prog 20 #[hdr p f w] W fun e W' => e = .returned (.tuple #[.int .u64 0, .int .i64 15]) ∧ Below W.heap.size W W' := by
  have H := Lib.hid h
  clear h
  go_enter Try.func20, Try.ntmps20
  go_wp2_with (go_at_call 24; refine (check_bad p f w H.out hw.p1 hw.f1 hw.w1 _).mono ?_; rintro e w1 ⟨rfl, hb⟩; obtain ⟨hc, hz⟩ := bcell hb; have hs := hb.size; try simp at hs hc hz)
  go_ret2
  exact ⟨rfl, (by repeat (first | exact Below.refl _ _ | refine below_drewN ?_ _ | refine Below.drew ?_ | refine Below.alloc ?_ (by first | omega | (simp; done) | (simp; omega)) _ | refine Below.setCell ?_ (by first | omega | (simp; done) | (simp; omega)) _ | refine Below.step ?_ (by assumption) (by first | omega | (simp; done) | (simp; omega))))⟩

/-- the word of a valid header -/
def hw64 (p f w : Int) : Int := (p + 256 * f + 65536 * w + 2768240640) + (4294967295 - (p + 256 * f + 65536 * w + 2768240640)) * 4294967296

theorem or32 (i : Nat) (a b : Int) (h0 : 0 ≤ a) (h1 : a.toNat < 2 ^ i) (h2 : 0 ≤ b) (h3 : b.toNat % 2 ^ i = 0) (h4 : a < 4294967296) (h5 : b < 4294967296) : bits .or .u32 a b = a + b := by
  rw [u32_or a b h0 h4 h2 h5, Nat.or_comm, nat_join i _ _ h3 h1]
  omega

theorem or64 (i : Nat) (a b : Int) (h0 : 0 ≤ a) (h1 : a.toNat < 2 ^ i) (h2 : 0 ≤ b) (h3 : b.toNat % 2 ^ i = 0) (h4 : a < 18446744073709551616) (h5 : b < 18446744073709551616) : bits .or .u64 b a = a + b := by
  rw [u64_or b a h2 h5 h0 h4, nat_join i _ _ h3 h1]
  omega

theorem put_value (p f w : Int) (hp : 0 ≤ p) (hf : 0 ≤ f) (hw : 0 ≤ w) (h : p + f + w ≤ 255) :
    bits BinOp.or IntKind.u32 (bits BinOp.or IntKind.u32 (bits BinOp.or IntKind.u32 p (f * 256)) (w * 65536)) 2768240640 = p + 256 * f + 65536 * w + 2768240640 := by
  rw [or32 8 p (f * 256) hp (by omega) (by omega) (by omega) (by omega) (by omega)]
  rw [or32 16 (p + f * 256) (w * 65536) (by omega) (by omega) (by omega) (by omega) (by omega) (by omega)]
  rw [or32 24 (p + f * 256 + w * 65536) 2768240640 (by omega) (by omega) (by omega) (by decide) (by omega) (by omega)]
  omega

theorem not32 (n : Int) (h0 : 0 ≤ n) (h1 : n < 4294967296) : bits BinOp.xor IntKind.u32 IntKind.u32.max n = 4294967295 - n := by
  have e : IntKind.u32.max = 4294967295 := by decide
  rw [e, u32_xor _ _ (by omega) (by omega) h0 h1]
  have h2 : (4294967295 : Int).toNat = 2 ^ 32 - 1 := by decide
  obtain ⟨k, rfl⟩ := Int.eq_ofNat_of_zero_le h0
  rw [h2, Int.toNat_natCast]
  have : (2 ^ 32 - 1) ^^^ k = 2 ^ 32 - 1 - k := by
    have := BitVec.toNat_not (x := BitVec.ofNat 32 k)
    have e2 : ~~~(BitVec.ofNat 32 k) = (BitVec.allOnes 32) ^^^ (BitVec.ofNat 32 k) := by rw [BitVec.allOnes_xor]
    rw [e2] at this
    simp only [BitVec.toNat_xor, BitVec.toNat_allOnes, BitVec.toNat_ofNat] at this
    rw [Nat.mod_eq_of_lt (by omega)] at this
    exact this
  rw [this]
  omega

theorem put_word (p f w : Int) (hp : 0 ≤ p) (hf : 0 ≤ f) (hw : 0 ≤ w) (h : p + f + w ≤ 255) :
    bits BinOp.or IntKind.u64 (IntKind.u64.wrap (IntKind.u64.wrap (bits BinOp.xor IntKind.u32 IntKind.u32.max (bits BinOp.or IntKind.u32 (bits BinOp.or IntKind.u32 (bits BinOp.or IntKind.u32 p (f * 256)) (w * 65536)) 2768240640)) * 4294967296))
      (IntKind.u64.wrap (bits BinOp.or IntKind.u32 (bits BinOp.or IntKind.u32 (bits BinOp.or IntKind.u32 p (f * 256)) (w * 65536)) 2768240640)) = hw64 p f w := by
  rw [put_value p f w hp hf hw h, not32 _ (by omega) (by omega)]
  simp only [IntKind.wrap_u64]
  rw [Int.emod_eq_of_lt (by omega) (by omega), Int.emod_eq_of_lt (a := p + _ + _ + _) (by omega) (by omega), Int.emod_eq_of_lt (by omega) (by omega)]
  rw [or64 32 _ _ (by omega) (by omega) (by omega) (by omega) (by omega) (by omega)]
  unfold hw64
  omega

theorem put_ok (p f w : Int) (hp : 0 ≤ p) (hf : 0 ≤ f) (hw : 0 ≤ w) (h : p + f + w ≤ 255) (W : World) :
    Calls Try.prog 20 #[hdr p f w] W fun e W' => e = .returned (.tuple #[.int .u64 (hw64 p f w), .int .i64 0]) ∧ Below W.heap.size W W' := by
  go_enter Try.func20, Try.ntmps20
  go_wp2_with (go_at_call 24; refine (check_ok p f w hp hf hw h _).mono ?_; rintro e w1 ⟨rfl, hb⟩; obtain ⟨hc, hz⟩ := bcell hb; have hs := hb.size; try simp at hs hc hz)
  go_ret2
  have e := put_word p f w hp hf hw (by assumption)
  refine ⟨?_, (by repeat (first | exact Below.refl _ _ | refine below_drewN ?_ _ | refine Below.drew ?_ | refine Below.alloc ?_ (by first | omega | (simp; done) | (simp; omega)) _ | refine Below.setCell ?_ (by first | omega | (simp; done) | (simp; omega)) _ | refine Below.step ?_ (by assumption) (by first | omega | (simp; done) | (simp; omega))))⟩
  rw [← e]
  rfl

end Go.Proofs.Ytpdnbkibnpkfbab
