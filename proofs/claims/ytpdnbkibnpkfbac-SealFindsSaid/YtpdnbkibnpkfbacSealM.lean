/- The checksum of layer 6 as plain numbers: one step of the register, eight of them, a table of eight, a text. -/
import Derived.Test.YtpdnbkibnpkfbacBase
namespace Go.Proofs.Ytpdnbkibnpkfbac.Crc

def poly : Nat := 2197175160

/-- one bit -/
def st (r : Nat) : Nat := r / 2 ^^^ (if r % 2 = 1 then poly else 0)

def it (n : Nat) (r : Nat) : Nat := match n with
  | 0 => r
  | n + 1 => it n (st r)

theorem it_succ (n r : Nat) : it (n + 1) r = st (it n r) := by
  induction n generalizing r with
  | zero => rfl
  | succ n ih => show it (n + 1) (st r) = _; rw [ih]; rfl

theorem it_add (m n r : Nat) : it (m + n) r = it m (it n r) := by
  induction n generalizing r with
  | zero => rfl
  | succ n ih => show it (m + n) (st r) = it m (it n (st r)); exact ih _

theorem half_xor (a b : Nat) : (a ^^^ b) / 2 = a / 2 ^^^ b / 2 := by
  have := Nat.shiftRight_xor_distrib (a := a) (b := b) (i := 1)
  simpa [Nat.shiftRight_eq_div_pow] using this

theorem low_xor (a b : Nat) : (a ^^^ b) % 2 = (a % 2 + b % 2) % 2 := by
  have := Nat.xor_mod_two_pow (a := a) (b := b) (n := 1)
  rw [show (2 : Nat) ^ 1 = 2 by rfl] at this
  rw [this]
  rcases Nat.mod_two_eq_zero_or_one a with ha | ha <;> rcases Nat.mod_two_eq_zero_or_one b with hb | hb <;> rw [ha, hb] <;> rfl

theorem st_xor (a b : Nat) : st (a ^^^ b) = st a ^^^ st b := by
  unfold st
  rw [half_xor]
  have h := low_xor a b
  have e : ∀ x y z t : Nat, (x ^^^ y) ^^^ (z ^^^ t) = (x ^^^ z) ^^^ (y ^^^ t) := by
    intro x y z t
    ac_rfl
  rw [e]
  congr 1
  rcases Nat.mod_two_eq_zero_or_one a with ha | ha <;> rcases Nat.mod_two_eq_zero_or_one b with hb | hb <;> rw [ha, hb] at h <;> simp [ha, hb, h, Nat.xor_self]

theorem it_xor (n a b : Nat) : it n (a ^^^ b) = it n a ^^^ it n b := by
  induction n generalizing a b with
  | zero => rfl
  | succ n ih => show it n (st (a ^^^ b)) = it n (st a) ^^^ it n (st b); rw [st_xor, ih]

theorem st_lt (r : Nat) (h : r < 2 ^ 32) : st r < 2 ^ 32 := by
  unfold st
  refine Nat.xor_lt_two_pow (by omega) ?_
  split
  · decide
  · decide

theorem it_lt (n r : Nat) (h : r < 2 ^ 32) : it n r < 2 ^ 32 := by
  induction n generalizing r with
  | zero => exact h
  | succ n ih => exact ih _ (st_lt r h)

theorem st_zero : st 0 = 0 := by decide

theorem it_zero (n : Nat) : it n 0 = 0 := by
  induction n with
  | zero => rfl
  | succ n ih => show it n (st 0) = 0; rw [st_zero, ih]

theorem st_two (y : Nat) : st (2 * y) = y := by
  unfold st
  rw [if_neg (by omega)]
  simp

theorem it_pow (n y : Nat) : it n (2 ^ n * y) = y := by
  induction n generalizing y with
  | zero => show 1 * y = y; omega
  | succ n ih =>
    show it n (st (2 ^ (n + 1) * y)) = y
    rw [show 2 ^ (n + 1) * y = 2 * (2 ^ n * y) by rw [Nat.pow_succ]; ac_rfl, st_two, ih]

theorem parts (x : Nat) : x = (256 * (x / 256)) ^^^ (x % 256) := by
  have h := Nat.two_pow_add_eq_or_of_lt (i := 8) (b := x % 256) (by omega) (x / 256)
  apply Nat.eq_of_testBit_eq
  intro i
  rw [Nat.testBit_xor]
  have e1 : (256 * (x / 256)).testBit i = (decide (8 ≤ i) && x.testBit i) := by
    rw [show 256 * (x / 256) = 2 ^ 8 * (x / 2 ^ 8) by rfl, Nat.testBit_two_pow_mul]
    by_cases h : 8 ≤ i
    · rw [Nat.testBit_div_two_pow, Nat.sub_add_cancel h]
    · simp [h]
  have e2 : (x % 256).testBit i = (decide (i < 8) && x.testBit i) := Nat.testBit_mod_two_pow x 8 i
  rw [e1, e2]
  by_cases h : 8 ≤ i
  · simp [h, Nat.not_lt.2 h]
  · simp [h, Nat.lt_of_not_le h]

/-- the table's way -/
theorem it8 (x : Nat) : it 8 x = x / 256 ^^^ it 8 (x % 256) := by
  have h : x = (2 ^ 8 * (x / 256)) ^^^ (x % 256) := parts x
  have e := it_pow 8 (x / 256)
  have e2 := it_xor 8 (2 ^ 8 * (x / 256)) (x % 256)
  rw [e, ← h] at e2
  exact e2

/-- a byte -/
def by_ (r c : Nat) : Nat := it 8 (r ^^^ c)

theorem by_lt (r c : Nat) (h : r < 2 ^ 32) (hc : c < 256) : by_ r c < 2 ^ 32 := it_lt _ _ (Nat.xor_lt_two_pow h (by omega))

theorem by_table (r c : Nat) (hc : c < 256) : by_ r c = r / 256 ^^^ it 8 (r % 256 ^^^ c) := by
  unfold by_
  rw [it8]
  congr 1
  · have := Nat.shiftRight_xor_distrib (a := r) (b := c) (i := 8)
    simp only [Nat.shiftRight_eq_div_pow] at this
    rw [show (256 : Nat) = 2 ^ 8 by rfl, this, Nat.div_eq_of_lt hc, Nat.xor_zero]
  · congr 1
    rw [show (256 : Nat) = 2 ^ 8 by rfl, Nat.xor_mod_two_pow, Nat.mod_eq_of_lt hc]

/-- the document's way: k rounds of a byte -/
def rb (r c : Nat) : Nat := if r % 2 = c % 2 then r / 2 else r / 2 ^^^ poly

theorem rb_st (r c : Nat) : rb r c ^^^ c / 2 = st (r ^^^ c) := by
  unfold rb st
  rw [half_xor]
  have h := low_xor r c
  by_cases e : r % 2 = c % 2
  · rw [if_pos e, if_neg (by omega)]; simp
  · rw [if_neg e, if_pos (by omega)]; ac_rfl

theorem rb_round (r c x : Nat) (k : Nat) (h : r ^^^ c = it k x) : rb r c ^^^ c / 2 = it (k + 1) x := by
  rw [rb_st, h, it_succ]

theorem rb_lt (r c : Nat) (h : r < 2 ^ 32) : rb r c < 2 ^ 32 := by
  unfold rb
  split
  · omega
  · exact Nat.xor_lt_two_pow (by omega) (by decide)

/-- a text -/
def run (r : Nat) (l : List UInt8) : Nat := l.foldl (fun r c => by_ r c.toNat) r

theorem run_nil (r : Nat) : run r [] = r := rfl
theorem run_cons (r : Nat) (c : UInt8) (l : List UInt8) : run r (c :: l) = run (by_ r c.toNat) l := rfl
theorem run_append (r : Nat) (a b : List UInt8) : run r (a ++ b) = run (run r a) b := by unfold run; rw [List.foldl_append]
theorem run_snoc (r : Nat) (l : List UInt8) (c : UInt8) : run r (l ++ [c]) = by_ (run r l) c.toNat := by rw [run_append]; rfl

theorem run_lt (r : Nat) (l : List UInt8) (h : r < 2 ^ 32) : run r l < 2 ^ 32 := by
  induction l generalizing r with
  | nil => exact h
  | cons c l ih => exact ih _ (by_lt _ _ h c.toNat_lt)

/-- the register never forgets -/
theorem st_inj (a b : Nat) (ha : a < 2 ^ 32) (hb : b < 2 ^ 32) (h : st a = st b) : a = b := by
  have z : st (a ^^^ b) = 0 := by rw [st_xor, h, Nat.xor_self]
  have l : a ^^^ b < 2 ^ 32 := Nat.xor_lt_two_pow ha hb
  generalize hx : a ^^^ b = x at z l
  have x0 : x = 0 := by
    unfold st at z
    by_cases e : x % 2 = 1
    · rw [if_pos e] at z
      have e2 : x / 2 = poly := by
        have := congrArg (· ^^^ poly) z
        simpa [Nat.xor_assoc, Nat.xor_self] using this
      unfold poly at e2
      omega
    · rw [if_neg e] at z
      have : x / 2 = 0 := by simpa using z
      omega
  have := congrArg (· ^^^ b) hx
  rw [x0] at this
  simpa [Nat.xor_assoc, Nat.xor_self] using this

theorem it_inj (n a b : Nat) (ha : a < 2 ^ 32) (hb : b < 2 ^ 32) (h : it n a = it n b) : a = b := by
  induction n generalizing a b with
  | zero => exact h
  | succ n ih => exact st_inj a b ha hb (ih _ _ (st_lt a ha) (st_lt b hb) h)

theorem xor_cancel (a b c : Nat) (h : a ^^^ c = b ^^^ c) : a = b := by
  have := congrArg (· ^^^ c) h
  simpa [Nat.xor_assoc, Nat.xor_self] using this

theorem run_inj (a b : Nat) (l : List UInt8) (ha : a < 2 ^ 32) (hb : b < 2 ^ 32) (h : run a l = run b l) : a = b := by
  induction l generalizing a b with
  | nil => exact h
  | cons c l ih =>
    have hc := c.toNat_lt
    have e := ih _ _ (by_lt a _ ha hc) (by_lt b _ hb hc) h
    unfold by_ at e
    have e2 := it_inj 8 _ _ (Nat.xor_lt_two_pow ha (by omega)) (Nat.xor_lt_two_pow hb (by omega)) e
    exact xor_cancel _ _ _ e2

/-- four bytes are one word, the least byte first -/
def word (c0 c1 c2 c3 : Nat) : Nat := c0 + 256 * c1 + 65536 * c2 + 16777216 * c3

theorem word_bits (c0 c1 c2 c3 : Nat) (h0 : c0 < 256) (h1 : c1 < 256) (h2 : c2 < 256) : word c0 c1 c2 c3 = c0 ^^^ 256 * c1 ^^^ 65536 * c2 ^^^ 16777216 * c3 := by
  have a1 := parts (c0 + 256 * c1)
  rw [show (c0 + 256 * c1) / 256 = c1 by omega, show (c0 + 256 * c1) % 256 = c0 by omega] at a1
  have p16 : ∀ x y, x < 65536 → x + 65536 * y = x ^^^ 65536 * y := by
    intro x y hx
    have := Nat.two_pow_add_eq_or_of_lt (i := 16) (b := x) hx y
    rw [show x + 65536 * y = 2 ^ 16 * y + x by omega, this]
    apply Nat.eq_of_testBit_eq
    intro i
    rw [show 65536 * y = 2 ^ 16 * y by rfl, Nat.testBit_xor, Nat.testBit_or, Nat.testBit_two_pow_mul]
    by_cases h : 16 ≤ i
    · have : x.testBit i = false := Nat.testBit_lt_two_pow (Nat.lt_of_lt_of_le hx (by have := Nat.pow_le_pow_right (n := 2) (by omega) h; simpa using this))
      simp [this]
    · simp [h]
  have p24 : ∀ x y, x < 16777216 → x + 16777216 * y = x ^^^ 16777216 * y := by
    intro x y hx
    have := Nat.two_pow_add_eq_or_of_lt (i := 24) (b := x) hx y
    rw [show x + 16777216 * y = 2 ^ 24 * y + x by omega, this]
    apply Nat.eq_of_testBit_eq
    intro i
    rw [show 16777216 * y = 2 ^ 24 * y by rfl, Nat.testBit_xor, Nat.testBit_or, Nat.testBit_two_pow_mul]
    by_cases h : 24 ≤ i
    · have : x.testBit i = false := Nat.testBit_lt_two_pow (Nat.lt_of_lt_of_le hx (by have := Nat.pow_le_pow_right (n := 2) (by omega) h; simpa using this))
      simp [this]
    · simp [h]
  unfold word
  rw [p24 _ _ (by omega), p16 _ _ (by omega), a1, Nat.xor_comm (256 * c1)]

theorem by4 (r c0 c1 c2 c3 : Nat) (h0 : c0 < 256) (h1 : c1 < 256) (h2 : c2 < 256) : by_ (by_ (by_ (by_ r c0) c1) c2) c3 = it 32 (r ^^^ word c0 c1 c2 c3) := by
  have pw : ∀ n y z, it n (y ^^^ (2 ^ n * z)) = it n y ^^^ z := fun n y z => by rw [it_xor, it_pow]
  unfold by_
  have e1 : it 8 (it 8 (r ^^^ c0) ^^^ c1) = it 16 (r ^^^ c0 ^^^ 256 * c1) := by
    rw [show (16 : Nat) = 8 + 8 by rfl, it_add 8 8, show 256 * c1 = 2 ^ 8 * c1 by rfl, pw]
  have e2 : it 8 (it 16 (r ^^^ c0 ^^^ 256 * c1) ^^^ c2) = it 24 (r ^^^ c0 ^^^ 256 * c1 ^^^ 65536 * c2) := by
    rw [show (24 : Nat) = 8 + 16 by rfl, it_add 8 16, show 65536 * c2 = 2 ^ 16 * c2 by rfl, pw]
  have e3 : it 8 (it 24 (r ^^^ c0 ^^^ 256 * c1 ^^^ 65536 * c2) ^^^ c3) = it 32 (r ^^^ c0 ^^^ 256 * c1 ^^^ 65536 * c2 ^^^ 16777216 * c3) := by
    rw [show (32 : Nat) = 8 + 24 by rfl, it_add 8 24, show 16777216 * c3 = 2 ^ 24 * c3 by rfl, pw]
  rw [e1, e2, e3]
  rw [word_bits c0 c1 c2 c3 h0 h1 h2]
  congr 1
  ac_rfl

end Go.Proofs.Ytpdnbkibnpkfbac.Crc
