/- The checksum finds a burst of four bytes: plain numbers. -/
import Derived.Test.YtpdnbkibnpkfbacSeR
namespace Go.Proofs.Ytpdnbkibnpkfbac.Crc

theorem xor_max (r : Nat) (h : r < 2 ^ 32) : 4294967295 - r = 4294967295 ^^^ r := by
  apply Nat.eq_of_testBit_eq
  intro i
  have := Nat.testBit_two_pow_sub_succ (x := r) (n := 32) h i
  rw [Nat.testBit_xor, show 4294967295 - r = 2 ^ 32 - (r + 1) by omega, this, show (4294967295 : Nat) = 2 ^ 32 - 1 by rfl, Nat.testBit_two_pow_sub_one]
  by_cases hi : i < 32
  · simp [hi]
  · rw [Nat.testBit_lt_two_pow (x := r) (i := i) (Nat.lt_of_lt_of_le h (Nat.pow_le_pow_right (by omega) (by omega)))]; simp [hi]

/-- four bytes as a word -/
def w4 (c : List UInt8) : Nat := word (c.getD 0 0).toNat (c.getD 1 0).toNat (c.getD 2 0).toNat (c.getD 3 0).toNat

theorem w4_lt (c : List UInt8) : w4 c < 2 ^ 32 := by
  unfold w4 word
  have h0 := (c.getD 0 0).toNat_lt
  have h1 := (c.getD 1 0).toNat_lt
  have h2 := (c.getD 2 0).toNat_lt
  have h3 := (c.getD 3 0).toNat_lt
  omega

theorem run4 (r : Nat) (c : List UInt8) (hc : c.length = 4) : run r c = it 32 (r ^^^ w4 c) := by
  match c, hc with
  | [a, b, d, e], _ =>
    show by_ (by_ (by_ (by_ r a.toNat) b.toNat) d.toNat) e.toNat = _
    exact by4 r _ _ _ _ a.toNat_lt b.toNat_lt d.toNat_lt

theorem w4_le4 (n : Nat) (h : n < 2 ^ 32) : w4 (le4 n) = n := by
  unfold w4 le4 word
  simp
  omega

theorem le4_w4 (c : List UInt8) (hc : c.length = 4) : le4 (w4 c) = c := by
  match c, hc with
  | [a, b, d, e], _ =>
    have h0 := a.toNat_lt
    have h1 := b.toNat_lt
    have h2 := d.toNat_lt
    have h3 := e.toNat_lt
    unfold le4 w4 word
    simp only [List.getD_cons_zero, List.getD_cons_succ]
    have e0 : ∀ (x : UInt8) (n : Nat), n % 256 = x.toNat → n.toUInt8 = x := by
      intro x n hn
      apply UInt8.toNat_inj.1
      simpa using hn
    rw [e0 a _ (by omega), e0 b _ (by omega), e0 d _ (by omega), e0 e _ (by omega)]

theorem M_lt : 4294967295 < 2 ^ 32 := by decide

/-- a text of four bytes and more is sealed just where the register comes to one number -/
theorem sealed_iff (t : List UInt8) (ht : 4 ≤ t.length) : sealL (t.take (t.length - 4)) = t ↔ run 4294967295 t = it 32 4294967295 := by
  obtain ⟨b, c, rfl, hc⟩ : ∃ b c, t = b ++ c ∧ c.length = 4 := ⟨t.take (t.length - 4), t.drop (t.length - 4), (List.take_append_drop _ _).symm, by simp; omega⟩
  have e1 : (b ++ c).take ((b ++ c).length - 4) = b := by
    rw [List.length_append, hc, Nat.add_sub_cancel, List.take_left']
    rfl
  rw [e1]
  have hR := run_lt 4294967295 b M_lt
  have e2 : sealL b = b ++ c ↔ le4 (4294967295 - run 4294967295 b) = c := by
    unfold sealL
    exact ⟨fun h => List.append_cancel_left h, fun h => by rw [h]⟩
  rw [e2, run_append, run4 _ _ hc]
  generalize run 4294967295 b = R at *
  have hw := w4_lt c
  rw [xor_max R hR]
  constructor
  · intro h
    have : w4 c = 4294967295 ^^^ R := by rw [← h, w4_le4 _ (Nat.xor_lt_two_pow M_lt hR)]
    rw [this, Nat.xor_comm 4294967295 R, ← Nat.xor_assoc, Nat.xor_self, Nat.zero_xor]
  · intro h
    have h2 := it_inj 32 _ _ (Nat.xor_lt_two_pow hR hw) M_lt h
    have h3 : w4 c = 4294967295 ^^^ R := by
      rw [← h2, Nat.xor_comm R, Nat.xor_assoc, Nat.xor_self, Nat.xor_zero]
    rw [← h3]
    exact le4_w4 c hc

theorem sealL_len (l : List UInt8) : (sealL l).length = l.length + 4 := by simp [sealL, le4]

theorem seal_take (l : List UInt8) : (sealL l).take ((sealL l).length - 4) = l := by
  rw [sealL_len, Nat.add_sub_cancel]
  unfold sealL
  rw [List.take_left']
  rfl

theorem seal_run (l : List UInt8) : run 4294967295 (sealL l) = it 32 4294967295 := by
  rw [← sealed_iff _ (by rw [sealL_len]; omega), seal_take]

/-- bytes of a word, from a place on, over a text -/
def xb (w k : Nat) (c : UInt8) : UInt8 := c ^^^ (w / 256 ^ k).toUInt8
def x4 (w : Nat) (c : List UInt8) : List UInt8 := [xb w 0 (c.getD 0 0), xb w 1 (c.getD 1 0), xb w 2 (c.getD 2 0), xb w 3 (c.getD 3 0)]
def turnL (l : List UInt8) (p w : Nat) : List UInt8 := l.take p ++ x4 w ((l.drop p).take 4) ++ l.drop (p + 4)

theorem word_xor (c : List UInt8) (w : Nat) (hw : w < 2 ^ 32) : w4 (x4 w c) = w4 c ^^^ w := by
  have g : ∀ a0 a1 a2 a3 : Nat, a0 < 256 → a1 < 256 → a2 < 256 → a3 < 256 → word a0 a1 a2 a3 = a0 ^^^ 256 * a1 ^^^ 65536 * a2 ^^^ 16777216 * a3 := fun a0 a1 a2 a3 h0 h1 h2 h3 => word_bits a0 a1 a2 a3 h0 h1 h2
  have sp : w = word (w % 256) (w / 256 % 256) (w / 65536 % 256) (w / 16777216 % 256) := by unfold word; omega
  have mx : ∀ n a b : Nat, 2 ^ n * (a ^^^ b) = 2 ^ n * a ^^^ 2 ^ n * b := by
    intro n a b
    rw [Nat.mul_comm, ← Nat.shiftLeft_eq, Nat.shiftLeft_xor_distrib, Nat.shiftLeft_eq, Nat.shiftLeft_eq, Nat.mul_comm, Nat.mul_comm b]
  have t0 : ∀ (c : UInt8) (n : Nat), (c ^^^ n.toUInt8).toNat = c.toNat ^^^ (n % 256) := by intro c n; simp
  unfold w4 x4 xb
  simp only [List.getD_cons_zero, List.getD_cons_succ, t0]
  have h0 := (c.getD 0 0).toNat_lt
  have h1 := (c.getD 1 0).toNat_lt
  have h2 := (c.getD 2 0).toNat_lt
  have h3 := (c.getD 3 0).toNat_lt
  generalize (c.getD 0 0).toNat = a0 at *
  generalize (c.getD 1 0).toNat = a1 at *
  generalize (c.getD 2 0).toNat = a2 at *
  generalize (c.getD 3 0).toNat = a3 at *
  have x8 : ∀ a b : Nat, a < 256 → a ^^^ b % 256 < 256 := fun a b h => Nat.xor_lt_two_pow (n := 8) h (Nat.mod_lt _ (by decide))
  rw [show w / 256 ^ 0 = w by simp, show w / 256 ^ 1 = w / 256 by simp, show w / 256 ^ 2 = w / 65536 by rfl, show w / 256 ^ 3 = w / 16777216 by rfl]
  rw [g _ _ _ _ (x8 a0 w h0) (x8 a1 _ h1) (x8 a2 _ h2) (x8 a3 _ h3), g a0 a1 a2 a3 h0 h1 h2 h3]
  conv => rhs; rw [sp, g _ _ _ _ (Nat.mod_lt _ (by decide)) (Nat.mod_lt _ (by decide)) (Nat.mod_lt _ (by decide)) (Nat.mod_lt _ (by decide))]
  rw [show 256 * (a1 ^^^ w / 256 % 256) = 256 * a1 ^^^ 256 * (w / 256 % 256) from mx 8 _ _, show 65536 * (a2 ^^^ w / 65536 % 256) = 65536 * a2 ^^^ 65536 * (w / 65536 % 256) from mx 16 _ _, show 16777216 * (a3 ^^^ w / 16777216 % 256) = 16777216 * a3 ^^^ 16777216 * (w / 16777216 % 256) from mx 24 _ _]
  ac_rfl

theorem x4_len (w : Nat) (c : List UInt8) : (x4 w c).length = 4 := rfl

/-- what is turned within four bytes is told by the register -/
theorem turn_iff (l : List UInt8) (p w : Nat) (hp : p ≤ l.length) (hw : w < 2 ^ 32) : sealL ((turnL (sealL l) p w).take ((turnL (sealL l) p w).length - 4)) = turnL (sealL l) p w ↔ w = 0 := by
  have hL := sealL_len l
  have hlen : (turnL (sealL l) p w).length = l.length + 4 := by
    unfold turnL
    rw [List.length_append, List.length_append, x4_len, List.length_take, List.length_drop, hL]; omega
  rw [sealed_iff _ (by omega)]
  have hsp : sealL l = (sealL l).take p ++ ((sealL l).drop p).take 4 ++ (sealL l).drop (p + 4) := by
    rw [List.append_assoc, ← List.drop_drop, List.take_append_drop, List.take_append_drop]
  have h4 : (((sealL l).drop p).take 4).length = 4 := by rw [List.length_take, List.length_drop, hL]; omega
  have hr := seal_run l
  have hA := run_lt 4294967295 ((sealL l).take p) M_lt
  rw [hsp, run_append, run_append, run4 _ _ h4] at hr
  unfold turnL
  rw [run_append, run_append, run4 _ _ (x4_len w _), word_xor _ _ hw, ← hr]
  have hc := w4_lt (((sealL l).drop p).take 4)
  generalize run 4294967295 ((sealL l).take p) = R at *
  generalize w4 (((sealL l).drop p).take 4) = c at *
  generalize (sealL l).drop (p + 4) = B at *
  constructor
  · intro h
    have h1 := run_inj _ _ B (it_lt _ _ (Nat.xor_lt_two_pow hA (Nat.xor_lt_two_pow hc hw))) (it_lt _ _ (Nat.xor_lt_two_pow hA hc)) h
    have h2 := it_inj 32 _ _ (Nat.xor_lt_two_pow hA (Nat.xor_lt_two_pow hc hw)) (Nat.xor_lt_two_pow hA hc) h1
    rw [← Nat.xor_assoc] at h2
    have h3 := congrArg (fun x => (R ^^^ c) ^^^ x) h2
    simpa [← Nat.xor_assoc, Nat.xor_self] using h3
  · intro h
    subst h
    rw [Nat.xor_zero]

end Go.Proofs.Ytpdnbkibnpkfbac.Crc
