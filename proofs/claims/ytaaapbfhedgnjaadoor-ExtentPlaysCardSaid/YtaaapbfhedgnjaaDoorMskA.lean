/- Plain arithmetic of 64-bit words: the count of ones by adding neighbours, and the turn of a word. No program here. -/
import Derived.Laws.BitsAllLaws
import Derived.Lib.TrailingZeros
namespace Go.Proofs.YtaaapbfhedgnjaaDoor

theorem land_base (k a b c d : Nat) (ha : a < 2 ^ k) (hc : c < 2 ^ k) : (a + 2 ^ k * b) &&& (c + 2 ^ k * d) = (a &&& c) + 2 ^ k * (b &&& d) := by
  have hac : a &&& c < 2 ^ k := Nat.lt_of_le_of_lt Nat.and_le_left ha
  apply Nat.eq_of_testBit_eq
  intro i
  rw [Nat.testBit_and, Nat.add_comm a, Nat.add_comm c, Nat.add_comm (a &&& c), Nat.testBit_two_pow_mul_add _ ha, Nat.testBit_two_pow_mul_add _ hc, Nat.testBit_two_pow_mul_add _ hac]
  split <;> simp [Nat.testBit_and]

theorem land4 (x m : Nat) : x &&& (1 + 4 * m) = x % 2 + 4 * ((x / 4) &&& m) := by
  have h := land_base 2 (x % 4) (x / 4) 1 m (by omega) (by omega)
  rw [show x % 4 + 2 ^ 2 * (x / 4) = x by omega] at h
  rw [show 1 + 4 * m = 1 + 2 ^ 2 * m by omega, h, Nat.and_one_is_mod]
  omega

/-- 0101..: n pairs -/
def mA : Nat → Nat | 0 => 0 | n + 1 => 1 + 4 * mA n
/-- sums of pairs -/
def pA : Nat → Nat → Nat | 0, _ => 0 | n + 1, x => (x % 2 + x / 2 % 2) + 4 * pA n (x / 4)

theorem stageA (n x : Nat) : (x / 2 &&& mA n) + (x &&& mA n) = pA n x := by
  induction n generalizing x with
  | zero => simp [mA, pA]
  | succ n ih =>
    simp only [mA, pA]
    rw [land4, land4, ← ih (x / 4), show x / 2 / 4 = x / 4 / 2 by omega]
    omega

theorem land16 (x m : Nat) : x &&& (3 + 16 * m) = x % 4 + 16 * ((x / 16) &&& m) := by
  have h := land_base 4 (x % 16) (x / 16) 3 m (by omega) (by omega)
  rw [show x % 16 + 2 ^ 4 * (x / 16) = x by omega] at h
  rw [show 3 + 16 * m = 3 + 2 ^ 4 * m by omega, h, nat_mask2]
  omega

def mB : Nat → Nat | 0 => 0 | n + 1 => 3 + 16 * mB n
def qB : Nat → Nat → Nat | 0, _ => 0 | n + 1, y => (y % 4 + y / 4 % 4) + 16 * qB n (y / 16)

theorem stageB (n y : Nat) : (y / 4 &&& mB n) + (y &&& mB n) = qB n y := by
  induction n generalizing y with
  | zero => simp [mB, qB]
  | succ n ih =>
    simp only [mB, qB]
    rw [land16, land16, ← ih (y / 16), show y / 4 / 16 = y / 16 / 4 by omega]
    omega

/-- ones of four bits -/
def o4 (x : Nat) : Nat := x % 2 + x / 2 % 2 + x / 4 % 2 + x / 8 % 2
def pB : Nat → Nat → Nat | 0, _ => 0 | n + 1, x => o4 x + 16 * pB n (x / 16)

theorem qB_pA (n x : Nat) : qB n (pA (2 * n) x) = pB n x := by
  induction n generalizing x with
  | zero => rfl
  | succ n ih =>
    have e : 2 * (n + 1) = 2 * n + 1 + 1 := by omega
    rw [e]
    simp only [pA, qB, pB]
    have h4 : x / 4 / 4 = x / 16 := by omega
    rw [h4, ← ih (x / 16)]
    unfold o4
    have e1 : (x % 2 + x / 2 % 2 + 4 * (x / 4 % 2 + x / 4 / 2 % 2 + 4 * pA (2 * n) (x / 16))) % 4 = x % 2 + x / 2 % 2 := by omega
    have e2 : (x % 2 + x / 2 % 2 + 4 * (x / 4 % 2 + x / 4 / 2 % 2 + 4 * pA (2 * n) (x / 16))) / 4 % 4 = x / 4 % 2 + x / 4 / 2 % 2 := by omega
    have e3 : (x % 2 + x / 2 % 2 + 4 * (x / 4 % 2 + x / 4 / 2 % 2 + 4 * pA (2 * n) (x / 16))) / 16 = pA (2 * n) (x / 16) := by omega
    rw [e1, e2, e3, show x / 4 / 2 = x / 8 by omega]
    omega

theorem land256 (x m : Nat) : x &&& (15 + 256 * m) = x % 16 + 256 * ((x / 256) &&& m) := by
  have h := land_base 8 (x % 256) (x / 256) 15 m (by omega) (by omega)
  rw [show x % 256 + 2 ^ 8 * (x / 256) = x by omega] at h
  rw [show 15 + 256 * m = 15 + 2 ^ 8 * m by omega, h, nat_mask4]
  omega

def mC : Nat → Nat | 0 => 0 | n + 1 => 15 + 256 * mC n
/-- ones of eight bits -/
def o8 (x : Nat) : Nat := o4 x + o4 (x / 16)
def pC : Nat → Nat → Nat | 0, _ => 0 | n + 1, x => o8 x + 256 * pC n (x / 256)

theorem o4_le (x : Nat) : o4 x ≤ 4 := by unfold o4; omega

theorem pB_low (n x : Nat) : pB n x % 16 ≤ 4 := by
  cases n with
  | zero => simp [pB]
  | succ n => simp only [pB]; have := o4_le x; omega

theorem stageC (n x : Nat) : (pB (2 * n) x / 16 + pB (2 * n) x) &&& mC n = pC n x := by
  induction n generalizing x with
  | zero => simp [mC, pC]
  | succ n ih =>
    have e : 2 * (n + 1) = 2 * n + 1 + 1 := by omega
    rw [e]
    simp only [pB, mC, pC]
    have h4 : x / 16 / 16 = x / 256 := by omega
    rw [h4, land256, ← ih (x / 256)]
    have a0 := o4_le x
    have a1 := o4_le (x / 16)
    have lo := pB_low (2 * n) (x / 256)
    generalize pB (2 * n) (x / 256) = z at lo ⊢
    unfold o8
    have e1 : ((o4 x + 16 * (o4 (x / 16) + 16 * z)) / 16 + (o4 x + 16 * (o4 (x / 16) + 16 * z))) % 16 = o4 x + o4 (x / 16) := by omega
    have e2 : ((o4 x + 16 * (o4 (x / 16) + 16 * z)) / 16 + (o4 x + 16 * (o4 (x / 16) + 16 * z))) / 256 = z / 16 + z := by omega
    rw [e1, e2]

/-- how many of the numbers below n are in a word -/
def cnt (x : Nat) : Nat → Nat | 0 => 0 | n + 1 => cnt x n + x / 2 ^ n % 2

theorem o8_le (x : Nat) : o8 x ≤ 8 := by unfold o8; have := o4_le x; have := o4_le (x / 16); omega

theorem bytes_sum (c0 c1 c2 c3 c4 c5 c6 c7 : Nat) (h0 : c0 ≤ 8) (h1 : c1 ≤ 8) (h2 : c2 ≤ 8) (h3 : c3 ≤ 8) (h4 : c4 ≤ 8) (h5 : c5 ≤ 8) (h6 : c6 ≤ 8) (h7 : c7 ≤ 8) (y y1 y2 : Nat)
    (hy : y = c0 + 256 * (c1 + 256 * (c2 + 256 * (c3 + 256 * (c4 + 256 * (c5 + 256 * (c6 + 256 * c7))))))) (hy1 : y1 = y + y / 256) (hy2 : y2 = y1 + y1 / 65536) :
    (y2 + y2 / 4294967296) % 128 = c0 + c1 + c2 + c3 + c4 + c5 + c6 + c7 ∧ y1 < 2 ^ 62 ∧ y2 < 2 ^ 62 := by
  obtain ⟨T6, e6⟩ : ∃ T, T = c6 + 256 * c7 := ⟨_, rfl⟩
  rw [← e6] at hy
  obtain ⟨T5, e5⟩ : ∃ T, T = c5 + 256 * T6 := ⟨_, rfl⟩
  rw [← e5] at hy
  obtain ⟨T4, e4⟩ : ∃ T, T = c4 + 256 * T5 := ⟨_, rfl⟩
  rw [← e4] at hy
  obtain ⟨T3, e3⟩ : ∃ T, T = c3 + 256 * T4 := ⟨_, rfl⟩
  rw [← e3] at hy
  obtain ⟨T2, e2⟩ : ∃ T, T = c2 + 256 * T3 := ⟨_, rfl⟩
  rw [← e2] at hy
  obtain ⟨T1, e1⟩ : ∃ T, T = c1 + 256 * T2 := ⟨_, rfl⟩
  rw [← e1] at hy
  have b6 : T6 ≤ 2056 := by clear e5 e4 e3 e2 e1 hy hy1 hy2; omega
  have b5 : T5 ≤ 526344 := by clear e6 e4 e3 e2 e1 hy hy1 hy2; omega
  have b4 : T4 ≤ 134744072 := by clear e6 e5 e3 e2 e1 hy hy1 hy2; omega
  have b3 : T3 ≤ 34494482440 := by clear e6 e5 e4 e2 e1 hy hy1 hy2; omega
  have b2 : T2 ≤ 8830587504648 := by clear e6 e5 e4 e3 e1 hy hy1 hy2; omega
  have b1 : T1 ≤ 2260630401189896 := by clear e6 e5 e4 e3 e2 hy hy1 hy2; omega
  have b0 : y ≤ 578721382704613384 := by clear e6 e5 e4 e3 e2 e1 hy1 hy2; omega
  have q1 : y / 256 = T1 := by clear e6 e5 e4 e3 e2 e1 hy1 hy2; omega
  rw [q1] at hy1
  -- sums of two
  obtain ⟨S6, s6⟩ : ∃ S, S = c7 + T6 := ⟨_, rfl⟩
  obtain ⟨S5, s5⟩ : ∃ S, S = T6 + T5 := ⟨_, rfl⟩
  obtain ⟨S4, s4⟩ : ∃ S, S = T5 + T4 := ⟨_, rfl⟩
  obtain ⟨S3, s3⟩ : ∃ S, S = T4 + T3 := ⟨_, rfl⟩
  obtain ⟨S2, s2⟩ : ∃ S, S = T3 + T2 := ⟨_, rfl⟩
  obtain ⟨S1, s1⟩ : ∃ S, S = T2 + T1 := ⟨_, rfl⟩
  have f0 : y1 = (c0 + c1) + 256 * S1 := by clear e6 e5 e4 e3 e2 s6 s5 s4 s3 s2 hy2 q1; omega
  have f1 : S1 = (c1 + c2) + 256 * S2 := by clear e6 e5 e4 e3 s6 s5 s4 s3 hy hy1 hy2 f0 q1; omega
  have f2 : S2 = (c2 + c3) + 256 * S3 := by clear e6 e5 e4 e1 s6 s5 s4 s1 hy hy1 hy2 f0 f1 q1; omega
  have f3 : S3 = (c3 + c4) + 256 * S4 := by clear e6 e5 e2 e1 s6 s5 s2 s1 hy hy1 hy2 f0 f1 f2 q1; omega
  have f4 : S4 = (c4 + c5) + 256 * S5 := by clear e6 e3 e2 e1 s6 s3 s2 s1 hy hy1 hy2 f0 f1 f2 f3 q1; omega
  have f5 : S5 = (c5 + c6) + 256 * S6 := by clear e4 e3 e2 e1 s4 s3 s2 s1 hy hy1 hy2 f0 f1 f2 f3 f4 q1; omega
  have q2 : y1 / 65536 = S2 := by clear e6 e5 e4 e3 e2 e1 s6 s5 s4 s3 s2 s1 hy hy1 hy2 f2 f3 f4 f5 q1; omega
  have d1 : S1 ≤ 2269460988694544 := by clear e6 e5 e4 e3 e2 e1 s6 s5 s4 s3 s2 hy hy1 hy2 f0 f1 f2 f3 f4 f5 q1 q2; omega
  have d2 : S2 ≤ 8865081987088 := by clear e6 e5 e4 e3 e2 e1 s6 s5 s4 s3 s1 hy hy1 hy2 f0 f1 f2 f3 f4 f5 q1 q2; omega
  rw [q2] at hy2
  clear e1 e2 e3 e4 e5 s1 s2 s3 s4 s5 q1 q2 hy hy1 b1 b2 b3 b4 b5
  obtain ⟨U4, u4⟩ : ∃ U, U = S4 + S6 := ⟨_, rfl⟩
  obtain ⟨U3, u3⟩ : ∃ U, U = S3 + S5 := ⟨_, rfl⟩
  obtain ⟨U2, u2⟩ : ∃ U, U = S2 + S4 := ⟨_, rfl⟩
  obtain ⟨U1, u1⟩ : ∃ U, U = S1 + S3 := ⟨_, rfl⟩
  have g0 : y2 = (c0 + c1 + (c2 + c3)) + 256 * U1 := by clear e6 s6 f1 f3 f4 f5 u4 u3 u2; omega
  have g1 : U1 = (c1 + c2 + (c3 + c4)) + 256 * U2 := by clear e6 s6 f0 f2 f4 f5 u4 u3 hy2 g0; omega
  have g2 : U2 = (c2 + c3 + (c4 + c5)) + 256 * U3 := by clear e6 s6 f0 f1 f3 f5 u4 u1 hy2 g0 g1; omega
  have g3 : U3 = (c3 + c4 + (c5 + c6)) + 256 * U4 := by clear e6 s6 f0 f1 f2 f4 u1 u2 hy2 g0 g1 g2; omega
  have g4 : U4 = (c4 + c5 + (c6 + c7)) + 256 * (S5 + c7) := by clear f0 f1 f2 f3 f5 u1 u2 u3 hy2 g0 g1 g2 g3; omega
  have q3 : y2 / 4294967296 = U4 := by clear e6 s6 f0 f1 f2 f3 f4 f5 u1 u2 u3 u4 hy2 g4; omega
  rw [q3]
  refine ⟨?_, ?_, ?_⟩
  · clear e6 s6 f0 f1 f2 f3 f4 f5 u1 u2 u3 u4 hy2 g1 g2 g3 q3; omega
  · clear e6 s6 f1 f2 f3 f4 f5 u1 u2 u3 u4 hy2 g0 g1 g2 g3 g4 q3; omega
  · clear e6 s6 f1 f2 f3 f4 f5 u1 u2 u3 u4 g0 g1 g2 g3 g4 q3; omega

end Go.Proofs.YtaaapbfhedgnjaaDoor
