/- Digits (layer 4): the numbers; what a byte is worth; the form of a text. -/
import Derived.Test.YtfgdfhcefgblaaaDoorDgT
import Derived.Laws.BitsAllLaws
namespace Go.Proofs.YtfgdfhcefgblaaaDoor
open Go.ChangeShapes Go.WideShapes Go.ChangeAt Go.RowKit

/-- what a byte is worth -/
def dv (c : Nat) : Nat := if 48 ≤ c ∧ c ≤ 57 then c - 48 else if 97 ≤ c ∧ c ≤ 102 then c - 97 + 10 else 99
def isD (B : Nat) (c : UInt8) : Bool := decide (dv c.toNat < B)

/-- is it the numeral of a number? -/
def fm (B : Nat) (l : List UInt8) : Bool := decide (0 < l.length) && !(decide (1 < l.length) && decide ((l.headD 0).toNat = 48)) && l.all (isD B)
def nv (B : Nat) (n : Nat) : List UInt8 → Nat
  | [] => n
  | c :: r => nv B (n * B + dv c.toNat) r
def rdE (B : Nat) (l : List UInt8) : Nat := if fm B l then (if nv B 0 l < 18446744073709551616 then 0 else 4) else 2
def rdV (B : Nat) (l : List UInt8) : Nat := if rdE B l = 0 then nv B 0 l else 0

theorem nv_mono (B : Nat) (hB : 1 ≤ B) : ∀ (l : List UInt8) (n : Nat), n ≤ nv B n l
  | [], n => Nat.le_refl _
  | c :: r, n => by
    have := nv_mono B hB r (n * B + dv c.toNat)
    have h2 : n ≤ n * B := Nat.le_mul_of_pos_right _ hB
    show n ≤ nv B (n * B + dv c.toNat) r
    omega

theorem nv_snoc (B : Nat) : ∀ (l : List UInt8) (n : Nat) (c : UInt8), nv B n (l ++ [c]) = nv B n l * B + dv c.toNat
  | [], n, c => rfl
  | d :: r, n, c => nv_snoc B r (n * B + dv d.toNat) c

theorem nv_app (B : Nat) : ∀ (l m : List UInt8) (n : Nat), nv B n (l ++ m) = nv B (nv B n l) m
  | [], m, n => rfl
  | d :: r, m, n => nv_app B r m (n * B + dv d.toNat)

theorem x_add (x y : Nat) (w : World) : (callFunc 28 #[.int .u64 x, .int .u64 y, .int .u64 0]).run Tryd.prog w = .ok (.value (.tuple #[.int .u64 (((x + y) % 18446744073709551616 : Nat) : Int), .int .u64 (((x + y) / 18446744073709551616 : Nat) : Int)])) w := by
  have h : ("math/bits.Add64", Extern.MathBitsCarry.rows[0].2) = Extern.MathBitsCarry.rows[0] := rfl
  rw [run_callFunc_extern (e := Extern.MathBitsCarry.rows[0].2) Tryd.func28 (by kernel_rfl) (by kernel_rfl) (by kernel_rfl) (by kernel_rfl)]
  rfl

theorem dg_is (c : UInt8) (w : World) : Calls Tryd.prog 26 #[.int .u8 c.toNat] w fun e w' => e = .returned (.bool (isD 10 c)) ∧ w = w' := by
  have hc := c.toNat_lt
  unfold isD dv
  generalize c.toNat = n at *
  by_cases h1 : 48 ≤ n
  · by_cases h2 : n ≤ 57
    · rw [if_pos ⟨h1, h2⟩, decide_eq_true (by omega)]
      have h1I : (48 : Int) ≤ (n : Int) := by omega
      have h2I : (n : Int) ≤ 57 := by omega
      go_enter Tryd.func26, Tryd.ntmps26
      go_wp2
      go_ret
      exact ⟨rfl, rfl⟩
    · rw [decide_eq_false (by rw [if_neg (fun h => h2 h.2)]; split <;> omega)]
      have h1I : (48 : Int) ≤ (n : Int) := by omega
      have h2I : ¬ (n : Int) ≤ 57 := by omega
      go_enter Tryd.func26, Tryd.ntmps26
      go_wp2
      go_ret
      exact ⟨rfl, rfl⟩
  · rw [decide_eq_false (by rw [if_neg (fun h => h1 h.1)]; split <;> omega)]
    have h1I : ¬ (48 : Int) ≤ (n : Int) := by omega
    go_enter Tryd.func26, Tryd.ntmps26
    go_wp2
    go_ret
    exact ⟨rfl, rfl⟩

theorem dg_hex (c : UInt8) (w : World) : Calls Tryd.prog 31 #[.int .u8 c.toNat] w fun e w' => e = .returned (.bool (isD 16 c)) ∧ w = w' := by
  have hc := c.toNat_lt
  have K := dg_is c w
  unfold isD at K ⊢
  by_cases h0 : dv c.toNat < 10
  · rw [decide_eq_true h0] at K
    rw [decide_eq_true (by omega)]
    have K := Lib.hid K
    clear h0
    go_enter Tryd.func31, Tryd.ntmps31
    go_wp2_with (go_at_call 26; with_reducible refine K.out.mono ?_; rintro e1 w1 ⟨rfl, rfl⟩)
    go_ret
    exact ⟨rfl, rfl⟩
  · rw [decide_eq_false h0] at K
    have hn : ¬ (48 ≤ c.toNat ∧ c.toNat ≤ 57) := fun h => h0 (by unfold dv; rw [if_pos h]; omega)
    unfold dv
    rw [if_neg hn]
    have K := Lib.hid K
    clear h0 hn
    generalize c.toNat = n at *
    by_cases h1 : 97 ≤ n
    · by_cases h2 : n ≤ 102
      · rw [if_pos ⟨h1, h2⟩, decide_eq_true (by omega)]
        have h1I : (97 : Int) ≤ (n : Int) := by omega
        have h2I : (n : Int) ≤ 102 := by omega
        go_enter Tryd.func31, Tryd.ntmps31
        go_wp2_with (go_at_call 26; with_reducible refine K.out.mono ?_; rintro e1 w1 ⟨rfl, rfl⟩)
        go_ret
        exact ⟨rfl, rfl⟩
      · rw [if_neg (fun h => h2 h.2), decide_eq_false (by omega)]
        have h1I : (97 : Int) ≤ (n : Int) := by omega
        have h2I : decide ((n : Int) ≤ 102) = false := decide_eq_false (by omega)
        go_enter Tryd.func31, Tryd.ntmps31
        go_wp2_with (go_at_call 26; with_reducible refine K.out.mono ?_; rintro e1 w1 ⟨rfl, rfl⟩)
        go_ret
        exact ⟨rfl, rfl⟩
    · rw [if_neg (fun h => h1 h.1), decide_eq_false (by omega)]
      have h1I : ¬ (97 : Int) ≤ (n : Int) := by omega
      go_enter Tryd.func31, Tryd.ntmps31
      go_wp2_with (go_at_call 26; with_reducible refine K.out.mono ?_; rintro e1 w1 ⟨rfl, rfl⟩)
      go_ret
      exact ⟨rfl, rfl⟩

/-- all of them are digits -/
theorem all_to {B : Nat} {l : List UInt8} {k : Nat} (hk : k < l.length) (h : isD B (l[k]) = false) : l.all (isD B) = false := by
  rw [List.all_eq_false]
  exact ⟨l[k], List.getElem_mem hk, by rw [h]; simp⟩

set_option maxRecDepth 100000 in
set_option maxHeartbeats 2000000 in
theorem dg_formed (B : Nat) (F : FuncId) (hF : F = 26 ∧ B = 10 ∨ F = 31 ∧ B = 16) (s : ByteArray) (hs : s.size ≤ 9223372036854775807) (w : World) :
    Calls Tryd.prog 25 #[.string s, .func (.func F) #[] #[]] w fun e w' => e = .returned (.bool (fm B s.data.toList)) ∧ w = w' := by
  have HC : Hid (∀ (c : UInt8) w, Calls Tryd.prog F #[.int .u8 c.toNat] w fun e w' => e = .returned (.bool (isD B c)) ∧ w = w') := Lib.hid (by
    rcases hF with ⟨rfl, rfl⟩ | ⟨rfl, rfl⟩
    · exact dg_is
    · exact dg_hex)
  have EN : ∀ args w, (callFunc F args).run Tryd.prog w = .ok (.enter F args) w := by
    rcases hF with ⟨rfl, rfl⟩ | ⟨rfl, rfl⟩
    · exact enters_of Tryd.func26 (by kernel_rfl) rfl
    · exact enters_of Tryd.func31 (by kernel_rfl) rfl
  have hl : s.data.toList.length = s.size := rfl
  by_cases h0 : s.size = 0
  · have e : s.data.toList = [] := List.eq_nil_of_length_eq_zero (by rw [hl]; exact h0)
    have V : Hid (fm B s.data.toList = false) := Lib.hid (by rw [e]; rfl)
    have e2 : s.toList = [] := by rw [ByteArray.toList_eq]; exact e
    have h0I : (s.size : Int) = 0 := by omega
    rw [V.out]
    clear e h0 hl hF
    go_enter Tryd.func25, Tryd.ntmps25
    go_wp2
    go_ret
    exact ⟨rfl, rfl⟩
  · have h0' : 0 < s.size := by omega
    have h0I : (0 : Int) < (s.size : Int) := by omega
    have hne : s.data.toList ≠ [] := fun e => by rw [e] at hl; simp at hl; omega
    have e2 : s.toList ≠ [] := by rw [ByteArray.toList_eq]; exact hne
    have e3 : (!s.toList.isEmpty) = true := by cases h : s.toList with | nil => exact absurd h e2 | cons _ _ => rfl
    have e4 : s.toList.isEmpty = false := by cases h : s.toList with | nil => exact absurd h e2 | cons _ _ => rfl
    have hd0 : s.data.toList.headD 0 = s[0] := by
      have : s.data.toList = s[0] :: s.data.toList.drop 1 := by
        conv => lhs; rw [← List.drop_zero (l := s.data.toList)]
        rw [List.drop_eq_getElem_cons (by rw [hl]; exact h0')]; rfl
      rw [this]; rfl
    have FMd : Hid (fm B s.data.toList = (!(decide (1 < s.size) && decide (s[0].toNat = 48)) && s.data.toList.all (isD B))) := Lib.hid (by unfold fm; rw [hd0, hl, decide_eq_true h0', Bool.true_and])
    obtain ⟨c0, hc0⟩ : ∃ c0, s[0].toNat = c0 := ⟨_, rfl⟩
    rw [hc0] at FMd
    have ALL1 : Hid (∀ k (hk : k < s.size), isD B s[k] = false → s.data.toList.all (isD B) = false) := Lib.hid fun k hk h => all_to (k := k) (by rw [hl]; exact hk) h
    have ALL2 : Hid ((∀ k (hk : k < s.size), isD B s[k] = true) → s.data.toList.all (isD B) = true) := Lib.hid fun h => by
      rw [List.all_eq_true]
      intro x hx
      obtain ⟨k, hk, rfl⟩ := List.mem_iff_getElem.1 hx
      exact h k (by rw [← hl]; exact hk)
    clear hF hne hd0 hl
    by_cases hlead : 1 < s.size ∧ c0 = 48
    · have V : Hid (fm B s.data.toList = false) := Lib.hid (by rw [FMd.out, decide_eq_true hlead.1, decide_eq_true hlead.2]; rfl)
      rw [V.out]
      have q1 : (1 : Int) < (s.size : Int) := by omega
      have q2 : ((c0 : Int) == 48) = true := by simp; omega
      clear hlead ALL1 ALL2 FMd h0
      go_enter Tryd.func25, Tryd.ntmps25
      go_wp2
      go_ret
      exact ⟨rfl, rfl⟩
    · have FM2 : Hid (fm B s.data.toList = s.data.toList.all (isD B)) := Lib.hid (by
        rw [FMd.out]
        by_cases h1 : 1 < s.size
        · rw [decide_eq_false (fun e => hlead ⟨h1, e⟩), Bool.and_false]; rfl
        · rw [decide_eq_false h1]; rfl)
      have LD : ((c0 : Int) == 48 && decide ((1 : Int) < (s.size : Int))) = false := by
        by_cases h1 : 1 < s.size
        · have : ¬ c0 = 48 := fun e => hlead ⟨h1, e⟩
          have : ((c0 : Int) == 48) = false := by simp; omega
          rw [this]; rfl
        · rw [decide_eq_false (by omega : ¬ (1 : Int) < (s.size : Int)), Bool.and_false]
      obtain ⟨fin, hfin⟩ : ∃ fin, fm B s.data.toList = fin := ⟨_, rfl⟩
      rw [hfin] at FM2 ⊢
      have two : ((c0 : Int) == 48) = false ∨ ((c0 : Int) == 48) = true ∧ ¬ (1 : Int) < (s.size : Int) := by
        by_cases h1 : c0 = 48
        · right; exact ⟨by simp; omega, by have : ¬ 1 < s.size := fun h => hlead ⟨h, h1⟩; omega⟩
        · left; simp; omega
      clear hlead FMd LD hfin h0
      have BODY : ∀ (T : Prop), T → T := fun _ h => h
      rcases two with q2 | ⟨q2, q1⟩
      all_goals
        go_enter Tryd.func25, Tryd.ntmps25
        go_wp2
        go_loop [5, 20] (fun _ iv => ∃ i : Nat, iv = .int .i64 i ∧ i ≤ s.size ∧ Hid (∀ k (hk : k < s.size), k < i → isD B s[k] = true)) (fun _ iv => s.size - (intOf iv).toNat)
        case atStart => exact ⟨0, rfl, Nat.zero_le _, Lib.hid fun k _ hk => absurd hk (by omega)⟩
        case round =>
          obtain ⟨i, rfl, hi, HI⟩ := hrel
          by_cases hlt : i < s.size
          · have hltI : (i : Int) < (s.size : Int) := by omega
            cases hd : isD B s[i] with
            | true =>
              have C1 := HC.out s[i] w
              rw [hd] at C1
              have C1 := Lib.hid C1
              have HI2 : Hid (∀ k (hk : k < s.size), k < i + 1 → isD B s[k] = true) := Lib.hid fun k hk h => by
                by_cases e : k = i
                · subst e; exact hd
                · exact HI.out k hk (by omega)
              clear hd HI
              go_wp2_with (with_reducible refine C1.out.mono ?_; rintro e1 w1 ⟨rfl, rfl⟩)
              exact ⟨⟨i + 1, by go_num, by omega, HI2⟩, by simp [intOf]; omega⟩
            | false =>
              have C1 := HC.out s[i] w
              rw [hd] at C1
              have C1 := Lib.hid C1
              have V : Hid (fin = false) := Lib.hid (by rw [FM2.out]; exact ALL1.out i hlt hd)
              clear hd HI
              go_wp2_with (with_reducible refine C1.out.mono ?_; rintro e1 w1 ⟨rfl, rfl⟩)
              go_ret
              exact ⟨by rw [V.out]; rfl, rfl⟩
          · obtain rfl : i = s.size := by omega
            have V : Hid (fin = true) := Lib.hid (by rw [FM2.out]; exact ALL2.out fun k hk => HI.out k hk hk)
            clear HI
            go_wp2
            go_ret
            exact ⟨by rw [V.out]; rfl, rfl⟩

end Go.Proofs.YtfgdfhcefgblaaaDoor
