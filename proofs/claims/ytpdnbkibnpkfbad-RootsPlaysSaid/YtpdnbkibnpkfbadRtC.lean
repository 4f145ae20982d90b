/- Total contracts of the table, and the reference's row. -/
import Derived.Test.YtpdnbkibnpkfbadRtN
namespace Go.Proofs.Ytpdnbkibnpkfbad
open Go.ChangeShapes Go.WideShapes Go.ChangeAt Go.RowKit

def inn (n : Nat) (i : Int) : Prop := 0 ≤ i ∧ i < n
instance (n : Nat) (i : Int) : Decidable (inn n i) := by unfold inn; exact inferInstance

def getV (n : Nat) (xs : Nat → Int) (i : Int) : Int := if inn n i then xs i.toNat else 0
def getE (n : Nat) (i : Int) : Int := if inn n i then 0 else 17
def setF (n : Nat) (xs : Nat → Int) (i a : Int) : Nat → Int := if inn n i ∧ 0 ≤ a then put xs i.toNat a else xs
def setE (n : Nat) (i a : Int) : Int := if inn n i then (if 0 ≤ a then 0 else 5) else 17
def copyF (n : Nat) (xs : Nat → Int) (i j : Int) : Nat → Int := if inn n i ∧ inn n j then put xs i.toNat (xs j.toNat) else xs
def copyE (n : Nat) (i j : Int) : Int := if inn n i ∧ inn n j then 0 else 17

theorem inn_nat {n : Nat} {i : Int} (h : inn n i) : ∃ k : Nat, i = (k : Int) ∧ k < n := ⟨i.toNat, by have := h.1; omega, by have := h.1; have := h.2; omega⟩
theorem inn_of {n k : Nat} (h : k < n) : inn n (k : Int) := ⟨by omega, by omega⟩

theorem get_any {w : World} {c b n : Nat} {xs : Nat → Int} (h : Rt w c b n xs) (i : Int) : Calls Try.prog 33 #[.pointer (some ⟨c, 0, none⟩), .int .i64 i] w fun e w' => e = .returned (.tuple #[.int .i64 (getV n xs i), .int .i64 (getE n i)]) ∧ ∃ m, w' = w.drewN m := by
  unfold getV getE
  by_cases hi : inn n i
  · rw [if_pos hi, if_pos hi]
    obtain ⟨k, rfl, hk⟩ := inn_nat hi
    exact get_in h k hk
  · rw [if_neg hi, if_neg hi]
    exact get_out h i hi

theorem set_any {w : World} {c b n : Nat} {xs : Nat → Int} (h : Rt w c b n xs) (i a : Int) : Calls Try.prog 26 #[.pointer (some ⟨c, 0, none⟩), .int .i64 i, .int .i64 a] w (SetPost w c b n (setF n xs i a) (setE n i a)) := by
  unfold setF setE
  by_cases hi : inn n i
  · rw [if_pos hi]
    obtain ⟨k, rfl, hk⟩ := inn_nat hi
    by_cases ha : 0 ≤ a
    · rw [if_pos ⟨hi, ha⟩, if_pos ha]
      exact set_in h k hk a ha
    · rw [if_neg (fun x => ha x.2), if_neg ha]
      exact set_neg h k hk a ha
  · rw [if_neg hi, if_neg (fun x => hi x.1)]
    exact set_bad h i hi a

theorem copy_any {w : World} {c b n : Nat} {xs : Nat → Int} (h : Rt w c b n xs) (hx : ∀ i, i < n → 0 ≤ xs i) (i j : Int) : Calls Try.prog 28 #[.pointer (some ⟨c, 0, none⟩), .int .i64 i, .int .i64 j] w (SetPost w c b n (copyF n xs i j) (copyE n i j)) := by
  unfold copyF copyE
  by_cases hj : inn n j
  · obtain ⟨q, rfl, hq⟩ := inn_nat hj
    by_cases hi : inn n i
    · rw [if_pos ⟨hi, hj⟩, if_pos ⟨hi, hj⟩]
      obtain ⟨k, rfl, hk⟩ := inn_nat hi
      exact copy_in h k q hk hq (hx q hq)
    · rw [if_neg (fun x => hi x.1), if_neg (fun x => hi x.1)]
      exact copy_to h i q hq hi
  · rw [if_neg (fun x => hj x.2), if_neg (fun x => hj x.2)]
    exact copy_from h i j hj

/-- Block d is the reference's row. -/
def Rw (w : World) (d n : Nat) (xs : Nat → Int) : Prop := w.rowIs d 3 n (fun i => .int .i64 (xs i))

theorem Rw.set {w : World} {d n : Nat} {xs : Nat → Int} (h : Rw w d n xs) (i : Nat) (a : Int) : Rw (w.setCell ⟨d, i, none⟩ (.int .i64 a)) d n (put xs i a) :=
  (World.rowIs.set h i _).congr fun j _ => by unfold put; split <;> rfl

def RSet (w : World) (d n : Nat) (xs : Nat → Int) (r : Int) (e : Ending) (w' : World) : Prop := e = .returned (.int .i64 r) ∧ Rw w' d n xs ∧ Fr (fun k => k = d) w w'

theorem rget_any {w : World} {d n : Nat} {xs : Nat → Int} (h : Rw w d n xs) (hn : n ≤ 64) (i : Int) : Calls Try.prog 34 #[.slice (some ⟨d, 0, none⟩) n n, .int .i64 i] w fun e w' => e = .returned (.tuple #[.int .i64 (getV n xs i), .int .i64 (getE n i)]) ∧ w = w' := by
  unfold getV getE
  by_cases hi : inn n i
  · rw [if_pos hi, if_pos hi]
    obtain ⟨k, rfl, hk⟩ := inn_nat hi
    have c0 := World.rowIs.cell h hk
    rw [Int.toNat_natCast]
    go_enter Try.func34, Try.ntmps34
    go_wp2
    go_ret2
    exact ⟨rfl, rfl⟩
  · rw [if_neg hi, if_neg hi]
    by_cases h0 : 0 ≤ i
    · have h1 : ¬ i < n := fun x => hi ⟨h0, x⟩
      go_enter Try.func34, Try.ntmps34
      go_wp2
      go_ret2
      exact ⟨rfl, rfl⟩
    · go_enter Try.func34, Try.ntmps34
      go_wp2
      go_ret2
      exact ⟨rfl, rfl⟩

theorem rset_any {w : World} {d n : Nat} {xs : Nat → Int} (h : Rw w d n xs) (hn : n ≤ 64) (i a : Int) : Calls Try.prog 27 #[.slice (some ⟨d, 0, none⟩) n n, .int .i64 i, .int .i64 a] w (RSet w d n (setF n xs i a) (setE n i a)) := by
  have ge := rget_any h hn i
  unfold setF setE
  by_cases hi : inn n i
  · rw [if_pos hi]
    unfold getE at ge
    rw [if_pos hi] at ge
    generalize getV n xs i = gv at ge
    have GE := Lib.hid ge
    clear ge
    obtain ⟨k, rfl, hk⟩ := inn_nat hi
    by_cases ha : 0 ≤ a
    · rw [if_pos ⟨hi, ha⟩, if_pos ha, Int.toNat_natCast]
      have FIN : Hid (∀ q, RSet w d n (put xs k a) 0 (.returned (.int .i64 0)) ((w.setCell ⟨d, k, none⟩ (.int .i64 a)).drewN q)) := fun q => ⟨rfl, h.set k a, ((Fr.refl (fun k => k = d) w).setCell (fun _ => rfl) _).drewN q⟩
      have c0 := World.rowIs.cell h hk
      have g0 := World.rowIs.frozen h k
      clear h hi
      go_enter Try.func27, Try.ntmps27
      go_wp2_with (go_at_call 34; refine (GE.out).mono ?_; rintro e1 w1 ⟨rfl, rfl⟩)
      go_ret
      exact FIN.out 0
    · rw [if_neg (fun x => ha x.2), if_neg ha]
      clear hi
      go_enter Try.func27, Try.ntmps27
      go_wp2_with (go_at_call 34; refine (GE.out).mono ?_; rintro e1 w1 ⟨rfl, rfl⟩)
      go_ret
      exact ⟨rfl, h, Fr.refl _ _⟩
  · rw [if_neg hi, if_neg (fun x => hi x.1)]
    unfold getE getV at ge
    rw [if_neg hi, if_neg hi] at ge
    have GE := Lib.hid ge
    clear ge hi
    go_enter Try.func27, Try.ntmps27
    go_wp2_with (go_at_call 34; refine (GE.out).mono ?_; rintro e1 w1 ⟨rfl, rfl⟩)
    go_ret
    exact ⟨rfl, h, Fr.refl _ _⟩

theorem rcopy_any {w : World} {d n : Nat} {xs : Nat → Int} (h : Rw w d n xs) (hn : n ≤ 64) (i j : Int) : Calls Try.prog 29 #[.slice (some ⟨d, 0, none⟩) n n, .int .i64 i, .int .i64 j] w (RSet w d n (copyF n xs i j) (copyE n i j)) := by
  have gi := rget_any h hn i
  have gj := rget_any h hn j
  unfold copyF copyE
  unfold getE getV at gi gj
  by_cases hi : inn n i
  · rw [if_pos hi, if_pos hi] at gi
    generalize xs i.toNat = xi at gi
    obtain ⟨k, rfl, hk⟩ := inn_nat hi
    by_cases hj : inn n j
    · rw [if_pos ⟨hi, hj⟩, if_pos ⟨hi, hj⟩, Int.toNat_natCast]
      rw [if_pos hj, if_pos hj] at gj
      have FIN : Hid (∀ q, RSet w d n (put xs k (xs j.toNat)) 0 (.returned (.int .i64 0)) ((w.setCell ⟨d, k, none⟩ (.int .i64 (xs j.toNat))).drewN q)) := fun q => ⟨rfl, h.set k _, ((Fr.refl (fun k => k = d) w).setCell (fun _ => rfl) _).drewN q⟩
      have c0 := World.rowIs.cell h hk
      have g0 := World.rowIs.frozen h k
      generalize xs j.toNat = xj at gj FIN
      have GI := Lib.hid gi
      have GJ := Lib.hid gj
      clear h hi hj gi gj
      go_enter Try.func29, Try.ntmps29
      go_wp2_with (go_at_call 34; (first | with_reducible refine (GI.out).mono ?_ | with_reducible refine (GJ.out).mono ?_); rintro e1 w1 ⟨rfl, rfl⟩)
      go_ret
      exact FIN.out 0
    · rw [if_neg (fun x => hj x.2), if_neg (fun x => hj x.2)]
      rw [if_neg hj, if_neg hj] at gj
      have GI := Lib.hid gi
      have GJ := Lib.hid gj
      clear hi hj gi gj
      go_enter Try.func29, Try.ntmps29
      go_wp2_with (go_at_call 34; (first | with_reducible refine (GI.out).mono ?_ | with_reducible refine (GJ.out).mono ?_); rintro e1 w1 ⟨rfl, rfl⟩)
      go_ret
      exact ⟨rfl, h, Fr.refl _ _⟩
  · rw [if_neg (fun x => hi x.1), if_neg (fun x => hi x.1)]
    rw [if_neg hi, if_neg hi] at gi
    have GI := Lib.hid gi
    clear hi gi gj
    go_enter Try.func29, Try.ntmps29
    go_wp2_with (go_at_call 34; refine (GI.out).mono ?_; rintro e1 w1 ⟨rfl, rfl⟩)
    go_ret
    exact ⟨rfl, h, Fr.refl _ _⟩

end Go.Proofs.Ytpdnbkibnpkfbad
