/- The document's page map (layer 8): a list; what is asked of it. -/
import Derived.Test.YtpdnbkibnpkfbacPgY
namespace Go.Proofs.Ytpdnbkibnpkfbac.PT
open Go.ChangeShapes Go.WideShapes Go.ChangeAt Go.RowKit

def flat : List (Nat × Nat) → List Value
  | [] => []
  | e :: r => .int .i64 (e.1 : Nat) :: .int .i64 (e.2 : Nat) :: flat r

theorem flat_len : ∀ L : List (Nat × Nat), (flat L).length = L.length * 2
  | [] => rfl
  | e :: r => by show (flat r).length + 1 + 1 = (r.length + 1) * 2; rw [flat_len r]; omega

theorem flat_at : ∀ (L : List (Nat × Nat)) (k : Nat), k < L.length → (flat L)[2 * k]? = some (.int .i64 ((L.getD k (0, 0)).1 : Nat)) ∧ (flat L)[2 * k + 1]? = some (.int .i64 ((L.getD k (0, 0)).2 : Nat))
  | [], k, h => by simp at h
  | e :: r, 0, _ => ⟨rfl, rfl⟩
  | e :: r, k + 1, h => by
    have := flat_at r k (by simpa using h)
    exact ⟨this.1, this.2⟩

theorem flat_app (a b : List (Nat × Nat)) : flat (a ++ b) = flat a ++ flat b := by
  induction a with
  | nil => rfl
  | cons e r ih => show _ :: _ :: flat (r ++ b) = _ :: _ :: (flat r ++ flat b); rw [ih]

def lsX (c n : Nat) (L : List (Nat × Nat)) (v : Value) : Asn := blk c (.cells #[.int .i64 n, v] 47 (0, 0)) * own 75 2 v L.length (flat L)

/-- block c is the list L of a map of n pages -/
def lsA (c n : Nat) (L : List (Nat × Nat)) : Asn := exa fun v => lsX c n L v

theorem ls_form {w : World} {B n z : Nat} {e : TypeId} {v : Value} {xs : List Value} (h : w.ownsRow B e z v n xs) : ∃ a cap, v = .slice a n cap := by
  rcases h.2 with ⟨rfl, rfl⟩ | ⟨g, cap, cur, rfl, _⟩
  · exact ⟨_, _, rfl⟩
  · exact ⟨_, _, rfl⟩

theorem ls_open {w : World} {S : Nat → Prop} {c n : Nat} {L : List (Nat × Nat)} (h : (lsA c n L).holds w S) : ∃ a cap, At (lsX c n L (.slice a L.length cap)) w S w ∧ w.cell? ⟨c, 0, none⟩ = some (.int .i64 n) ∧ w.cell? ⟨c, 1, none⟩ = some (.slice a L.length cap) ∧ (∀ i, w.frozen? ⟨c, i, none⟩ = false) ∧
    (∀ k, k < L.length → ∃ g, a = some ⟨g, 0, none⟩ ∧ w.cell? ⟨g, k * 2, none⟩ = some (.int .i64 ((L.getD k (0, 0)).1 : Nat)) ∧ w.cell? ⟨g, k * 2 + 1, none⟩ = some (.int .i64 ((L.getD k (0, 0)).2 : Nat))) := by
  obtain ⟨v, h⟩ := (At.refl h).exaIs
  have ho := At.ownIs (h.re (B := own 75 2 v L.length (flat L) * blk c (.cells #[.int .i64 n, v] 47 (0, 0))) (by unfold lsX; ac_rfl))
  obtain ⟨a, cap, rfl⟩ := ls_form ho
  have hb := At.blkIs (A := own 75 2 (.slice a L.length cap) L.length (flat L)) h
  refine ⟨a, cap, h, by simp [World.cell?, hb], by simp [World.cell?, hb], fun i => by simp [World.frozen?, hb], fun k hk => ?_⟩
  have h0 := ho
  rcases ho.2 with ⟨h1, h2⟩ | ⟨g, cap', cur, hv, _⟩
  · omega
  · cases hv
    have e1 := World.ownsRow.cellAt h0 (2 * k) (by omega)
    have e2 := World.ownsRow.cellAt h0 (2 * k + 1) (by omega)
    rw [(flat_at L k hk).1] at e1
    rw [(flat_at L k hk).2] at e2
    refine ⟨g, rfl, ?_, ?_⟩
    · rw [show k * 2 = 2 * k by omega]; exact e1
    · rw [show k * 2 + 1 = 2 * k + 1 by omega]; exact e2

theorem ls_in {c n : Nat} {L : List (Nat × Nat)} (hn : n ≤ 524288) (p : Int) : Ask Try.prog 41 #[.pointer (some ⟨c, 0, none⟩), .int .i64 p] (lsA c n L) (.bool (decide (0 ≤ p ∧ p < n))) := by
  intro w S h
  obtain ⟨a, cap, _, c0, c1, cf, _⟩ := ls_open h
  clear h
  by_cases h0 : 0 ≤ p
  · by_cases h1 : p < n
    · rw [decide_eq_true ⟨h0, h1⟩]
      go_enter Try.func41, Try.ntmps41
      go_wp2
      go_ret
      exact ⟨rfl, rfl⟩
    · rw [decide_eq_false (fun h => h1 h.2)]
      go_enter Try.func41, Try.ntmps41
      go_wp2
      go_ret
      exact ⟨rfl, rfl⟩
  · rw [decide_eq_false (fun h => h0 h.1)]
    go_enter Try.func41, Try.ntmps41
    go_wp2
    go_ret
    exact ⟨rfl, rfl⟩

/-- where a page stands -/
def ix (L : List (Nat × Nat)) (p : Int) : Int := match L.findIdx? (fun e => (e.1 : Int) == p) with | some k => (k : Int) | none => -1

theorem ix_some (L : List (Nat × Nat)) (p : Int) (k : Nat) (hk : k < L.length) (h1 : ((L.getD k (0, 0)).1 : Int) = p) (h2 : ∀ j, j < k → ((L.getD j (0, 0)).1 : Int) ≠ p) : ix L p = k := by
  unfold ix
  have : L.findIdx? (fun e => (e.1 : Int) == p) = some k := by
    rw [List.findIdx?_eq_some_iff_getElem]
    refine ⟨hk, ?_, fun j hj => ?_⟩
    · have e : L.getD k (0, 0) = L[k] := by simp [List.getD_eq_getElem?_getD, hk]
      rw [e] at h1; simpa using h1
    · have e : L.getD j (0, 0) = L[j] := by simp [List.getD_eq_getElem?_getD, show j < L.length by omega]
      have := h2 j hj
      rw [e] at this; simpa using this
  rw [this]

theorem ix_none (L : List (Nat × Nat)) (p : Int) (h2 : ∀ j, j < L.length → ((L.getD j (0, 0)).1 : Int) ≠ p) : ix L p = -1 := by
  unfold ix
  have : L.findIdx? (fun e => (e.1 : Int) == p) = none := by
    rw [List.findIdx?_eq_none_iff]
    intro x hx
    obtain ⟨j, hj, rfl⟩ := List.mem_iff_getElem.1 hx
    have e : L.getD j (0, 0) = L[j] := by simp [List.getD_eq_getElem?_getD, hj]
    have := h2 j hj
    rw [e] at this; simpa using this
  rw [this]

theorem ls_at {c n : Nat} {L : List (Nat × Nat)} (hL : L.length ≤ 1000000) (p : Int) : Ask Try.prog 42 #[.pointer (some ⟨c, 0, none⟩), .int .i64 p] (lsA c n L) (.int .i64 (ix L p)) := by
  intro w S h
  obtain ⟨a, cap, _, c0, c1, cf, ce⟩ := ls_open h
  have CE := Lib.hid ce
  have I1 := Lib.hid (ix_some L p)
  have I2 := Lib.hid (ix_none L p)
  clear h ce
  generalize ix L p = fin at *
  go_enter Try.func42, Try.ntmps42
  go_wp2
  go_loop [5] (fun v => ∃ k : Nat, v = .int .i64 k ∧ k ≤ L.length ∧ Hid (∀ j, j < k → ((L.getD j (0, 0)).1 : Int) ≠ p)) (fun v => L.length - (intOf v).toNat)
  case atStart => exact ⟨0, rfl, Nat.zero_le _, Lib.hid (fun j hj => absurd hj (by omega))⟩
  case round =>
    obtain ⟨k, rfl, hk, HK⟩ := hrel
    by_cases hlt : k < L.length
    · have hltI : (k : Int) < (L.length : Int) := by omega
      obtain ⟨g, rfl, e0, e1⟩ := CE.out k hlt
      by_cases heq : ((L.getD k (0, 0)).1 : Int) = p
      · have FN := Lib.hid (I1.out k hlt heq HK.out)
        generalize ((L.getD k (0, 0)).1 : Int) = x at *
        clear e1
        go_wp2
        go_ret
        exact ⟨by rw [FN.out]; rfl, rfl⟩
      · have HK2 : Hid (∀ j, j < k + 1 → ((L.getD j (0, 0)).1 : Int) ≠ p) := Lib.hid fun j hj => by
          by_cases e : j = k
          · rw [e]; exact heq
          · exact HK.out j (by omega)
        generalize ((L.getD k (0, 0)).1 : Int) = x at *
        clear e1
        go_wp2
        go_round
        case rel => exact ⟨k + 1, by go_num, by omega, HK2⟩
        case measure => simp [intOf]; omega
    · obtain rfl : k = L.length := by omega
      have FN := Lib.hid (I2.out HK.out)
      go_wp2
      go_ret
      exact ⟨by rw [FN.out]; rfl, rfl⟩

end Go.Proofs.Ytpdnbkibnpkfbac.PT
