/- Layer 6: the table. -/
import Derived.Test.YtpdnbkibnpkfbacSeC
namespace Go.Proofs.Ytpdnbkibnpkfbac
open Go.ChangeShapes Go.WideShapes Go.ChangeAt Go.RowKit

def tabA : Array Value := ((List.range 256).map tabF).toArray
theorem tabA_size : tabA.size = 256 := by simp [tabA]
theorem tabA_at (i : Nat) (h : i < 256) : tabA[i]? = some (tabF i) := by
  simp [tabA, h]
theorem tabA_one : tabA.all (·.oneCell') = true := by
  rw [Array.all_eq_true]
  intro i hi
  have h := tabA_at i (by rw [← tabA_size]; exact hi)
  rw [Array.getElem?_eq_getElem hi] at h
  rw [Option.some.inj h]
  rfl
theorem tabA_of (c : Array Value) (hs : c.size = 256) (h : ∀ i, i < 256 → c[i]? = some (tabF i)) : c = tabA := by
  apply Array.ext_getElem?
  intro i
  by_cases hi : i < 256
  · rw [h i hi, tabA_at i hi]
  · rw [Array.getElem?_eq_none (by omega), Array.getElem?_eq_none (by rw [tabA_size]; omega)]
attribute [irreducible] tabA

def z256 : Array Value := Array.replicate 256 (Value.int .u32 0)
theorem z256_size : z256.size = 256 := by simp [z256]
theorem z256_at (i : Nat) (h : i < 256) : z256[i]? = some (.int .u32 0) := by simp [z256, h]
theorem z256_run (w : World) : (zeroValue 63).run Try.prog w = .ok (.agg z256) w := by kernel_rfl
attribute [irreducible] z256

theorem At.set_all {A : Asn} {w0 w : World} {S0 : Nat → Prop} {b : Nat} {c : Array Value} {t : TypeId} (h : At (blk b (.cells c t (0, 0)) * A) w0 S0 w) (cs : Array Value) :
    At (blk b (.cells cs t (0, 0)) * A) w0 S0 (w.setRow b cs) := by
  refine h.frame ?_
  rintro S ⟨a, hS⟩
  refine ⟨S, ⟨setRow_heap w b c cs t (0, 0) a, hS⟩, fun _ h => .inl h, ?_⟩
  refine ⟨rfl, rfl, rfl, by simp, fun k hk hne => ?_⟩
  exact setRow_other w b k cs (fun e => hne ((hS k).2 e))

theorem run_and1 {P : Program} (t : TypeId) (r : Nat) (h : r < 4294967296) (w : World) : (binOp .and t (.int .u32 r) (.int .u32 1)).run P w = .ok (.int .u32 ((r % 2 : Nat) : Int)) w := by
  rw [show ((r % 2 : Nat) : Int) = bits .and .u32 (r : Int) 1 by rw [show (1 : Int) = ((1 : Nat) : Int) by rfl, u32_and_nat r 1 h (by decide), Nat.and_one_is_mod]]
  rfl

theorem run_mulP {P : Program} (t : TypeId) (r : Nat) (w : World) : (binOp .mul t (.int .u32 ((r % 2 : Nat) : Int)) (.int .u32 2197175160)).run P w = .ok (.int .u32 ((if r % 2 = 1 then Crc.poly else 0 : Nat) : Int)) w := by
  rcases Nat.mod_two_eq_zero_or_one r with h | h <;> rw [h] <;> rfl

theorem run_xorS {P : Program} (t : TypeId) (r : Nat) (h : r < 4294967296) (w : World) : (binOp .xor t (.int .u32 ((r : Int) / 2)) (.int .u32 ((if r % 2 = 1 then Crc.poly else 0 : Nat) : Int))).run P w = .ok (.int .u32 (Crc.st r)) w := by
  have hp : (if r % 2 = 1 then Crc.poly else 0) < 4294967296 := by split <;> decide
  rw [show ((Crc.st r : Nat) : Int) = bits .xor .u32 ((r : Int) / 2) ((if r % 2 = 1 then Crc.poly else 0 : Nat) : Int) by
    rw [show (r : Int) / 2 = ((r / 2 : Nat) : Int) by omega, u32_xor_nat _ _ (by omega) hp]; rfl]
  rfl

def remF (k j : Nat) : Value := if j < k then tabF j else .int .u32 0

set_option maxHeartbeats 2000000 in
set_option maxRecDepth 100000 in
theorem s_rem (w : World) : Calls Try.prog 35 #[] w fun e w' => e = .returned (.agg tabA) ∧ Below w.heap.size w w' := by
  have Z := z256_run
  have H0 : At (row (w.heap.size + 1) 63 256 (remF 0) * (blk w.heap.size (.cells z256 63) * pur True)) w (fun _ => False) ((w.alloc (.cells z256 63)).alloc (.cells z256 63)) := by
    have h := ((At.emp w).alloc (.cells z256 63)).alloc (.cells z256 63)
    simp only [World.size_alloc] at h
    exact h.impl fun S a => blk_row z256_size (fun i hi => by rw [z256_at i hi]; unfold remF; rw [if_neg (by omega)]) _ S a
  have HH := Lib.hid H0
  clear H0
  go_enter Try.func35, Try.ntmps35
  go_wp2
  clear Z
  go_loopw [5] (fun i wr => ∃ k : Nat, k ≤ 256 ∧ i = .int .i64 k ∧ At (row (w.heap.size + 1) 63 256 (remF k) * (blk w.heap.size (.cells z256 63) * pur True)) w (fun _ => False) wr) (fun i _ => 256 - (intOf i).toNat)
  case atStart => exact ⟨0, by omega, rfl, HH.out⟩
  case round =>
    obtain ⟨k, hk, rfl, hA⟩ := hrel
    by_cases hlt : k < 256
    · have fz := hA.rowIs.frozen k
      have cz := hA.rowIs.cell (i := k) hlt
      have H1 := hA.set_row k (tabF k)
      have H2 := Lib.hid (H1.impl (B := row (w.heap.size + 1) 63 256 (remF (k + 1))) fun S a => row_congr (fun i _ => by
        unfold remF
        by_cases e : i = k
        · subst e; rw [if_pos rfl, if_pos (by omega)]
        · rw [if_neg e]
          by_cases e2 : i < k
          · rw [if_pos e2, if_pos (by omega)]
          · rw [if_neg e2, if_neg (by omega)]) _ S a)
      unfold remF at cz
      rw [if_neg (by omega)] at cz
      clear hA H1
      obtain ⟨wo, hwo⟩ : ∃ wo : World, wo = wr := ⟨_, rfl⟩
      subst hwo
      go_wp2
      go_loop [3, 4, 10] (fun r _ j => ∃ m : Nat, m ≤ 8 ∧ j = .int .i64 m ∧ r = .int .u32 (Crc.it m k)) (fun _ _ j => (8 - intOf j).toNat)
      case atStart => exact ⟨0, by omega, rfl, rfl⟩
      case round =>
        obtain ⟨m, hm, rfl, rfl⟩ := hrel
        have hl := Crc.it_lt m k (by omega)
        by_cases hm8 : m < 8
        · have hs : Hid (Crc.it (m + 1) k = Crc.st (Crc.it m k)) := Lib.hid (Crc.it_succ m k)
          generalize Crc.it m k = r at *
          have E1 := Lib.hid (run_and1 (P := Try.prog) 22 r hl wo)
          have E2 := Lib.hid (run_mulP (P := Try.prog) 22 r wo)
          have E3 := Lib.hid (run_xorS (P := Try.prog) 22 r hl wo)
          generalize (if r % 2 = 1 then Crc.poly else 0) = p0 at *
          generalize r % 2 = l0 at *
          go_wp2_with (first | (refine wpList_bin _ rfl .and _ _ _ _ rfl _ _ rfl rfl rfl _ E1.out ?_) | (refine wpList_bin _ rfl .mul _ _ _ _ rfl _ _ rfl rfl rfl _ E2.out ?_) | (refine wpList_bin _ rfl .xor _ _ _ _ rfl _ _ rfl rfl rfl _ E3.out ?_))
          go_round
          case rel => exact ⟨_, _, _, ⟨m + 1, by omega, by go_num, by rw [hs.out]⟩, rfl, rfl, rfl⟩
          case measure => simp [intOf]; omega
        · obtain rfl : m = 8 := by omega
          go_wp2
          go_roundw
          case rel => exact ⟨k + 1, by omega, by go_num, H2.out⟩
          case measure => simp [intOf]; omega
    · obtain rfl : k = 256 := by omega
      obtain ⟨c, hc, hcs, hci⟩ := hA.rowIs
      obtain rfl : c = tabA := tabA_of c hcs (fun i hi => by rw [hci i hi]; unfold remF; rw [if_pos hi])
      have hB := (hA.re (B := blk w.heap.size (.cells z256 63) * (row (w.heap.size + 1) 63 256 (remF 256) * pur True)) (by ac_rfl))
      have hz := hB.blkIs
      have h3 := (hB.set_all tabA)
      have HF := Lib.hid h3.blkIs
      have HBE := Lib.hid h3.below
      have HZ := Lib.hid hz
      have HC := Lib.hid hc
      have i1 : (Try.prog.info? 63).map (·.size) = some tabA.size := by rw [tabA_size]; kernel_rfl
      have I1 := Lib.hid i1
      clear hc hcs hci hA hB hz h3 i1
      go_wp2_with (first | (refine wpList_load_row rfl 63 _ rfl (w.heap.size + 1) rfl _ tabA _ _ HC.out Try.underlying63 rfl I1.out ?_) | (refine wpList_store_row rfl 63 _ _ rfl w.heap.size tabA rfl rfl _ z256 HZ.out I1.out (by rw [z256_size, tabA_size]) tabA_one ?_))
      refine bodyPost_ret (v := .agg tabA) (results_cell_row rfl _ _ w.heap.size _ tabA _ _ rfl HF.out Try.underlying63 rfl I1.out) rfl ⟨rfl, HBE.out⟩

end Go.Proofs.Ytpdnbkibnpkfbac
