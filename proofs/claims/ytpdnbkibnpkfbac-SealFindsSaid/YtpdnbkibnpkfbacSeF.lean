/- Layer 6: Turn; the law SealFinds, walked. -/
import Derived.Test.YtpdnbkibnpkfbacSeL
import Derived.Test.YtpdnbkibnpkfbacSealT
namespace Go.Proofs.Ytpdnbkibnpkfbac
open Go.ChangeShapes Go.WideShapes Go.ChangeAt Go.RowKit

/-- byte j behind k rounds -/
def bt (l : List UInt8) (p w k j : Nat) : UInt8 := if p ≤ j ∧ j < p + k then Crc.xb w (j - p) (l.getD j 0) else l.getD j 0

theorem bt_end (l : List UInt8) (p w : Nat) (h : p + 4 ≤ l.length) : (List.range l.length).map (bt l p w 4) = Crc.turnL l p w := by
  have hx : ∀ c, (Crc.x4 w c).length = 4 := fun _ => rfl
  have hT : Crc.turnL l p w = l.take p ++ Crc.x4 w ((l.drop p).take 4) ++ l.drop (p + 4) := rfl
  rw [hT]
  clear hT
  apply List.ext_getElem
  · rw [List.length_map, List.length_range, List.length_append, List.length_append, hx, List.length_take, List.length_drop]; omega
  · intro i h1 h2
    have hi : i < l.length := by simpa using h1
    rw [List.getElem_map, List.getElem_range]
    unfold bt
    by_cases a : i < p
    · rw [if_neg (by omega), List.getElem_append_left (by rw [List.length_append, List.length_take, hx]; omega), List.getElem_append_left (by rw [List.length_take]; omega), List.getElem_take]
      simp [List.getD_eq_getElem?_getD, hi]
    · by_cases b : i < p + 4
      · rw [if_pos (by omega), List.getElem_append_left (by rw [List.length_append, List.length_take, hx]; omega), List.getElem_append_right (by rw [List.length_take]; omega)]
        have e : ∀ c : List UInt8, ∀ q (hq : q < (Crc.x4 w c).length), (Crc.x4 w c)[q] = Crc.xb w q (c.getD q 0) := by
          intro c q hq
          rw [hx] at hq
          match q, hq with
          | 0, _ => rfl
          | 1, _ => rfl
          | 2, _ => rfl
          | 3, _ => rfl
        rw [e]
        have e2 : (l.take p).length = p := by rw [List.length_take]; omega
        simp only [e2]
        congr 1
        rw [List.getD_eq_getElem?_getD, List.getD_eq_getElem?_getD, List.getElem?_take, if_pos (by omega), List.getElem?_drop, show p + (i - p) = i by omega]
      · rw [if_neg (by omega), List.getElem_append_right (by rw [List.length_append, List.length_take, hx]; omega), List.getElem_drop]
        have e2 : (l.take p ++ Crc.x4 w ((l.drop p).take 4)).length = p + 4 := by rw [List.length_append, List.length_take, hx]; omega
        simp only [e2, show p + 4 + (i - (p + 4)) = i by omega]
        simp [List.getD_eq_getElem?_getD, hi]

theorem bt_zero (l : List UInt8) (p w j : Nat) : bt l p w 0 j = l.getD j 0 := by unfold bt; rw [if_neg (by omega)]

theorem bt_step (l : List UInt8) (p w k j : Nat) : bt l p w (k + 1) j = if j = p + k then Crc.xb w k (l.getD j 0) else bt l p w k j := by
  unfold bt
  by_cases e : j = p + k
  · rw [if_pos e, if_pos (by omega), show j - p = k by omega]
  · rw [if_neg e]
    by_cases e2 : p ≤ j ∧ j < p + k
    · rw [if_pos e2, if_pos (by omega)]
    · rw [if_neg e2, if_neg (by omega)]

/-- block g holds n bytes -/
def BB (w : World) (g : Nat) (n : Nat) (f : Nat → UInt8) : Prop := ∃ C T lo hi, w.heap[g]? = some (.cells C T (lo, hi)) ∧ n ≤ lo ∧ ∀ j, j < n → C[j]? = some (.int .u8 (f j).toNat)

theorem BB.cell {w : World} {g n : Nat} {f : Nat → UInt8} (h : BB w g n f) {j : Nat} (hj : j < n) : w.cell? ⟨g, j, none⟩ = some (.int .u8 (f j).toNat) := by
  obtain ⟨C, T, lo, hi, hg, hn, hc⟩ := h
  simp [World.cell?, hg, hc j hj]

theorem BB.frozen {w : World} {g n : Nat} {f : Nat → UInt8} (h : BB w g n f) {j : Nat} (hj : j < n) : w.frozen? ⟨g, j, none⟩ = false := by
  obtain ⟨C, T, lo, hi, hg, hn, hc⟩ := h
  simp [World.frozen?, hg]; omega

theorem BB.set {w : World} {g n : Nat} {f : Nat → UInt8} (h : BB w g n f) (i : Nat) (hi : i < n) (x : UInt8) (v : Value) (hv : v = .int .u8 x.toNat) : BB (w.setCell ⟨g, i, none⟩ v) g n (fun j => if j = i then x else f j) := by
  obtain ⟨C, T, lo, hi', hg, hn, hc⟩ := h
  subst hv
  refine ⟨_, T, lo, hi', sblk_set hg _, hn, fun j hj => ?_⟩
  have hs : i < C.size := by
    have := hc i hi
    rcases Nat.lt_or_ge i C.size with h | h
    · exact h
    · rw [Array.getElem?_eq_none h] at this; cases this
  by_cases e : j = i
  · subst e; simp [hs]
  · rw [Array.getElem?_setIfInBounds_ne (fun h => e h.symm)]
    show C[j]? = some (.int .u8 (if j = i then x else f j).toNat)
    rw [if_neg e]; exact hc j hj

theorem BB.drew {w : World} {g n : Nat} {f : Nat → UInt8} (h : BB w g n f) : BB w.drew g n f := h

theorem BB.congr {w : World} {g n : Nat} {f f' : Nat → UInt8} (h : BB w g n f) (e : ∀ j, j < n → f j = f' j) : BB w g n f' := by
  obtain ⟨C, T, lo, hi, hg, hn, hc⟩ := h
  exact ⟨C, T, lo, hi, hg, hn, fun j hj => by rw [hc j hj, e j hj]⟩

theorem BB.of_str (w : World) (s : ByteArray) (cap : Nat) (T : TypeId) (h : s.size ≤ (bytesRow s cap).size) : BB (w.drew.alloc (.cells (bytesRow s cap) T ((bytesRow s cap).size, (bytesRow s cap).size + 1))) w.heap.size s.size (fun j => s.data.toList.getD j 0) := by
  refine ⟨_, _, _, _, heap_alloc_new w.drew _, h, fun j hj => ?_⟩
  rw [bytesRow_at s cap j hj]
  simp [List.getD_eq_getElem?_getD, hj]

theorem BB.str {w : World} {g n cap : Nat} {f : Nat → UInt8} (h : BB w g n f) (src dst e : TypeId) {P : Program} (hs : P.underlying src = some (.slice e)) (he : P.underlying e = some (.int .u8)) (hd : P.underlying dst = some .string) :
    (convert src dst (.slice (some ⟨g, 0, none⟩) n cap)).run P w = .ok (.string ⟨((List.range n).map f).toArray⟩) w := by
  have := run_convert_bytes_back (P := P) w src dst e ⟨g, 0, none⟩ cap ((List.range n).map f) hs he hd (fun j hj => by
    rw [Go.WideShapes.add_plain, Nat.zero_add]
    have hj' : j < n := by simpa using hj
    rw [h.cell hj']
    simp)
  simpa using this

theorem rowsize (s : ByteArray) (cap : Nat) : s.size ≤ (bytesRow s cap).size := by
  unfold bytesRow
  rw [Array.size_append, Array.size_map]
  show s.data.size ≤ _
  omega

set_option maxHeartbeats 1000000 in
theorem r_turn (s : ByteArray) (p w0 : Nat) (hp : p + 4 ≤ s.size) (hs : s.size ≤ 100000) (hw : w0 < 4294967296) (w : World) : Calls Try.prog 18 #[.string s, .int .i64 p, .int .u32 w0] w fun e w' => e = .returned (.string ⟨(Crc.turnL s.data.toList p w0).toArray⟩) ∧ Below w.heap.size w w' := by
  have hcv := run_bytes_of_string (P := Try.prog) w 9 67 5 s Try.underlying9 Try.underlying67 Try.underlying5
  have H0 : Hid (BB (w.drew.alloc (.cells (bytesRow s (grownCap w s.size 0 5)) 5 ((bytesRow s (grownCap w s.size 0 5)).size, (bytesRow s (grownCap w s.size 0 5)).size + 1))) w.heap.size s.size (bt s.data.toList p w0 0)) := Lib.hid ((BB.of_str w s _ _ (rowsize s _)).congr fun j _ => (bt_zero _ p w0 j).symm)
  have B0 : Hid (Below w.heap.size w (w.drew.alloc (.cells (bytesRow s (grownCap w s.size 0 5)) 5 ((bytesRow s (grownCap w s.size 0 5)).size, (bytesRow s (grownCap w s.size 0 5)).size + 1)))) := Lib.hid ((Below.refl _ w).drew.alloc (by show w.heap.size ≤ w.heap.size; omega) _)
  have HE := Lib.hid (bt_end s.data.toList p w0 (by simpa using hp))
  rw [show s.data.toList.length = s.size by simp] at HE
  generalize grownCap w s.size 0 5 = cap at *
  generalize bytesRow s cap = row at *
  have HW := Lib.hid hw
  clear hw
  go_enter Try.func18, Try.ntmps18
  go_wp2
  clear hcv
  go_loopw [2, 8] (fun ww i wr => ∃ k m : Nat, k ≤ 4 ∧ i = .int .i64 k ∧ ww = .int .u32 m ∧ m < 4294967296 ∧ Hid (m = w0 / 256 ^ k) ∧ BB wr w.heap.size s.size (bt s.data.toList p w0 k) ∧ Below w.heap.size w wr) (fun _ i _ => 4 - (intOf i).toNat)
  case atStart => exact ⟨0, w0, by omega, rfl, rfl, HW.out, Lib.hid (by simp), H0.out, B0.out⟩
  case round =>
    obtain ⟨k, m, hk, rfl, rfl, hm, HM, hbb, hbel⟩ := hrel
    by_cases hlt : k < 4
    · have hc := hbb.cell (j := p + k) (by omega)
      have hf := hbb.frozen (j := p + k) (by omega)
      have eb : bt s.data.toList p w0 k (p + k) = s.data.toList.getD (p + k) 0 := by unfold bt; rw [if_neg (by omega)]
      rw [eb] at hc
      have HM2 : Hid (m / 256 = w0 / 256 ^ (k + 1)) := Lib.hid (by rw [HM.out, Nat.div_div_eq_div_mul, Nat.pow_succ])
      have c1 := (s.data.toList.getD (p + k) 0).toNat_lt
      have EX := u8_xor_nat (s.data.toList.getD (p + k) 0).toNat (m % 256) c1 (Nat.mod_lt _ (by decide))
      rw [show ((m % 256 : Nat) : Int) = (m : Int) % 256 by omega] at EX
      have HB2 : Hid (∀ v : Value, v = .int .u8 (((s.data.toList.getD (p + k) 0).toNat ^^^ m % 256 : Nat) : Int) → BB (wr.setCell ⟨w.heap.size, p + k, none⟩ v) w.heap.size s.size (bt s.data.toList p w0 (k + 1))) := Lib.hid (fun v hv => (hbb.set (p + k) (by omega) (Crc.xb w0 k (s.data.toList.getD (p + k) 0)) v (by rw [hv]; unfold Crc.xb; rw [← HM.out]; simp)).congr fun j _ => by
        rw [bt_step]
        by_cases e : j = p + k
        · rw [if_pos e, if_pos e, e]
        · rw [if_neg e, if_neg e])
      have BE : Hid (∀ v, Below w.heap.size w (wr.setCell ⟨w.heap.size, p + k, none⟩ v)) := Lib.hid (fun v => hbel.setCell (p := ⟨w.heap.size, p + k, none⟩) (Nat.le_refl _) v)
      generalize (s.data.toList.getD (p + k) 0).toNat = cc at *
      clear hbb hbel HM eb
      go_wp2
      go_roundw
      case rel => exact ⟨k + 1, m / 256, by omega, by go_num, by go_num, by omega, HM2, HB2.out _ (by first | rfl | (rw [EX])), BE.out _⟩
      case measure => simp [intOf]; omega
    · obtain rfl : k = 4 := by omega
      have hcv := hbb.str (cap := cap) (P := Try.prog) 67 9 5 Try.underlying67 Try.underlying5 Try.underlying9
      rw [HE.out] at hcv
      have HBEL := Lib.hid hbel
      clear hbb hbel
      go_wp2
      go_ret
      exact ⟨rfl, HBEL.out⟩

end Go.Proofs.Ytpdnbkibnpkfbac
