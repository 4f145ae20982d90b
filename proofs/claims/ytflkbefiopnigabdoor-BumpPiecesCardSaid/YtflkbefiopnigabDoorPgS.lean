/- A page map of any pages (layer 8): what is done to it. -/
import Derived.Test.YtflkbefiopnigabDoorPgM
namespace Go.Proofs.YtflkbefiopnigabDoor.PT
open Go.ChangeShapes Go.WideShapes Go.ChangeAt Go.RowKit

def QS.put (s : QS) (p v : Nat) (d : Int) : QS := { s with fr := upd s.fr p v, tot := s.tot + d }

theorem tabA_far (fr : Nat → Nat) (i j v q : Nat) (o : Option Nat) (hj : j < 512) (h : q ≠ i) : tabA (upd fr (i * 512 + j) v) q o = tabA fr q o := by
  cases o with
  | none =>
    show pur _ = pur _
    rw [cntN_far fr i j v q hj h]
  | some T =>
    show row _ _ _ _ = row _ _ _ _
    rw [cntN_far fr i j v q hj h]
    congr 1
    funext x
    unfold tf
    by_cases hx : x < 512
    · rw [if_pos hx, if_pos hx]
      unfold upd
      show Value.int .u32 ((if q * 512 + x = i * 512 + j then v else fr (q * 512 + x) : Nat) : Int) = .int .u32 (fr (q * 512 + x) : Nat)
      rw [if_neg (by omega)]
    · rw [if_neg hx, if_neg hx]

theorem rest_far (s : QS) (ad : Nat → Option Nat) (i j v : Nat) (d : Int) (hj : j < 512) : rest (s.put (i * 512 + j) v d) ad i = rest s ad i := by
  unfold rest
  refine allA_congr _ fun q _ => ?_
  by_cases e : q = i
  · rw [if_pos e, if_pos e]
  · rw [if_neg e, if_neg e]
    exact tabA_far s.fr i j v q _ hj e

theorem rest_ad (s : QS) (ad ad' : Nat → Option Nat) (i : Nat) (h : ∀ q, q ≠ i → ad q = ad' q) : rest s ad i = rest s ad' i := by
  unfold rest
  refine allA_congr _ fun q _ => ?_
  by_cases e : q = i
  · rw [if_pos e, if_pos e]
  · rw [if_neg e, if_neg e, h q e]

/-- a table open: its block T -/
def pmO (c : Nat) (s : QS) (b T : Nat) (ad : Nat → Option Nat) (i : Nat) (fs : Nat → Int) (k : Int) : Asn :=
  blk c (hdr s b) * (row b 137 s.nt (fun i => ptr (ad i)) * (row T 136 513 (tf fs k) * rest s ad i))

theorem pmO_of {c : Nat} {s : QS} {b T : Nat} {ad : Nat → Option Nat} {i : Nat} (hi : i < s.nt) (had : ad i = some T) : pmX c s b ad = pmO c s b T ad i (fun j => (s.fr (i * 512 + j) : Nat)) (cntN s.fr i : Nat) := by
  rw [pmX_at c s b ad i hi, had]
  rfl

theorem pm_store {w0 w : World} {S : Nat → Prop} {c : Nat} {s : QS} {b T : Nat} {ad : Nat → Option Nat} {i j : Nat} {k : Int} (hi : i < s.nt) (hj : j < 512) (had : ad i = some T) (h : At (pmO c s b T ad i (fun j => (s.fr (i * 512 + j) : Nat)) k) w0 S w)
    (v : Nat) (d : Int) (k' : Int) (hk' : k' = (cntN (upd s.fr (i * 512 + j) v) i : Nat)) :
    At (pmX c (s.put (i * 512 + j) v d) b ad) w0 S (((w.setCell ⟨T, j, none⟩ (.int .u32 v)).setCell ⟨T, 512, none⟩ (.int .i64 k')).setCell ⟨c, 2, none⟩ (.int .i64 (s.tot + d))) := by
  have h1 := (((h.re (B := row T 136 513 (tf (fun j => (s.fr (i * 512 + j) : Nat)) k) * (blk c (hdr s b) * (row b 137 s.nt (fun i => ptr (ad i)) * rest s ad i))) (by unfold pmO; ac_rfl)).set_row j (.int .u32 v)).set_row 512 (.int .i64 k')).impl (fun S a => row_congr (g := tf (fun q => (upd s.fr (i * 512 + j) v (i * 512 + q) : Nat)) k') (fun q hq => by
    unfold tf upd
    by_cases e : q = 512
    · rw [if_pos e, if_neg (by omega)]
    · rw [if_neg e]
      by_cases e2 : q = j
      · rw [if_pos e2, if_pos (show q < 512 by omega)]
        show Value.int .u32 (v : Nat) = .int .u32 ((if i * 512 + q = i * 512 + j then v else s.fr (i * 512 + q) : Nat) : Int)
        rw [if_pos (by omega)]
      · rw [if_neg e2, if_pos (show q < 512 by omega), if_pos (show q < 512 by omega)]
        show Value.int .u32 (s.fr (i * 512 + q) : Nat) = .int .u32 ((if i * 512 + q = i * 512 + j then v else s.fr (i * 512 + q) : Nat) : Int)
        rw [if_neg (by omega)]) _ S a)
  have h2 := (h1.re (B := blk c (hdr s b) * (row T 136 513 (tf (fun q => (upd s.fr (i * 512 + j) v (i * 512 + q) : Nat)) k') * (row b 137 s.nt (fun i => ptr (ad i)) * rest s ad i))) (by ac_rfl)).set_blk 2 (.int .i64 (s.tot + d))
  refine h2.re ?_
  have e1 : pmX c (s.put (i * 512 + j) v d) b ad = _ := pmO_of (s := s.put (i * 512 + j) v d) (c := c) (b := b) hi had
  rw [e1]
  unfold pmO
  rw [rest_far s ad i j v d hj, hk']
  show _ = blk c (.cells #[.slice (some ⟨b, 0, none⟩) s.nt s.nt, .int .i64 s.pages, .int .i64 (s.tot + d)] 129 (0, 0)) * _
  show blk c (.cells #[.slice (some ⟨b, 0, none⟩) s.nt s.nt, .int .i64 s.pages, .int .i64 (s.tot + d)] 129 (0, 0)) * _ = _
  show _ = blk c _ * (row b 137 s.nt (fun i => ptr (ad i)) * (row T 136 513 (tf (fun q => (upd s.fr (i * 512 + j) v (i * 512 + q) : Nat)) (cntN (upd s.fr (i * 512 + j) v) i : Nat)) * rest s ad i))
  ac_rfl

theorem pm_nil {w0 w : World} {S : Nat → Prop} {c : Nat} {s : QS} {b T : Nat} {ad : Nat → Option Nat} {i : Nat} (hi : i < s.nt) (had : ad i = some T) (hz : cntN s.fr i = 0) (h : At (pmX c s b ad) w0 S w) :
    At (pmX c s b (fun q => if q = i then none else ad q)) w0 S (w.setCell ⟨b, i, none⟩ (.pointer none)) := by
  rw [pmO_of hi had] at h
  have h1 := ((h.re (B := row b 137 s.nt (fun i => ptr (ad i)) * (blk c (hdr s b) * rest s ad i * row T 136 513 (tf (fun j => (s.fr (i * 512 + j) : Nat)) (cntN s.fr i : Nat)))) (by unfold pmO; ac_rfl)).set_row i (.pointer none)).impl (fun S a => row_congr (g := fun q => ptr (if q = i then none else ad q)) (fun q _ => by
    by_cases e : q = i
    · rw [if_pos e, if_pos e]; rfl
    · rw [if_neg e, if_neg e]) _ S a)
  have h2 := (h1.re (B := (row b 137 s.nt (fun q => ptr (if q = i then none else ad q)) * (blk c (hdr s b) * rest s ad i)) * row T 136 513 (tf (fun j => (s.fr (i * 512 + j) : Nat)) (cntN s.fr i : Nat))) (by ac_rfl)).dropr
  have h3 := At.pure_in hz h2
  refine h3.re ?_
  rw [pmX_at c s b _ i hi, if_pos rfl, rest_ad s ad (fun q => if q = i then none else ad q) i (fun q hq => by rw [if_neg hq])]
  show _ = blk c (hdr s b) * (_ * (pur (cntN s.fr i = 0) * _))
  ac_rfl

/-- what a map with an open table reads -/
theorem pmO_facts {w0 w : World} {S : Nat → Prop} {c : Nat} {s : QS} {b T : Nat} {ad : Nat → Option Nat} {i : Nat} {fs : Nat → Int} {k : Int} (h : At (pmO c s b T ad i fs k) w0 S w) :
    w.heap[c]? = some (hdr s b) ∧ w.rowIs b 137 s.nt (fun i => ptr (ad i)) ∧ w.rowIs T 136 513 (tf fs k) ∧ c ≠ b ∧ c ≠ T ∧ b ≠ T := by
  have hT := h.re (B := row T 136 513 (tf fs k) * (blk c (hdr s b) * (row b 137 s.nt (fun i => ptr (ad i)) * rest s ad i))) (by unfold pmO; ac_rfl)
  have hb := h.re (B := row b 137 s.nt (fun i => ptr (ad i)) * (row T 136 513 (tf fs k) * (blk c (hdr s b) * rest s ad i))) (by unfold pmO; ac_rfl)
  exact ⟨At.blkIs h, hb.rowIs, hT.rowIs, At.ne h (has_blk _ _) (has_l (has_row _ _ _ _)), (hT.ne (has_row _ _ _ _) (has_l (has_blk _ _))).symm, hb.ne (has_row _ _ _ _) (has_l (has_row _ _ _ _))⟩

theorem pm_frame_ok {c : Nat} {s : QS} (hs : s.ok) (k : Nat) (hk : k < s.pages) (hf : s.fr k ≠ 0) : Ask Tryd.prog 58 #[.pointer (some ⟨c, 0, none⟩), .int .i64 k] (pmA c s) (.tuple #[.int .i64 ((s.fr k : Int) - 1), .int .i64 0]) := by
  intro w S h
  have CK := Lib.hid (pm_check_ok hs k hk w S h)
  have MP := pm_mapped hs k hk w S h
  rw [show (s.fr k != 0) = true by simpa using hf] at MP
  have MP := Lib.hid MP
  obtain ⟨b, ad, hX⟩ := pm_open (At.refl h)
  obtain ⟨i, j, rfl, hj, hi⟩ := ij s k hk
  cases had : ad i with
  | none =>
    rw [pmX_at c s b ad i hi, had] at hX
    have z : cntN s.fr i = 0 := At.purIs (hX.re (B := pur (cntN s.fr i = 0) * (blk c (hdr s b) * (row b 137 s.nt (fun i => ptr (ad i)) * rest s ad i))) (by show _ * (_ * (pur _ * _)) = _; ac_rfl))
    exact absurd (cntN_zero z j hj) hf
  | some T =>
    rw [pmO_of hi had] at hX
    obtain ⟨hh, hr, ht, u1, u2, u3⟩ := pmO_facts hX
    obtain ⟨c0, c1, c2, f0, f1, f2⟩ := pcells hh
    have b0 : w.cell? ⟨b, i, none⟩ = some (.pointer (some ⟨T, 0, none⟩)) := by have := hr.cell (i := i) hi; rw [had] at this; exact this
    have e1 : ((i * 512 + j : Nat) : Int) / 512 = i := by omega
    have e2 : ((i * 512 + j : Nat) : Int) % 512 = j := by omega
    have t0 := ht.cell (i := j) (by omega)
    rw [show tf (fun j => (s.fr (i * 512 + j) : Nat)) (cntN s.fr i : Nat) j = .int .u32 (s.fr (i * 512 + j) : Nat) by unfold tf; rw [if_pos hj]] at t0
    have fb := hs.fb (i * 512 + j)
    have ntl := nt_le hs
    have hkb : ((i * 512 + j : Nat) : Int) < 524288 := by have := hs.p2; omega
    have hk0 : (0 : Int) ≤ ((i * 512 + j : Nat) : Int) := by omega
    have hf1 : (1 : Int) ≤ (s.fr (i * 512 + j) : Int) := by omega
    have hf2 : (s.fr (i * 512 + j) : Int) ≤ 2147483648 := by omega
    generalize ((i * 512 + j : Nat) : Int) = kk at *
    generalize ((s.fr (i * 512 + j) : Nat) : Int) = fp at *
    clear hX h hh hr ht hs had hf fb
    go_enter Tryd.func58, Tryd.ntmps58
    go_wp2_with (first | (go_at_call 92; refine CK.out.mono ?_; rintro e1 w1 ⟨rfl, rfl⟩) | (go_at_call 93; refine MP.out.mono ?_; rintro e1 w1 ⟨rfl, rfl⟩))
    go_ret2
    exact ⟨rfl, rfl⟩

theorem pm_frame_none {c : Nat} {s : QS} (hs : s.ok) (k : Nat) (hk : k < s.pages) (hf : s.fr k = 0) : Ask Tryd.prog 58 #[.pointer (some ⟨c, 0, none⟩), .int .i64 k] (pmA c s) (.tuple #[.int .i64 0, .int .i64 12]) := by
  intro w S h
  have CK := Lib.hid (pm_check_ok hs k hk w S h)
  have MP := pm_mapped hs k hk w S h
  rw [hf] at MP
  have MP := Lib.hid MP
  clear h hs hk
  go_enter Tryd.func58, Tryd.ntmps58
  go_wp2_with (first | (go_at_call 92; refine CK.out.mono ?_; rintro e1 w1 ⟨rfl, rfl⟩) | (go_at_call 93; refine MP.out.mono ?_; rintro e1 w1 ⟨rfl, rfl⟩))
  go_ret2
  exact ⟨rfl, rfl⟩

theorem pm_frame_bad {c : Nat} {s : QS} (hs : s.ok) (i : Int) (hi : i < 0 ∨ (s.pages : Int) ≤ i) : Ask Tryd.prog 58 #[.pointer (some ⟨c, 0, none⟩), .int .i64 i] (pmA c s) (.tuple #[.int .i64 0, .int .i64 11]) := by
  intro w S h
  have CK := Lib.hid (pm_check_bad hs i hi w S h)
  clear h hs hi
  go_enter Tryd.func58, Tryd.ntmps58
  go_wp2_with (go_at_call 92; refine CK.out.mono ?_; rintro e1 w1 ⟨rfl, rfl⟩)
  go_ret2
  exact ⟨rfl, rfl⟩

end Go.Proofs.YtflkbefiopnigabDoor.PT
