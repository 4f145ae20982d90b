/- A page map of any pages (layer 8): set, Put, Drop, Move, New. -/
import Derived.Test.YtflkbefiopnigabDoorPgS
import Derived.Deep.Cut
namespace Go.Proofs.YtflkbefiopnigabDoor.PT
open Go.ChangeShapes Go.WideShapes Go.ChangeAt Go.RowKit

theorem zt (fs : Nat → Int) (k : Int) (j : Nat) (hj : j < 512) : tf fs k j = .int .u32 (fs j) := by unfold tf; rw [if_pos hj]
theorem zt2 (fs : Nat → Int) (k : Int) : tf fs k 512 = .int .i64 k := by unfold tf; rw [if_neg (by omega)]

/-- the new table laid -/
theorem pm_fresh {w0 w : World} {S : Nat → Prop} {c : Nat} {s : QS} {b : Nat} {ad : Nat → Option Nat} {i : Nat} (hi : i < s.nt) (had : ad i = none) (h : At (pmX c s b ad) w0 S w) :
    At (pmO c s b w.heap.size (fun q => if q = i then some w.heap.size else ad q) i (fun j => (s.fr (i * 512 + j) : Nat)) (0 : Int)) w0 S ((w.alloc (.cells zCells 136)).setCell ⟨b, i, none⟩ (.pointer (some ⟨w.heap.size, 0, none⟩))) ∧ cntN s.fr i = 0 := by
  rw [pmX_at c s b ad i hi, had] at h
  have z : cntN s.fr i = 0 := At.purIs (h.re (B := pur (cntN s.fr i = 0) * (blk c (hdr s b) * (row b 137 s.nt (fun i => ptr (ad i)) * rest s ad i))) (by show _ * (_ * (pur _ * _)) = _; ac_rfl))
  refine ⟨?_, z⟩
  have h1 := (h.re (B := pur (cntN s.fr i = 0) * (blk c (hdr s b) * (row b 137 s.nt (fun i => ptr (ad i)) * rest s ad i))) (by show _ * (_ * (pur _ * _)) = _; ac_rfl)).pure_out
  have h2 := (h1.alloc (.cells zCells 136)).impl (B := row w.heap.size 136 513 (tf (fun j => (s.fr (i * 512 + j) : Nat)) (0 : Int))) (fun S a => blk_row zSize (fun q hq => by
    unfold tf
    by_cases e : q < 512
    · rw [if_pos e]
      show _ = some (Value.int .u32 (s.fr (i * 512 + q) : Nat))
      rw [cntN_zero z q e]; exact zAt q e
    · obtain rfl : q = 512 := by omega
      rw [if_neg e]; exact zLast) _ S a)
  have h3 := ((h2.re (B := row b 137 s.nt (fun i => ptr (ad i)) * (blk c (hdr s b) * (row w.heap.size 136 513 (tf (fun j => (s.fr (i * 512 + j) : Nat)) (0 : Int)) * rest s ad i))) (by ac_rfl)).set_row i (.pointer (some ⟨w.heap.size, 0, none⟩))).impl (fun S a => row_congr (g := fun q => ptr (if q = i then some w.heap.size else ad q)) (fun q _ => by
    by_cases e : q = i
    · rw [if_pos e, if_pos e]; rfl
    · rw [if_neg e, if_neg e]) _ S a)
  refine h3.re ?_
  unfold pmO
  rw [rest_ad s ad (fun q => if q = i then some w.heap.size else ad q) i (fun q hq => by rw [if_neg hq])]
  ac_rfl

set_option maxRecDepth 20000 in
set_option maxHeartbeats 1000000 in
theorem pm_set {c : Nat} {s : QS} (hs : s.ok) (k f : Nat) (hk : k < s.pages) (hz : s.fr k = 0) (hf : f ≤ 2147483647) (ht1 : s.tot ≤ 900000) : Tri1 Tryd.prog 94 #[.pointer (some ⟨c, 0, none⟩), .int .i64 k, .int .i64 f] (pmA c s) (.tuple #[]) (pmA c (s.put k (f + 1) 1)) := by
  intro w S h
  obtain ⟨b, ad, hX⟩ := pm_open (At.refl h)
  obtain ⟨i, j, rfl, hj, hi⟩ := ij s k hk
  have e1 : ((i * 512 + j : Nat) : Int) / 512 = i := by omega
  have e2 : ((i * 512 + j : Nat) : Int) % 512 = j := by omega
  have ntl := nt_le hs
  have hkb : ((i * 512 + j : Nat) : Int) < 524288 := by have := hs.p2; omega
  have hk0 : (0 : Int) ≤ ((i * 512 + j : Nat) : Int) := by omega
  have tb1 := hs.t1
  have tb2 := hs.t2
  have hc5 := cntN_le s.fr i
  have hon := cntN_on s.fr i j (f + 1) hj (by omega) hz
  have hfi : (f : Int) + 1 ≤ 2147483648 := by omega
  cases had : ad i with
  | some T =>
    rw [pmO_of hi had] at hX
    obtain ⟨hh, hr, ht, u1, u2, u3⟩ := pmO_facts hX
    obtain ⟨c0, c1, c2, f0, f1, f2⟩ := pcells hh
    have b0 : w.cell? ⟨b, i, none⟩ = some (.pointer (some ⟨T, 0, none⟩)) := by have := hr.cell (i := i) hi; rw [had] at this; exact this
    have t0 := ht.cell (i := j) (by omega)
    have t1 := ht.cell (i := 512) (by omega)
    rw [zt _ _ _ hj] at t0
    rw [zt2] at t1
    have tz0 := ht.frozen j
    have tz1 := ht.frozen 512
    have FIN := Lib.hid (pmA_of (pm_store hi hj had hX (f + 1) 1 ((cntN s.fr i : Nat) + 1) (by rw [hon]; push_cast; rfl)))
    have ef : ((f + 1 : Nat) : Int) = (f : Int) + 1 := by omega
    rw [ef] at FIN
    generalize hkk : ((i * 512 + j : Nat) : Int) = kk at *
    generalize ((s.fr (i * 512 + j) : Nat) : Int) = fp at *
    have u4 : ¬ b = c := fun e => u1 e.symm
    have u5 : ¬ T = c := fun e => u2 e.symm
    have u6 : ¬ T = b := fun e => u3 e.symm
    have u7 : ¬ j = 512 := by omega
    have u8 : ¬ 512 = j := by omega
    have hc5I : ((cntN s.fr i : Nat) : Int) ≤ 512 := by omega
    have hc6I : (0 : Int) ≤ ((cntN s.fr i : Nat) : Int) := by omega
    generalize ((cntN s.fr i : Nat) : Int) = cn at *
    clear hX h hh hr ht hs had hon hz hkk hc5 ef
    go_enter Tryd.func94, Tryd.ntmps94
    go_wp2
    go_end0
    exact ⟨rfl, FIN.out⟩
  | none =>
    obtain ⟨hF, hz0⟩ := pm_fresh hi had hX
    have HON := Lib.hid hon
    obtain ⟨hh0, hr0⟩ := pm_hdr hX
    obtain ⟨c0, c1, c2, f0, f1, f2⟩ := pcells hh0
    have b0 : w.cell? ⟨b, i, none⟩ = some (.pointer none) := by have := hr0.cell (i := i) hi; rw [had] at this; exact this
    have hzt := zTab
    have hzs := zSize
    have HF := Lib.hid hF
    have ZR := zRow w
    have cA : (w.alloc (.cells zCells 136)).cell? ⟨b, i, none⟩ = some (.pointer none) := by
      rw [Below.cell ((Below.refl w.heap.size w).alloc (Nat.le_refl _) _) (World.block_lt_of_cell? w ⟨b, i, none⟩ b0)]; exact b0
    have hbl : b < w.heap.size := hr0.lt
    have hcl : c < w.heap.size := lt_of_block hh0
    have hr1 : (w.alloc (.cells zCells 136)).rowIs b 137 s.nt (fun i => ptr (ad i)) := hr0.of_block (Below.heap_alloc _ _ _ hbl)
    have hh1 : (w.alloc (.cells zCells 136)).heap[c]? = some (hdr s b) := (Below.heap_alloc _ _ _ hcl).trans hh0
    obtain ⟨g0, g1, g2, k0, k1, k2⟩ := pcells hh1
    have fA := hr1.frozen i
    obtain ⟨T, hT⟩ : ∃ T, w.heap.size = T := ⟨_, rfl⟩
    rw [hT] at HF hbl hcl ZR
    have u1 : ¬ T = b := by omega
    have u2 : ¬ T = c := by omega
    have u3 : ¬ b = T := by omega
    have u4 : ¬ c = T := by omega
    clear hF hX h hh0 hr0 hr1 hh1 ZR hs had hz hon
    generalize hkk : ((i * 512 + j : Nat) : Int) = kk at *
    go_enter Tryd.func94, Tryd.ntmps94
    go_upto_region 3 with fail
    have WE : (w.setCell ⟨b, i, none⟩ (.pointer (some ⟨T, 0, none⟩))).alloc (.cells zCells 136) = (w.alloc (.cells zCells 136)).setCell ⟨b, i, none⟩ (.pointer (some ⟨T, 0, none⟩)) := by
      exact (World.setCell_alloc_past (w := w) _ b i _ (by omega)).symm
    rw [WE]
    have HG := HF.out
    generalize (w.alloc (.cells zCells 136)).setCell ⟨b, i, none⟩ (.pointer (some ⟨T, 0, none⟩)) = w2 at HG ⊢
    obtain ⟨hh, hr, ht, v1, v2, v3⟩ := pmO_facts HG
    obtain ⟨c0, c1, c2, f0, f1, f2⟩ := pcells hh
    have b0 : w2.cell? ⟨b, i, none⟩ = some (.pointer (some ⟨T, 0, none⟩)) := by have := hr.cell (i := i) hi; rw [if_pos rfl] at this; exact this
    have t0 := ht.cell (i := j) (by omega)
    have t1 := ht.cell (i := 512) (by omega)
    rw [zt _ _ _ hj] at t0
    rw [zt2] at t1
    have tz0 := ht.frozen j
    have tz1 := ht.frozen 512
    have FIN := Lib.hid (pmA_of (pm_store (ad := fun q => if q = i then some T else ad q) hi hj (if_pos rfl) HG (f + 1) 1 1 (by rw [HON.out, hz0]; rfl)))
    have ef : ((f + 1 : Nat) : Int) = (f : Int) + 1 := by omega
    rw [ef] at FIN
    have u7 : ¬ j = 512 := by omega
    have u8 : ¬ 512 = j := by omega
    have u9 : ¬ b = c := fun e => v1 e.symm
    clear HG hh hr ht ef HF WE hzt hzs
    go_wp2
    go_end0
    exact ⟨rfl, FIN.out⟩

end Go.Proofs.YtflkbefiopnigabDoor.PT
