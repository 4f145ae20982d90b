/- A page map of any pages (layer 8) in the small logic. -/
import Derived.Test.YtflkbefiopnigabDoorSL
namespace Go.Proofs.YtflkbefiopnigabDoor.PT
open Go.ChangeShapes Go.WideShapes Go.ChangeAt Go.RowKit

/-- how many of the first n -/
def cnt (g : Nat → Bool) : Nat → Nat
  | 0 => 0
  | n + 1 => cnt g n + (if g n then 1 else 0)

theorem cnt_congr {g h : Nat → Bool} : ∀ n, (∀ j, j < n → g j = h j) → cnt g n = cnt h n
  | 0, _ => rfl
  | n + 1, e => by unfold cnt; rw [cnt_congr n (fun j hj => e j (by omega)), e n (by omega)]

theorem cnt_le (g : Nat → Bool) : ∀ n, cnt g n ≤ n
  | 0 => Nat.le_refl _
  | n + 1 => by have := cnt_le g n; unfold cnt; split <;> omega

theorem cnt_zero {g : Nat → Bool} : ∀ n, cnt g n = 0 → ∀ j, j < n → g j = false
  | 0, _, j, hj => by omega
  | n + 1, h, j, hj => by
    unfold cnt at h
    by_cases e : g n = true
    · rw [if_pos e] at h; omega
    · rw [if_neg e] at h
      by_cases e2 : j = n
      · subst e2; simpa using e
      · exact cnt_zero n (by omega) j (by omega)

theorem cnt_on {g : Nat → Bool} (a : Nat) (ha : g a = false) : ∀ n, a < n → cnt (fun j => if j = a then true else g j) n = cnt g n + 1
  | 0, h => by omega
  | n + 1, h => by
    unfold cnt
    by_cases e : n = a
    · subst e
      rw [cnt_congr n (h := g) (fun j hj => by rw [if_neg (by omega)]), ha]
      simp
    · rw [cnt_on a ha n (by omega), if_neg e]; omega

theorem cnt_off {g : Nat → Bool} (a : Nat) (ha : g a = true) : ∀ n, a < n → cnt (fun j => if j = a then false else g j) n + 1 = cnt g n
  | 0, h => by omega
  | n + 1, h => by
    unfold cnt
    by_cases e : n = a
    · subst e
      rw [cnt_congr n (h := g) (fun j hj => by rw [if_neg (by omega)]), ha]
      simp
    · have := cnt_off a ha n (by omega)
      rw [if_neg e]; omega

def cntN (fr : Nat → Nat) (i : Nat) : Nat := cnt (fun j => fr (i * 512 + j) != 0) 512

def upd (fr : Nat → Nat) (p v : Nat) : Nat → Nat := fun q => if q = p then v else fr q

theorem cntN_far (fr : Nat → Nat) (i j v i' : Nat) (hj : j < 512) (h : i' ≠ i) : cntN (upd fr (i * 512 + j) v) i' = cntN fr i' :=
  cnt_congr 512 fun q hq => by unfold upd; rw [if_neg (by omega)]

theorem cntN_on (fr : Nat → Nat) (i j v : Nat) (hj : j < 512) (hv : v ≠ 0) (h : fr (i * 512 + j) = 0) : cntN (upd fr (i * 512 + j) v) i = cntN fr i + 1 := by
  unfold cntN
  rw [← cnt_on (g := fun j => fr (i * 512 + j) != 0) j (by simp [h]) 512 hj]
  refine cnt_congr 512 fun q hq => ?_
  unfold upd
  by_cases e : q = j
  · subst e; simp [hv]
  · rw [if_neg (by omega), if_neg e]

theorem cntN_off (fr : Nat → Nat) (i j : Nat) (hj : j < 512) (h : fr (i * 512 + j) ≠ 0) : cntN (upd fr (i * 512 + j) 0) i + 1 = cntN fr i := by
  unfold cntN
  rw [← cnt_off (g := fun j => fr (i * 512 + j) != 0) j (by simp [h]) 512 hj]
  refine congrArg (· + 1) (cnt_congr 512 fun q hq => ?_)
  unfold upd
  by_cases e : q = j
  · subst e; simp
  · rw [if_neg (by omega), if_neg e]

theorem cntN_le (fr : Nat → Nat) (i : Nat) : cntN fr i ≤ 512 := cnt_le _ _

theorem cntN_zero {fr : Nat → Nat} {i : Nat} (h : cntN fr i = 0) (j : Nat) (hj : j < 512) : fr (i * 512 + j) = 0 := by
  have := cnt_zero 512 h j hj
  simpa using this

/-- the product of n -/
def allA : Nat → (Nat → Asn) → Asn
  | 0, _ => pur True
  | n + 1, f => f n * allA n f

theorem one_star (A : Asn) : pur True * A = A := by
  refine Asn.ext' fun w S => ⟨?_, ?_⟩
  · rintro ⟨S1, S2, a, b, d, hS⟩
    have : S = S2 := by
      funext k; refine propext ((hS k).trans ⟨?_, .inr⟩)
      rintro (h | h)
      · exact absurd h (a.2 k)
      · exact h
    rw [this]; exact b
  · intro h
    exact ⟨fun _ => False, S, ⟨trivial, fun _ => id⟩, h, fun _ h => h.elim, fun k => by simp⟩

theorem allA_congr {f g : Nat → Asn} : ∀ n, (∀ j, j < n → f j = g j) → allA n f = allA n g
  | 0, _ => rfl
  | n + 1, h => by unfold allA; rw [h n (by omega), allA_congr n (fun j hj => h j (by omega))]

theorem allA_open (f : Nat → Asn) (i : Nat) : ∀ n, i < n → allA n f = f i * allA n (fun j => if j = i then pur True else f j)
  | 0, h => by omega
  | n + 1, h => by
    unfold allA
    by_cases e : n = i
    · subst e
      show f n * allA n f = f n * ((if n = n then pur True else f n) * allA n _)
      rw [if_pos rfl, one_star, allA_congr n (f := f) (g := fun j => if j = n then pur True else f j) (fun j hj => by rw [if_neg (by omega)])]
    · rw [allA_open f i n (by omega)]
      show f n * (f i * allA n _) = f i * ((if n = i then pur True else f n) * allA n _)
      rw [if_neg e]; ac_rfl

theorem allA_ones : ∀ n, allA n (fun _ => pur True) = pur True
  | 0 => rfl
  | n + 1 => by unfold allA; rw [allA_ones n, one_star]

structure QS where
  pages : Nat
  tot : Int
  fr : Nat → Nat

def QS.nt (s : QS) : Nat := (s.pages + 511) / 512

structure QS.ok (s : QS) : Prop where
  p1 : 1 ≤ s.pages
  p2 : s.pages ≤ 524288
  t1 : -1000000 ≤ s.tot
  t2 : s.tot ≤ 1000000
  fb : ∀ k, s.fr k ≤ 2147483648

def tf (fs : Nat → Int) (k : Int) : Nat → Value := fun i => if i < 512 then .int .u32 (fs i) else .int .i64 k

def zCells : Array Value := (Array.replicate 512 (Value.int .u32 0)).push (.int .i64 0)
theorem zTab (w : World) : (zeroValue 136).run Tryd.prog w = .ok (.agg zCells) w := by kernel_rfl
theorem zAt (i : Nat) (h : i < 512) : zCells[i]? = some (.int .u32 0) := by
  unfold zCells
  rw [Array.getElem?_push]
  rw [if_neg (by simp; omega)]
  simp [h]
theorem zLast : zCells[512]? = some (.int .i64 0) := by
  unfold zCells
  rw [Array.getElem?_push]
  simp
theorem zSize : zCells.size = 513 := by simp [zCells]

theorem zRow (w : World) : (w.alloc (.cells zCells 136)).rowIs w.heap.size 136 513 (tf (fun _ => 0) 0) := by
  refine ⟨zCells, heap_alloc_new _ _, zSize, fun i hi => ?_⟩
  unfold tf
  by_cases h : i < 512
  · rw [if_pos h]; exact zAt i h
  · obtain rfl : i = 512 := by omega
    rw [if_neg h]; exact zLast
attribute [irreducible] zCells

theorem pcells {w : World} {b : Nat} {x0 x1 x2 : Value} {t : TypeId} (h : w.heap[b]? = some (.cells #[x0, x1, x2] t (0, 0))) :
    w.cell? ⟨b, 0, none⟩ = some x0 ∧ w.cell? ⟨b, 1, none⟩ = some x1 ∧ w.cell? ⟨b, 2, none⟩ = some x2 ∧ w.frozen? ⟨b, 0, none⟩ = false ∧ w.frozen? ⟨b, 1, none⟩ = false ∧ w.frozen? ⟨b, 2, none⟩ = false := by
  simp [World.cell?, World.frozen?, h]

def tabA (fr : Nat → Nat) (i : Nat) : Option Nat → Asn
  | none => pur (cntN fr i = 0)
  | some T => row T 136 513 (tf (fun j => (fr (i * 512 + j) : Nat)) (cntN fr i : Nat))

def ptr (o : Option Nat) : Value := .pointer (o.map fun T => ⟨T, 0, none⟩)

def hdr (s : QS) (b : Nat) : Obj := .cells #[.slice (some ⟨b, 0, none⟩) s.nt s.nt, .int .i64 s.pages, .int .i64 s.tot] 129 (0, 0)

def pmX (c : Nat) (s : QS) (b : Nat) (ad : Nat → Option Nat) : Asn :=
  blk c (hdr s b) * (row b 137 s.nt (fun i => ptr (ad i)) * allA s.nt (fun i => tabA s.fr i (ad i)))

/-- block c is the map s -/
def pmA (c : Nat) (s : QS) : Asn := exa fun x : Nat × (Nat → Option Nat) => pmX c s x.1 x.2

theorem pmA_of {w0 w : World} {S0 : Nat → Prop} {c : Nat} {s : QS} {b : Nat} {ad : Nat → Option Nat} (h : At (pmX c s b ad) w0 S0 w) : At (pmA c s) w0 S0 w :=
  At.ofex (A := fun x : Nat × (Nat → Option Nat) => pmX c s x.1 x.2) (b, ad) h

/-- the other tables -/
def rest (s : QS) (ad : Nat → Option Nat) (i : Nat) : Asn := allA s.nt (fun j => if j = i then pur True else tabA s.fr j (ad j))

theorem pmX_at (c : Nat) (s : QS) (b : Nat) (ad : Nat → Option Nat) (i : Nat) (hi : i < s.nt) :
    pmX c s b ad = blk c (hdr s b) * (row b 137 s.nt (fun i => ptr (ad i)) * (tabA s.fr i (ad i) * rest s ad i)) := by
  unfold pmX rest
  rw [allA_open (fun i => tabA s.fr i (ad i)) i s.nt hi]

theorem pm_open {w0 w : World} {S0 : Nat → Prop} {c : Nat} {s : QS} (h : At (pmA c s) w0 S0 w) : ∃ b ad, At (pmX c s b ad) w0 S0 w := by
  obtain ⟨⟨b, ad⟩, h⟩ := h.exaIs
  exact ⟨b, ad, h⟩

theorem pm_hdr {w0 w : World} {S0 : Nat → Prop} {c : Nat} {s : QS} {b : Nat} {ad : Nat → Option Nat} (h : At (pmX c s b ad) w0 S0 w) : w.heap[c]? = some (hdr s b) ∧ w.rowIs b 137 s.nt (fun i => ptr (ad i)) := by
  refine ⟨At.blkIs h, At.rowIs (h.re (B := row b 137 s.nt (fun i => ptr (ad i)) * (blk c (hdr s b) * allA s.nt (fun i => tabA s.fr i (ad i)))) (by unfold pmX; ac_rfl))⟩

theorem pm_check_ok {c : Nat} {s : QS} (hs : s.ok) (k : Nat) (hk : k < s.pages) : Ask Tryd.prog 92 #[.pointer (some ⟨c, 0, none⟩), .int .i64 k] (pmA c s) (.int .i64 0) := by
  intro w S h
  obtain ⟨b, ad, hX⟩ := pm_open (At.refl h)
  obtain ⟨c0, c1, c2, f0, f1, f2⟩ := pcells (pm_hdr hX).1
  have p2 := hs.p2
  clear h hX hs
  go_enter Tryd.func92, Tryd.ntmps92
  go_wp2
  go_ret
  exact ⟨rfl, rfl⟩

theorem pm_check_bad {c : Nat} {s : QS} (hs : s.ok) (i : Int) (hi : i < 0 ∨ (s.pages : Int) ≤ i) : Ask Tryd.prog 92 #[.pointer (some ⟨c, 0, none⟩), .int .i64 i] (pmA c s) (.int .i64 11) := by
  intro w S h
  obtain ⟨b, ad, hX⟩ := pm_open (At.refl h)
  obtain ⟨c0, c1, c2, f0, f1, f2⟩ := pcells (pm_hdr hX).1
  have p2 := hs.p2
  clear h hX hs
  by_cases h0 : i < 0
  · clear hi
    go_enter Tryd.func92, Tryd.ntmps92
    go_wp2
    go_ret
    exact ⟨rfl, rfl⟩
  · have h1 : (s.pages : Int) ≤ i := by omega
    clear hi
    go_enter Tryd.func92, Tryd.ntmps92
    go_wp2
    go_ret
    exact ⟨rfl, rfl⟩

theorem nt_le {s : QS} (hs : s.ok) : s.nt ≤ 1024 := by have := hs.p2; unfold QS.nt; omega

theorem ij (s : QS) (k : Nat) (hk : k < s.pages) : ∃ i j, k = i * 512 + j ∧ j < 512 ∧ i < s.nt := by
  refine ⟨k / 512, k % 512, by omega, Nat.mod_lt _ (by decide), ?_⟩
  unfold QS.nt; omega

theorem pm_mapped {c : Nat} {s : QS} (hs : s.ok) (k : Nat) (hk : k < s.pages) : Ask Tryd.prog 93 #[.pointer (some ⟨c, 0, none⟩), .int .i64 k] (pmA c s) (.bool (s.fr k != 0)) := by
  intro w S h
  obtain ⟨b, ad, hX⟩ := pm_open (At.refl h)
  obtain ⟨hh, hr⟩ := pm_hdr hX
  obtain ⟨c0, c1, c2, f0, f1, f2⟩ := pcells hh
  obtain ⟨i, j, rfl, hj, hi⟩ := ij s k hk
  have b0 := hr.cell (i := i) hi
  have e1 : ((i * 512 + j : Nat) : Int) / 512 = i := by omega
  have e2 : ((i * 512 + j : Nat) : Int) % 512 = j := by omega
  have ntl := nt_le hs
  rw [pmX_at c s b ad i hi] at hX
  have ht := At.left (hX.re (B := tabA s.fr i (ad i) * (blk c (hdr s b) * (row b 137 s.nt (fun i => ptr (ad i)) * rest s ad i))) (by ac_rfl))
  obtain ⟨S2, ht⟩ := ht
  have hkb : ((i * 512 + j : Nat) : Int) < 524288 := by have := hs.p2; omega
  have hk0 : (0 : Int) ≤ ((i * 512 + j : Nat) : Int) := by omega
  generalize hkk : ((i * 512 + j : Nat) : Int) = kk at *
  clear hX h hh hr hs
  cases had : ad i with
  | none =>
    rw [had] at ht b0
    have z : cntN s.fr i = 0 := ht.1
    have zz := cntN_zero z j hj
    rw [zz]
    have b0' : w.cell? ⟨b, i, none⟩ = some (.pointer none) := b0
    clear b0 ht z zz had
    go_enter Tryd.func93, Tryd.ntmps93
    go_wp2
    go_ret
    exact ⟨rfl, rfl⟩
  | some T =>
    rw [had] at ht b0
    have t0 := (show w.rowIs T 136 513 _ from ht.1).cell (i := j) (by omega)
    rw [show tf (fun j => (s.fr (i * 512 + j) : Nat)) (cntN s.fr i : Nat) j = .int .u32 (s.fr (i * 512 + j) : Nat) by unfold tf; rw [if_pos hj]] at t0
    have b0' : w.cell? ⟨b, i, none⟩ = some (.pointer (some ⟨T, 0, none⟩)) := b0
    have eb : (s.fr (i * 512 + j) != 0) = ((s.fr (i * 512 + j) : Int) != 0) := by
      rw [Bool.eq_iff_iff]; simp
    rw [eb]
    generalize ((s.fr (i * 512 + j) : Nat) : Int) = fp at *
    clear b0 ht had eb
    go_enter Tryd.func93, Tryd.ntmps93
    go_wp2
    go_ret
    exact ⟨rfl, rfl⟩

end Go.Proofs.YtflkbefiopnigabDoor.PT
