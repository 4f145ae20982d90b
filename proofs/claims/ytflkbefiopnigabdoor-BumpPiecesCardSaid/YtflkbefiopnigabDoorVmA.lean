/- A paged memory (layer 9) in the small logic: what is asked of it. -/
import Derived.Test.YtflkbefiopnigabDoorVm
import Derived.Deep.QuietTactic
import Derived.BigQuiet
import Derived.Deep.RegionHeld3
namespace Go.Proofs.YtflkbefiopnigabDoor.VM
open Go.ChangeShapes Go.WideShapes Go.ChangeAt Go.RowKit
open PT (QS upd pmA newQ)

def mH (p : Nat) (m : MV) (sh c t : Nat) : Asn := blk p (.cells #[.pointer (some ⟨c, 0, none⟩), .pointer (some ⟨t, 0, none⟩), .int .i64 m.words, .int .i64 m.page, .int .i64 sh] 90 (0, 0))

def mX (p : Nat) (m : MV) (sh c t : Nat) (s : PS) (q : QS) : Asn := mH p m sh c t * (poolA c s * pmA t q)

/-- block p is the memory m -/
def memA (p : Nat) (m : MV) : Asn := exa fun x : Nat × Nat × Nat × PS × QS => pur (VI m x.2.2.2.1 x.2.2.2.2 ∧ m.page = 2 ^ x.1 ∧ x.1 ≤ 8) * mX p m x.1 x.2.1 x.2.2.1 x.2.2.2.1 x.2.2.2.2

theorem memA_open {w0 w : World} {S : Nat → Prop} {p : Nat} {m : MV} (h : At (memA p m) w0 S w) : ∃ sh c t s q, VI m s q ∧ m.page = 2 ^ sh ∧ sh ≤ 8 ∧ At (mX p m sh c t s q) w0 S w := by
  obtain ⟨⟨sh, c, t, s, q⟩, h⟩ := h.exaIs
  exact ⟨sh, c, t, s, q, h.purIs.1, h.purIs.2.1, h.purIs.2.2, h.pure_out⟩

theorem memA_shut {w0 w : World} {S : Nat → Prop} {p : Nat} {m : MV} {sh c t : Nat} {s : PS} {q : QS} (v : VI m s q) (e : m.page = 2 ^ sh) (e8 : sh ≤ 8) (h : At (mX p m sh c t s q) w0 S w) : At (memA p m) w0 S w :=
  At.ofex (A := fun x : Nat × Nat × Nat × PS × QS => pur (VI m x.2.2.2.1 x.2.2.2.2 ∧ m.page = 2 ^ x.1 ∧ x.1 ≤ 8) * mX p m x.1 x.2.1 x.2.2.1 x.2.2.2.1 x.2.2.2.2) (sh, c, t, s, q) (At.pure_in ⟨v, e, e8⟩ h)

theorem cells5 {w : World} {b : Nat} {x0 x1 x2 x3 x4 : Value} {t : TypeId} (h : w.heap[b]? = some (.cells #[x0, x1, x2, x3, x4] t (0, 0))) :
    w.cell? ⟨b, 0, none⟩ = some x0 ∧ w.cell? ⟨b, 1, none⟩ = some x1 ∧ w.cell? ⟨b, 2, none⟩ = some x2 ∧ w.cell? ⟨b, 3, none⟩ = some x3 ∧ w.cell? ⟨b, 4, none⟩ = some x4 := by
  simp [World.cell?, h]

section
variable {w0 w : World} {S : Nat → Prop} {p : Nat} {m : MV} {sh c t : Nat} {s s' : PS} {q q' : QS} {fn : FuncId} {args : Array Value} {v : Value}

theorem mX_hdr (h : At (mX p m sh c t s q) w0 S w) : w.cell? ⟨p, 0, none⟩ = some (.pointer (some ⟨c, 0, none⟩)) ∧ w.cell? ⟨p, 1, none⟩ = some (.pointer (some ⟨t, 0, none⟩)) ∧ w.cell? ⟨p, 2, none⟩ = some (.int .i64 m.words) ∧ w.cell? ⟨p, 3, none⟩ = some (.int .i64 m.page) ∧ w.cell? ⟨p, 4, none⟩ = some (.int .i64 sh) :=
  cells5 (At.blkIs h)

theorem mX_pool (T : Tri1 Tryd.prog fn args (poolA c s) v (poolA c s')) (h : At (mX p m sh c t s q) w0 S w) : Calls Tryd.prog fn args w fun e w' => e = .returned v ∧ At (mX p m sh c t s' q) w0 S w' :=
  (At.tri1 (C := mH p m sh c t * pmA t q) (h.re (by unfold mX; ac_rfl)) T).mono fun _ _ ⟨a, b⟩ => ⟨a, b.re (by unfold mX; ac_rfl)⟩

theorem mX_tab (T : Tri1 Tryd.prog fn args (pmA t q) v (pmA t q')) (h : At (mX p m sh c t s q) w0 S w) : Calls Tryd.prog fn args w fun e w' => e = .returned v ∧ At (mX p m sh c t s q') w0 S w' :=
  (At.tri1 (C := mH p m sh c t * poolA c s) (h.re (by unfold mX; ac_rfl)) T).mono fun _ _ ⟨a, b⟩ => ⟨a, b.re (by unfold mX; ac_rfl)⟩

theorem mX_plook (T : Look Tryd.prog fn args (poolA c s) v) (h : At (mX p m sh c t s q) w0 S w) : Calls Tryd.prog fn args w fun e w' => e = .returned v ∧ ∃ n, w' = w.drewN n :=
  At.look (C := mH p m sh c t * pmA t q) (h.re (by unfold mX; ac_rfl)) T

theorem mX_pask (T : Ask Tryd.prog fn args (poolA c s) v) (h : At (mX p m sh c t s q) w0 S w) : Calls Tryd.prog fn args w fun e w' => e = .returned v ∧ w = w' :=
  At.ask (C := mH p m sh c t * pmA t q) (h.re (by unfold mX; ac_rfl)) T

theorem mX_task (T : Ask Tryd.prog fn args (pmA t q) v) (h : At (mX p m sh c t s q) w0 S w) : Calls Tryd.prog fn args w fun e w' => e = .returned v ∧ w = w' :=
  At.ask (C := mH p m sh c t * poolA c s) (h.re (by unfold mX; ac_rfl)) T
end

/-- the table's answer at a page -/
def frV (m : MV) (q : QS) (i : Int) : Int := if 0 ≤ i ∧ i < m.pages ∧ m.mp i.toNat = true then ((q.fr i.toNat - 1 : Nat) : Int) else 0
def frE (m : MV) (i : Int) : Int := if 0 ≤ i ∧ i < m.pages then (if m.mp i.toNat = true then 0 else 12) else 11

theorem tab_frame {m : MV} {s : PS} {q : QS} (v : VI m s q) (t : Nat) (i : Int) : Ask Tryd.prog 58 #[.pointer (some ⟨t, 0, none⟩), .int .i64 i] (pmA t q) (.tuple #[.int .i64 (frV m q i), .int .i64 (frE m i)]) := by
  unfold frV frE
  have hp := v.pages
  by_cases h : 0 ≤ i ∧ i < m.pages
  · obtain ⟨k, rfl⟩ := Int.eq_ofNat_of_zero_le h.1
    rw [if_pos h, Int.toNat_natCast]
    by_cases hm : m.mp k = true
    · rw [if_pos ⟨h.1, h.2, hm⟩, if_pos hm]
      have := PT.pm_frame_ok (c := t) v.qo k (by omega) (v.nz hm)
      rw [show ((q.fr k - 1 : Nat) : Int) = (q.fr k : Int) - 1 by have := v.nz hm; omega]
      exact this
    · rw [if_neg (fun g => hm g.2.2), if_neg hm]
      exact PT.pm_frame_none v.qo k (by omega) (v.z (by simpa using hm))
  · rw [if_neg (fun g => h ⟨g.1, g.2.1⟩), if_neg h]
    exact PT.pm_frame_bad v.qo i (by omega)

theorem vm_mapped {p : Nat} {m : MV} (i : Int) : Ask Tryd.prog 18 #[.pointer (some ⟨p, 0, none⟩), .int .i64 i] (memA p m) (.bool (frE m i == 0)) := by
  intro w S h
  obtain ⟨sh, c, t, s, q, v, e1, e2, hX⟩ := memA_open (At.refl h)
  obtain ⟨c0, c1, c2, c3, c4⟩ := mX_hdr hX
  have F := Lib.hid (mX_task (tab_frame v t i) hX)
  generalize frE m i = fe at *
  generalize frV m q i = fv at *
  clear h hX v e1 e2
  go_enter Tryd.func18, Tryd.ntmps18
  go_wp2_with (go_at_call 58; refine F.out.mono ?_; rintro e1 w1 ⟨rfl, rfl⟩)
  go_ret
  exact ⟨rfl, rfl⟩

theorem vm_words {p : Nat} {m : MV} : Ask Tryd.prog 20 #[.pointer (some ⟨p, 0, none⟩)] (memA p m) (.int .i64 m.words) := by
  intro w S h
  obtain ⟨sh, c, t, s, q, v, e1, e2, hX⟩ := memA_open (At.refl h)
  obtain ⟨c0, c1, c2, c3, c4⟩ := mX_hdr hX
  clear h hX v e1 e2
  go_enter Tryd.func20, Tryd.ntmps20
  go_wp2
  go_ret
  exact ⟨rfl, rfl⟩

theorem vm_used {p : Nat} {m : MV} : Look Tryd.prog 21 #[.pointer (some ⟨p, 0, none⟩)] (memA p m) (.int .i64 m.used) := by
  intro w S h
  obtain ⟨sh, c, t, s, q, v, e1, e2, hX⟩ := memA_open (At.refl h)
  obtain ⟨c0, c1, c2, c3, c4⟩ := mX_hdr hX
  have U := fm_used (p := c) v.pi.ok
  rw [v.used] at U
  have F := Lib.hid (mX_plook U hX)
  clear h hX v e1 e2 U
  go_enter Tryd.func21, Tryd.ntmps21
  go_wp2_with (go_at_call 67; refine F.out.mono ?_; rintro e1 w1 ⟨rfl, n, rfl⟩)
  go_ret
  exact ⟨rfl, _, rfl⟩

set_option maxRecDepth 100000 in
theorem vm_frame {p : Nat} {m : MV} {sh c t : Nat} {s : PS} {q : QS} {w : World} {S : Nat → Prop} (v : VI m s q) (e8 : sh ≤ 8) (a : Int) (hX : At (mX p m sh c t s q) w S w) :
    Calls Tryd.prog 56 #[.pointer (some ⟨p, 0, none⟩), .int .i64 a] w fun e w' => e = .returned (.tuple #[.int .i64 (frV m q (a / 2 ^ sh)), .int .i64 (frE m (a / 2 ^ sh))]) ∧ ∃ n, w' = w.drewN n := by
  obtain ⟨c0, c1, c2, c3, c4⟩ := mX_hdr hX
  have F := Lib.hid (fun n => mX_task (tab_frame v t (a / 2 ^ sh)) (hX.drewN n))
  generalize frE m (a / 2 ^ sh) = fe at *
  generalize frV m q (a / 2 ^ sh) = fv at *
  clear hX v
  go_enter Tryd.func56, Tryd.ntmps56
  go_wp2
  go_quiet (first | (go_at_call 58; exact Calls.quiet_of ((F.out _).mono fun _ _ ⟨a, b⟩ => ⟨a, 0, b.symm⟩)))
  go_wp2
  go_ret2
  exact ⟨rfl, _, rfl⟩

theorem drewN_drewN (w : World) (a b : Nat) : (w.drewN a).drewN b = w.drewN (a + b) := by simp [World.drewN, Nat.add_assoc]

theorem ofInt64V (a : Nat) (ha : a < 9223372036854775808) : (BitVec.ofInt 64 (a : Int)).toNat = a := by
  rw [BitVec.toNat_ofInt]; omega

theorem and_page (a sh : Nat) (ha : a < 9223372036854775808) (h8 : sh ≤ 8) (pg : Nat) (hp : pg = 2 ^ sh) : bits .and .i64 (a : Int) ((pg : Int) - 1) = ((a % pg : Nat) : Int) := by
  have h2 : 1 ≤ pg ∧ pg ≤ 256 := by
    rw [hp]
    have : sh = 0 ∨ sh = 1 ∨ sh = 2 ∨ sh = 3 ∨ sh = 4 ∨ sh = 5 ∨ sh = 6 ∨ sh = 7 ∨ sh = 8 := by omega
    rcases this with rfl | rfl | rfl | rfl | rfl | rfl | rfl | rfl | rfl <;> decide
  rw [show (pg : Int) - 1 = ((pg - 1 : Nat) : Int) by omega]
  show IntKind.i64.wrap ((BitVec.ofInt 64 (a : Int) &&& BitVec.ofInt 64 ((pg - 1 : Nat) : Int)).toNat : Int) = _
  rw [BitVec.toNat_and, ofInt64V a ha, ofInt64V (pg - 1) (by omega)]
  have e : a &&& (pg - 1) = a % pg := by
    rw [hp]
    exact Nat.and_two_pow_sub_one_eq_mod a sh
  rw [e]
  have : a % pg ≤ a := Nat.mod_le _ _
  exact IntWalk.i64_in _ (by omega)

theorem split_pg (p j pg : Nat) (hj : j < pg) : (p * pg + j) / pg = p ∧ (p * pg + j) % pg = j := by
  constructor
  · rw [Nat.mul_comm, Nat.mul_add_div (by omega), Nat.div_eq_of_lt hj, Nat.add_zero]
  · rw [Nat.mul_comm, Nat.mul_add_mod, Nat.mod_eq_of_lt hj]

theorem adr_lt {m : MV} (hm : m.ok) {p j : Nat} (hp : p < m.pages) (hj : j < m.page) : p * m.page + j < m.words := by
  rw [← hm.dv]
  have : (p + 1) * m.page ≤ m.pages * m.page := Nat.mul_le_mul_right _ hp
  rw [Nat.add_mul] at this; omega

theorem frE_ok {m : MV} {p : Nat} (hb : p < m.pages) (hp : m.mp p = true) : frE m (p : Int) = 0 := by
  unfold frE
  rw [if_pos (by omega), Int.toNat_natCast, if_pos hp]

theorem frV_ok {m : MV} {q : QS} {p : Nat} (hb : p < m.pages) (hp : m.mp p = true) : frV m q (p : Int) = ((q.fr p - 1 : Nat) : Int) := by
  unfold frV
  rw [Int.toNat_natCast, if_pos ⟨by omega, by omega, hp⟩]

/-- what a good address is -/
theorem frE_zero {m : MV} {i : Int} (h : frE m i = 0) : ∃ p : Nat, i = p ∧ p < m.pages ∧ m.mp p = true := by
  unfold frE at h
  by_cases h1 : 0 ≤ i ∧ i < m.pages
  · rw [if_pos h1] at h
    by_cases h2 : m.mp i.toNat = true
    · exact ⟨i.toNat, by omega, by omega, h2⟩
    · rw [if_neg h2] at h; omega
  · rw [if_neg h1] at h; omega

theorem frE_is (m : MV) (i : Int) : frE m i = 0 ∨ frE m i = 11 ∨ frE m i = 12 := by
  unfold frE
  split
  · split
    · exact .inl rfl
    · exact .inr (.inr rfl)
  · exact .inr (.inl rfl)

theorem frV_bad {m : MV} {q : QS} {i : Int} (h : frE m i ≠ 0) : frV m q i = 0 := by
  unfold frV
  rw [if_neg]
  rintro ⟨a, b, c⟩
  apply h
  unfold frE
  rw [if_pos ⟨a, b⟩, if_pos c]

theorem vm_load_bad {p : Nat} {m : MV} (a : Int) (h0 : frE m (a / m.page) ≠ 0) : Look Tryd.prog 17 #[.pointer (some ⟨p, 0, none⟩), .int .i64 a] (memA p m) (.tuple #[.int .u64 0, .int .i64 (frE m (a / m.page))]) := by
  intro w S h
  obtain ⟨sh, c, t, s, q, v, e1, e2, hX⟩ := memA_open (At.refl h)
  have F := vm_frame v e2 a hX
  rw [show ((2 : Int) ^ sh) = (m.page : Int) by rw [e1]; push_cast; rfl] at F
  have F := Lib.hid F
  generalize frE m (a / m.page) = fe at *
  generalize frV m q (a / m.page) = fv at *
  clear h hX v e1 e2
  go_enter Tryd.func17, Tryd.ntmps17
  go_wp2_with (go_at_call 56; refine F.out.mono ?_; rintro e1 w1 ⟨rfl, n, rfl⟩)
  go_ret2
  exact ⟨rfl, _, rfl⟩

set_option maxRecDepth 100000 in
theorem vm_load_ok {p : Nat} {m : MV} (hm : m.ok) (i j : Nat) (hi : m.mp i = true) (hj : j < m.page) : Look Tryd.prog 17 #[.pointer (some ⟨p, 0, none⟩), .int .i64 (i * m.page + j : Nat)] (memA p m) (.tuple #[.int .u64 (m.val i j), .int .i64 0]) := by
  intro w S h
  obtain ⟨sh, c, t, s, q, v, e1, e2, hX⟩ := memA_open (At.refl h)
  have hb := hm.mb i hi
  have F := vm_frame v e2 ((i * m.page + j : Nat) : Int) hX
  obtain ⟨d1, d2⟩ := split_pg i j m.page hj
  have e3 : (((i * m.page + j : Nat) : Int) / 2 ^ sh) = (i : Int) := by
    rw [show ((2 : Int) ^ sh) = (m.page : Int) by rw [e1]; push_cast; rfl]
    exact_mod_cast congrArg (fun x : Nat => (x : Int)) d1
  rw [e3, frE_ok hb hi, frV_ok hb hi] at F
  have F := Lib.hid F
  have al := v.al i (v.nz hi)
  have PL := fm_load_ok (p := c) v.pi.ok (q.fr i - 1) j (v.pi.kr al) al (by rw [v.page]; exact hj)
  rw [v.page, v.val i j (v.nz hi) hj] at PL
  have PL := Lib.hid PL
  have hlt := adr_lt hm hb hj
  have hw := hm.w2
  have AE := and_page (i * m.page + j) sh (by omega) e2 m.page e1
  rw [d2] at AE
  have p1 := hm.p1
  have p2 := hm.p2
  have HX := Lib.hid hX
  generalize m.val i j = u at *
  generalize i * m.page + j = a at *
  obtain ⟨pg, hpg⟩ : ∃ pg, m.page = pg := ⟨_, rfl⟩
  rw [hpg] at AE p1 p2
  generalize q.fr i - 1 = f at *
  clear h hX v e1 e2 e3 d1 d2 al hi hb
  go_enter Tryd.func17, Tryd.ntmps17
  go_wp2_with (go_at_call 56; refine F.out.mono ?_; rintro e1 w1 ⟨rfl, n, rfl⟩)
  have H1 := HX.out.drewN n
  obtain ⟨wz, hwz⟩ : ∃ wz, w.drewN n = wz := ⟨_, rfl⟩
  rw [hwz] at H1 ⊢
  obtain ⟨c0, c1, c2, c3, c4⟩ := mX_hdr H1
  rw [hpg] at c3
  have PQ := Lib.hid (fun n => mX_plook PL.out (H1.drewN n))
  have HW := Lib.hid hwz
  clear H1 hwz HX PL hpg
  go_quiet (first | (go_at_call 66; exact Calls.quiet_of (PQ.out _)))
  go_wp2
  go_ret2
  exact ⟨rfl, _, by rw [← HW.out]; exact drewN_drewN _ _ _⟩

end Go.Proofs.YtflkbefiopnigabDoor.VM
