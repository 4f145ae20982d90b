/- A region of a memory (layer 16) in the small logic. -/
import Derived.Test.YtflkbefiopnigabDoorVmH
import Derived.Test.YtflkbefiopnigabDoorBuN
namespace Go.Proofs.YtflkbefiopnigabDoor.BU
open Go.ChangeShapes Go.WideShapes Go.ChangeAt Go.RowKit
open VM

/-- block r is a region of the memory in block p -/
def bxA (r p base limit top : Nat) : Asn := blk r (.cells #[.pointer (some ⟨p, 0, none⟩), .int .i64 base, .int .i64 limit, .int .i64 top] 104 (0, 0))

def buA (r p base limit top : Nat) (m : MV) : Asn := bxA r p base limit top * memA p m

theorem bcells4 {w : World} {b : Nat} {x0 x1 x2 x3 : Value} {t : TypeId} (h : w.heap[b]? = some (.cells #[x0, x1, x2, x3] t (0, 0))) :
    w.cell? ⟨b, 0, none⟩ = some x0 ∧ w.cell? ⟨b, 1, none⟩ = some x1 ∧ w.cell? ⟨b, 2, none⟩ = some x2 ∧ w.cell? ⟨b, 3, none⟩ = some x3 ∧ (∀ i, w.frozen? ⟨b, i, none⟩ = false) := by
  simp [World.cell?, World.frozen?, h]

section
variable {w0 w : World} {S : Nat → Prop} {r p base limit top : Nat} {m m' : MV} {fn : FuncId} {args : Array Value} {v : Value}

theorem bu_cells (h : At (buA r p base limit top m) w0 S w) : w.cell? ⟨r, 0, none⟩ = some (.pointer (some ⟨p, 0, none⟩)) ∧ w.cell? ⟨r, 1, none⟩ = some (.int .i64 base) ∧ w.cell? ⟨r, 2, none⟩ = some (.int .i64 limit) ∧ w.cell? ⟨r, 3, none⟩ = some (.int .i64 top) ∧ (∀ i, w.frozen? ⟨r, i, none⟩ = false) :=
  bcells4 (At.blkIs h)

theorem bu_top (h : At (buA r p base limit top m) w0 S w) (t : Nat) : At (buA r p base limit t m) w0 S (w.setCell ⟨r, 3, none⟩ (.int .i64 (t : Nat))) := At.set_blk h 3 (.int .i64 (t : Nat))

theorem bu_mem (T : Tri1 Tryd.prog fn args (memA p m) v (memA p m')) (h : At (buA r p base limit top m) w0 S w) : Calls Tryd.prog fn args w fun e w' => e = .returned v ∧ At (buA r p base limit top m') w0 S w' :=
  (At.tri1 (C := bxA r p base limit top) (h.re (by unfold buA; ac_rfl)) T).mono fun _ _ ⟨a, b⟩ => ⟨a, b.re (by unfold buA; ac_rfl)⟩

theorem bu_look (T : Look Tryd.prog fn args (memA p m) v) (h : At (buA r p base limit top m) w0 S w) : Calls Tryd.prog fn args w fun e w' => e = .returned v ∧ ∃ n, w' = w.drewN n :=
  At.look (C := bxA r p base limit top) (h.re (by unfold buA; ac_rfl)) T

theorem bu_ask (T : Ask Tryd.prog fn args (memA p m) v) (h : At (buA r p base limit top m) w0 S w) : Calls Tryd.prog fn args w fun e w' => e = .returned v ∧ w = w' :=
  At.ask (C := bxA r p base limit top) (h.re (by unfold buA; ac_rfl)) T
end

theorem bu_base {r p base limit top : Nat} {m : MV} : Ask Tryd.prog 36 #[.pointer (some ⟨r, 0, none⟩)] (buA r p base limit top m) (.int .i64 base) := by
  intro w S h
  obtain ⟨c0, c1, c2, c3, cf⟩ := bu_cells (At.refl h)
  clear h
  go_enter Tryd.func36, Tryd.ntmps36
  go_wp2
  go_ret
  exact ⟨rfl, rfl⟩

theorem bu_limit {r p base limit top : Nat} {m : MV} : Ask Tryd.prog 38 #[.pointer (some ⟨r, 0, none⟩)] (buA r p base limit top m) (.int .i64 limit) := by
  intro w S h
  obtain ⟨c0, c1, c2, c3, cf⟩ := bu_cells (At.refl h)
  clear h
  go_enter Tryd.func38, Tryd.ntmps38
  go_wp2
  go_ret
  exact ⟨rfl, rfl⟩

theorem bu_topv {r p base limit top : Nat} {m : MV} : Ask Tryd.prog 37 #[.pointer (some ⟨r, 0, none⟩)] (buA r p base limit top m) (.int .i64 top) := by
  intro w S h
  obtain ⟨c0, c1, c2, c3, cf⟩ := bu_cells (At.refl h)
  clear h
  go_enter Tryd.func37, Tryd.ntmps37
  go_wp2
  go_ret
  exact ⟨rfl, rfl⟩

theorem bu_left {r p base limit top : Nat} {m : MV} (h1 : top ≤ limit) (h2 : limit ≤ 1000000) : Ask Tryd.prog 39 #[.pointer (some ⟨r, 0, none⟩)] (buA r p base limit top m) (.int .i64 (limit - top : Nat)) := by
  intro w S h
  have L := Lib.hid (bu_limit w S h)
  have T := Lib.hid (bu_topv w S h)
  clear h
  go_enter Tryd.func39, Tryd.ntmps39
  go_wp2_with (first | (go_at_call 38; refine L.out.mono ?_; rintro e1 w1 ⟨rfl, rfl⟩) | (go_at_call 37; refine T.out.mono ?_; rintro e1 w1 ⟨rfl, rfl⟩))
  go_ret
  exact ⟨ret_int (by omega), rfl⟩

theorem bu_new_bad {p : Nat} {m : MV} (a b : Int) (h : a < 0 ∨ b < a ∨ (m.words : Int) < b) : Ask Tryd.prog 26 #[.pointer (some ⟨p, 0, none⟩), .int .i64 a, .int .i64 b] (memA p m) (.tuple #[.pointer none, .int .i64 5]) := by
  intro w S hm
  have W := Lib.hid (vm_words (m := m) w S hm)
  clear hm
  by_cases h1 : a < 0
  · clear h
    go_enter Tryd.func26, Tryd.ntmps26
    go_wp2_with (go_at_call 20; refine W.out.mono ?_; rintro e1 w1 ⟨rfl, rfl⟩)
    go_ret2
    exact ⟨rfl, rfl⟩
  · by_cases h2 : b < a
    · clear h
      go_enter Tryd.func26, Tryd.ntmps26
      go_wp2_with (go_at_call 20; refine W.out.mono ?_; rintro e1 w1 ⟨rfl, rfl⟩)
      go_ret2
      exact ⟨rfl, rfl⟩
    · have h3 : (m.words : Int) < b := by omega
      clear h
      go_enter Tryd.func26, Tryd.ntmps26
      go_wp2_with (go_at_call 20; refine W.out.mono ?_; rintro e1 w1 ⟨rfl, rfl⟩)
      go_ret2
      exact ⟨rfl, rfl⟩

theorem bu_new_ok {p : Nat} {m : MV} (a b : Nat) (h1 : a ≤ b) (h2 : b ≤ m.words) : Tri Tryd.prog 26 #[.pointer (some ⟨p, 0, none⟩), .int .i64 a, .int .i64 b] (memA p m) (fun r : Nat => .tuple #[.pointer (some ⟨r, 0, none⟩), .int .i64 0]) (fun r => buA r p a b a m) := by
  intro w S hm
  have W := Lib.hid (vm_words (m := m) w S hm)
  have FIN := Lib.hid (show At (buA w.heap.size p a b a m) w S _ from (At.refl hm).alloc (.cells #[.pointer (some ⟨p, 0, none⟩), .int .i64 a, .int .i64 b, .int .i64 a] 104))
  clear hm
  go_enter Tryd.func26, Tryd.ntmps26
  go_wp2_with (go_at_call 20; refine W.out.mono ?_; rintro e1 w1 ⟨rfl, rfl⟩)
  go_ret2
  exact ⟨_, rfl, FIN.out⟩

theorem bu_alloc_size {r p base limit top : Nat} {m : MV} (n : Int) (hn : n < 1) : Ask Tryd.prog 33 #[.pointer (some ⟨r, 0, none⟩), .int .i64 n] (buA r p base limit top m) (.tuple #[.int .i64 0, .int .i64 15]) := by
  intro w S h
  obtain ⟨c0, c1, c2, c3, cf⟩ := bu_cells (At.refl h)
  clear h
  go_enter Tryd.func33, Tryd.ntmps33
  go_wp2
  go_ret2
  exact ⟨rfl, rfl⟩

theorem bu_alloc_full {r p base limit top : Nat} {m : MV} (h1 : top ≤ limit) (h2 : limit ≤ 1000000) (n : Int) (hn : 1 ≤ n) (hl : ((limit - top : Nat) : Int) < n) : Ask Tryd.prog 33 #[.pointer (some ⟨r, 0, none⟩), .int .i64 n] (buA r p base limit top m) (.tuple #[.int .i64 0, .int .i64 21]) := by
  intro w S h
  have L := Lib.hid (bu_left h1 h2 w S h)
  obtain ⟨c0, c1, c2, c3, cf⟩ := bu_cells (At.refl h)
  generalize limit - top = d at *
  clear h
  go_enter Tryd.func33, Tryd.ntmps33
  go_wp2_with (go_at_call 39; refine L.out.mono ?_; rintro e1 w1 ⟨rfl, rfl⟩)
  go_ret2
  exact ⟨rfl, rfl⟩

theorem bu_alloc_ok {r p base limit top : Nat} {m m' : MV} (h1 : top ≤ limit) (h2 : limit ≤ 1000000) (n : Nat) (hn : 1 ≤ n) (hl : n ≤ limit - top) (T : Tri1 Tryd.prog 11 #[.pointer (some ⟨p, 0, none⟩), .int .i64 top, .int .i64 (top + n : Nat)] (memA p m) (.int .i64 0) (memA p m')) :
    Tri1 Tryd.prog 33 #[.pointer (some ⟨r, 0, none⟩), .int .i64 n] (buA r p base limit top m) (.tuple #[.int .i64 top, .int .i64 0]) (buA r p base limit (top + n) m') := by
  intro w S h
  have L := Lib.hid (bu_left h1 h2 w S h)
  obtain ⟨c0, c1, c2, c3, cf⟩ := bu_cells (At.refl h)
  have H0 := Lib.hid (At.refl h)
  rw [show ((top + n : Nat) : Int) = (top : Int) + (n : Int) by omega] at T
  have TT := Lib.hid T
  have hlI : (n : Int) ≤ ((limit - top : Nat) : Int) := by omega
  have hb1 : (top : Int) + (n : Int) ≤ 1000000 := by omega
  have FIN := Lib.hid (fun w' (H : At (buA r p base limit top m') w S w') => bu_top H (top + n))
  rw [show ((top + n : Nat) : Int) = (top : Int) + (n : Int) by omega] at FIN
  generalize limit - top = d at *
  clear h T hl
  go_enter Tryd.func33, Tryd.ntmps33
  go_wp2_with fail
  refine L.out.mono ?_
  rintro e1 w1 ⟨rfl, rfl⟩
  have C := Lib.hid (bu_mem TT.out H0.out)
  clear L TT H0
  go_wp2_with fail
  refine C.out.mono ?_
  rintro e1 w2 ⟨rfl, hA⟩
  clear c0 c1 c2 c3 cf
  obtain ⟨c0, c1, c2, c3, cf⟩ := bu_cells hA
  have FF := Lib.hid (FIN.out _ hA)
  clear hA FIN C
  go_wp2
  go_ret2
  exact ⟨rfl, FF.out⟩

theorem bu_alloc_no {r p base limit top : Nat} {m m' : MV} (h1 : top ≤ limit) (h2 : limit ≤ 1000000) (n : Nat) (hn : 1 ≤ n) (hl : n ≤ limit - top) (e : Int) (he : ¬ e = 0) (T : Tri1 Tryd.prog 11 #[.pointer (some ⟨p, 0, none⟩), .int .i64 top, .int .i64 (top + n : Nat)] (memA p m) (.int .i64 e) (memA p m')) :
    Tri1 Tryd.prog 33 #[.pointer (some ⟨r, 0, none⟩), .int .i64 n] (buA r p base limit top m) (.tuple #[.int .i64 0, .int .i64 e]) (buA r p base limit top m') := by
  intro w S h
  have L := Lib.hid (bu_left h1 h2 w S h)
  obtain ⟨c0, c1, c2, c3, cf⟩ := bu_cells (At.refl h)
  have H0 := Lib.hid (At.refl h)
  rw [show ((top + n : Nat) : Int) = (top : Int) + (n : Int) by omega] at T
  have TT := Lib.hid T
  have hlI : (n : Int) ≤ ((limit - top : Nat) : Int) := by omega
  have hb1 : (top : Int) + (n : Int) ≤ 1000000 := by omega
  generalize limit - top = d at *
  clear h T hl
  go_enter Tryd.func33, Tryd.ntmps33
  go_wp2_with fail
  refine L.out.mono ?_
  rintro e1 w1 ⟨rfl, rfl⟩
  have C := Lib.hid (bu_mem TT.out H0.out)
  clear L TT H0
  go_wp2_with fail
  refine C.out.mono ?_
  rintro e1 w2 ⟨rfl, hA⟩
  clear c0 c1 c2 c3 cf
  have FF := Lib.hid hA
  clear hA C
  go_wp2
  go_ret2
  exact ⟨rfl, FF.out⟩

end Go.Proofs.YtflkbefiopnigabDoor.BU
