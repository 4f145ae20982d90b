/- The pool of frames (layer 7): New, the example, the law FramesNobody. -/
import Derived.Test.YtpdnbkibnpkfbadFmV
import Derived.Test.YtpdnbkibnpkfbadFmN
import Derived.Deep.OwnRows
namespace Go.Proofs.Ytpdnbkibnpkfbad
open Go.ChangeShapes Go.WideShapes Go.ChangeAt Go.RowKit

def andp (n : Int) : Bool := bits .and .i64 n (n - 1) == 0

theorem fm_power_pos (n : Int) (h0 : 0 < n) (h1 : n ≤ 9223372036854775807) (b : Bool) (hb : andp n = b) (w : World) : Calls Try.prog 39 #[.int .i64 n] w fun e w' => e = .returned (.bool b) ∧ w = w' := by
  subst hb
  go_enter Try.func39, Try.ntmps39
  go_wp2
  go_ret
  exact ⟨rfl, rfl⟩

theorem fm_power_neg (n : Int) (h0 : ¬ 0 < n) (w : World) : Calls Try.prog 39 #[.int .i64 n] w fun e w' => e = .returned (.bool false) ∧ w = w' := by
  go_enter Try.func39, Try.ntmps39
  go_wp2
  go_ret
  exact ⟨rfl, rfl⟩

/-- the pages that there may be -/
def powP (n : Nat) : Prop := n = 1 ∨ n = 2 ∨ n = 4 ∨ n = 8 ∨ n = 16 ∨ n = 32 ∨ n = 64 ∨ n = 128 ∨ n = 256

theorem andp_pow (n : Nat) (h : powP n) : andp n = true := by
  rcases h with rfl | rfl | rfl | rfl | rfl | rfl | rfl | rfl | rfl <;> decide +kernel

theorem andp_not : ∀ n : Fin 257, 0 < n.val → ¬ powP n.val → andp (n.val : Int) = false := by
  have : ∀ n : Fin 257, (0 < n.val → ¬ (n.val = 1 ∨ n.val = 2 ∨ n.val = 4 ∨ n.val = 8 ∨ n.val = 16 ∨ n.val = 32 ∨ n.val = 64 ∨ n.val = 128 ∨ n.val = 256) → andp (n.val : Int) = false) := by decide +kernel
  exact this

theorem powP_le {n : Nat} (h : powP n) : 1 ≤ n ∧ n ≤ 256 := by unfold powP at h; omega

def newP (room page : Nat) : PS := { room, page, al := fun _ => false, rel := [], fresh := 0, high := 0, taken := 0, ws := fun _ => 0 }

theorem newP_ok (room page : Nat) (h1 : 1 ≤ room) (h2 : room ≤ 4096) (hp : powP page) : (newP room page).ok :=
  ⟨h1, h2, (powP_le hp).1, (powP_le hp).2, Nat.zero_le _, Nat.le_refl _, Nat.zero_le _, Nat.zero_le _⟩

theorem infU64F : (Try.prog.info? 31).map (fun i => (i.zero, i.size, i.bytes)) = some (some (.int .u64 0), 1, 8) := by kernel_rfl
theorem infBoolF : (Try.prog.info? 4).map (fun i => (i.zero, i.size, i.bytes)) = some (some (.bool false), 1, 1) := by kernel_rfl

theorem fm_new_bad (room page : Int) (hm : page ≤ 9223372036854775807) (h : room < 1 ∨ 4096 < room ∨ page < 1 ∨ 256 < page ∨ ¬ powP page.toNat) (w : World) : Calls Try.prog 9 #[.int .i64 room, .int .i64 page] w fun e w' => e = .returned (.tuple #[.pointer none, .int .i64 5]) ∧ w = w' := by
  by_cases h1 : room < 1
  · clear h hm
    go_enter Try.func9, Try.ntmps9
    go_wp2
    go_ret2
    exact ⟨rfl, rfl⟩
  by_cases h2 : 4096 < room
  · clear h hm
    go_enter Try.func9, Try.ntmps9
    go_wp2
    go_ret2
    exact ⟨rfl, rfl⟩
  by_cases h3 : 0 < page
  · cases hb : andp page with
    | false =>
      have PW := Lib.hid (fm_power_pos page h3 hm false hb w)
      clear h hm hb
      go_enter Try.func9, Try.ntmps9
      go_wp2_with (go_at_call 39; refine (PW.out).mono ?_; rintro e1 w1 ⟨rfl, rfl⟩)
      go_ret2
      exact ⟨rfl, rfl⟩
    | true =>
      have h4 : 256 < page := by
        rcases Int.lt_or_le 256 page with g | g
        · exact g
        · exfalso
          have := andp_not ⟨page.toNat, by omega⟩ (by show 0 < page.toNat; omega)
          simp only [show ((page.toNat : Nat) : Int) = page by omega, hb] at this
          have hn : ¬ powP page.toNat := by rcases h with h | h | h | h | h <;> first | omega | exact h
          exact absurd (this hn) (by simp)
      have PW := Lib.hid (fm_power_pos page h3 hm true hb w)
      clear h hm hb
      go_enter Try.func9, Try.ntmps9
      go_wp2_with (go_at_call 39; refine (PW.out).mono ?_; rintro e1 w1 ⟨rfl, rfl⟩)
      go_ret2
      exact ⟨rfl, rfl⟩
  · have PW := Lib.hid (fm_power_neg page h3 w)
    clear h hm
    go_enter Try.func9, Try.ntmps9
    go_wp2_with (go_at_call 39; refine (PW.out).mono ?_; rintro e1 w1 ⟨rfl, rfl⟩)
    go_ret2
    exact ⟨rfl, rfl⟩

theorem fm_new_fin {w0 w : World} {S : Nat → Prop} {room page : Nat} (h : At (pur True) w0 S w) : At (poolA (w.heap.size + 1 + 1) (newP room page)) w0 S
    (((w.alloc (.cells (madeCells #[.int .u64 0] (room * page)) 31)).alloc (.cells (madeCells #[.bool false] room) 4)).alloc (.cells #[.slice (some ⟨w.heap.size, 0, none⟩) (room * page) (room * page), .int .i64 page, .slice (some ⟨w.heap.size + 1, 0, none⟩) room room, .slice none 0 0, .int .i64 0, .int .i64 0, .int .i64 0] 76)).drew := by
  have h1 := ((((h.made (.int .u64 0) (room * page) 31).made (.bool false) room 4).own_nil 3 1).alloc (.cells #[.slice (some ⟨w.heap.size, 0, none⟩) (room * page) (room * page), .int .i64 page, .slice (some ⟨w.heap.size + 1, 0, none⟩) room room, .slice none 0 0, .int .i64 0, .int .i64 0, .int .i64 0] 76)).drew
  simp only [World.size_alloc] at h1
  refine poolA_of (bw := w.heap.size) (ba := w.heap.size + 1) (v := .slice none 0 0) ?_
  exact (h1.re (B := (blk (w.heap.size + 1 + 1) (.cells #[.slice (some ⟨w.heap.size, 0, none⟩) (room * page) (room * page), .int .i64 page, .slice (some ⟨w.heap.size + 1, 0, none⟩) room room, .slice none 0 0, .int .i64 0, .int .i64 0, .int .i64 0] 76) * (row (w.heap.size) 31 (room * page) (fun _ => .int .u64 0) * (row (w.heap.size + 1) 4 room (fun _ => .bool false) * own 3 1 (.slice none 0 0) 0 []))) * pur True) (by ac_rfl)).nounit

theorem fm_new_fin2 {w0 w : World} {S : Nat → Prop} {room page : Nat} (h : At (pur True) w0 S w) : At (poolA (w.heap.size + 1 + 1) (newP room page)) w0 S
    (((w.alloc (.cells (madeCells #[.bool false] room) 4)).alloc (.cells (madeCells #[.int .u64 0] (room * page)) 31)).alloc (.cells #[.slice (some ⟨w.heap.size + 1, 0, none⟩) (room * page) (room * page), .int .i64 page, .slice (some ⟨w.heap.size, 0, none⟩) room room, .slice none 0 0, .int .i64 0, .int .i64 0, .int .i64 0] 76)).drew := by
  have h1 := ((((h.made (.bool false) room 4).made (.int .u64 0) (room * page) 31).own_nil 3 1).alloc (.cells #[.slice (some ⟨w.heap.size + 1, 0, none⟩) (room * page) (room * page), .int .i64 page, .slice (some ⟨w.heap.size, 0, none⟩) room room, .slice none 0 0, .int .i64 0, .int .i64 0, .int .i64 0] 76)).drew
  simp only [World.size_alloc] at h1
  refine poolA_of (bw := w.heap.size + 1) (ba := w.heap.size) (v := .slice none 0 0) ?_
  exact (h1.re (B := (blk (w.heap.size + 1 + 1) (.cells #[.slice (some ⟨w.heap.size + 1, 0, none⟩) (room * page) (room * page), .int .i64 page, .slice (some ⟨w.heap.size, 0, none⟩) room room, .slice none 0 0, .int .i64 0, .int .i64 0, .int .i64 0] 76) * (row (w.heap.size + 1) 31 (room * page) (fun _ => .int .u64 0) * (row (w.heap.size) 4 room (fun _ => .bool false) * own 3 1 (.slice none 0 0) 0 []))) * pur True) (by ac_rfl)).nounit

theorem fm_new_ok (room page : Nat) (h1 : 1 ≤ room) (h2 : room ≤ 4096) (hp : powP page) :
    Tri Try.prog 9 #[.int .i64 room, .int .i64 page] (pur True) (fun c : Nat => .tuple #[.pointer (some ⟨c, 0, none⟩), .int .i64 0]) (fun c => poolA c (newP room page)) := by
  intro w S h
  obtain ⟨p1, p2⟩ := powP_le hp
  have PW := Lib.hid (fm_power_pos page (by omega) (by omega) true (andp_pow page hp) w)
  have hn : room * page ≤ 4096 * 256 := Nat.mul_le_mul h2 p2
  have HW1 : IntKind.i64.wrap ((room : Int) * (page : Int)) = ((room * page : Nat) : Int) := by
    rw [show (room : Int) * (page : Int) = ((room * page : Nat) : Int) by simp]
    exact IntWalk.i64_in _ (by omega)
  have MK1 := fun w => run_make_row' (P := Try.prog) 73 31 (.int .u64 0) 8 Try.underlying73 infU64F rfl .i64 .i64 (room * page) (by omega) (by omega) w
  have MK2 := fun w => run_make_row' (P := Try.prog) 74 4 (.bool false) 1 Try.underlying74 infBoolF rfl .i64 .i64 room (by omega) (by omega) w
  have H0 := At.refl h
  have HH := Lib.hid H0
  have HP := Lib.hid hp
  clear h H0 hp
  generalize hN : room * page = N at *
  have HN := Lib.hid hN
  clear hN
  go_enter Try.func9, Try.ntmps9
  go_wp2_with (go_at_call 39; refine (PW.out).mono ?_; rintro e1 w1 ⟨rfl, rfl⟩)
  go_region
  all_goals go_wp2
  · have f1 := fm_new_fin (room := room) (page := page) HH.out
    rw [HN.out] at f1
    go_ret2
    exact ⟨_, rfl, f1⟩
  · have f1 := fm_new_fin2 (room := room) (page := page) HH.out
    rw [HN.out] at f1
    go_ret2
    exact ⟨_, rfl, f1⟩

/-- the example's pools -/
def lp1 : PS := (newP 2 4).took 0 1 [] 1
def lp2 : PS := lp1.took 1 2 [] 2
def lp3 : PS := lp2.give 0
def lp4 : PS := lp3.took 0 2 [] 2

theorem flives (w : World) : Calls Try.prog 8 #[] w fun e w' => e = .returned (.bool true) ∧ Below w.heap.size w w' := by
  have p4 : powP 4 := by unfold powP; omega
  have T0 := Lib.hid (fm_new_ok 2 4 (by omega) (by omega) p4)
  have k0 := newP_ok 2 4 (by omega) (by omega) p4
  have T1 := fun c => fm_take_fresh (p := c) k0 rfl (by decide)
  have k1 : lp1.ok := ⟨by decide, by decide, by decide, by decide, by decide, by decide, by decide, by decide⟩
  have T2 := fun c => fm_take_fresh (p := c) k1 rfl (by decide)
  have k2 : lp2.ok := ⟨by decide, by decide, by decide, by decide, by decide, by decide, by decide, by decide⟩
  have T3 := fun c => fm_take_full (p := c) k2 rfl rfl
  have T4 := fun c => fm_give_ok (p := c) k2 0 (by decide) rfl
  have k3 : lp3.ok := ⟨by decide, by decide, by decide, by decide, by decide, by decide, by decide, by decide⟩
  have T5 := fun c => fm_take_rel (p := c) k3 (ys := []) (z := 0) rfl (by decide)
  have H1 : ∀ c, Tri1 Try.prog 11 #[.pointer (some ⟨c, 0, none⟩)] (poolA c (newP 2 4)) (.tuple #[.int .i64 0, .int .i64 0]) (poolA c lp1) := T1
  have H2 : ∀ c, Tri1 Try.prog 11 #[.pointer (some ⟨c, 0, none⟩)] (poolA c lp1) (.tuple #[.int .i64 1, .int .i64 0]) (poolA c lp2) := T2
  have H3 : ∀ c, Ask Try.prog 11 #[.pointer (some ⟨c, 0, none⟩)] (poolA c lp2) (.tuple #[.int .i64 0, .int .i64 14]) := T3
  have H4 : ∀ c, Tri1 Try.prog 13 #[.pointer (some ⟨c, 0, none⟩), .int .i64 0] (poolA c lp2) (.int .i64 0) (poolA c lp3) := T4
  have H5 : ∀ c, Tri1 Try.prog 11 #[.pointer (some ⟨c, 0, none⟩)] (poolA c lp3) (.tuple #[.int .i64 0, .int .i64 0]) (poolA c lp4) := T5
  have H6 : ∀ c, Ask Try.prog 20 #[.pointer (some ⟨c, 0, none⟩)] (poolA c lp4) (.int .i64 2) := fun c => fm_high
  have H7 : ∀ c, Ask Try.prog 21 #[.pointer (some ⟨c, 0, none⟩)] (poolA c lp4) (.int .i64 3) := fun c => fm_taken
  have N1 := Lib.hid H1
  have N2 := Lib.hid H2
  have N3 := Lib.hid H3
  have N4 := Lib.hid H4
  have N5 := Lib.hid H5
  have N6 := Lib.hid H6
  have N7 := Lib.hid H7
  clear T1 T2 T3 T4 T5 H1 H2 H3 H4 H5 H6 H7 k0 k1 k2 k3 p4
  have E := Lib.hid (At.emp w)
  go_enter Try.func8, Try.ntmps8
  go_wp2_with fail
  refine (E.out.trix T0.out).mono ?_
  rintro e w1 ⟨c, rfl, a1⟩
  have C1 := Lib.hid (a1.tri0 (N1.out c))
  clear a1
  go_wp2_with fail
  refine C1.out.mono ?_
  rintro e w2 ⟨rfl, a2⟩
  have C2 := Lib.hid (a2.tri0 (N2.out c))
  clear a2 C1
  go_wp2_with fail
  refine C2.out.mono ?_
  rintro e w3 ⟨rfl, a3⟩
  have C3 := Lib.hid (a3.ask1 (N3.out c))
  have A3 := Lib.hid a3
  clear a3 C2
  go_wp2_with fail
  refine C3.out.mono ?_
  rintro e w4 ⟨rfl, rfl⟩
  have C4 := Lib.hid (A3.out.tri0 (N4.out c))
  clear A3 C3
  go_wp2_with fail
  refine C4.out.mono ?_
  rintro e w5 ⟨rfl, a5⟩
  have C5 := Lib.hid (a5.tri0 (N5.out c))
  clear a5 C4
  go_wp2_with fail
  refine C5.out.mono ?_
  rintro e w6 ⟨rfl, a6⟩
  have C6 := Lib.hid (a6.ask1 (N6.out c))
  have C7 := Lib.hid (a6.ask1 (N7.out c))
  have B6 := Lib.hid a6.below
  clear a6 C5
  go_wp2_with (first | (go_at_call 20; refine C6.out.mono ?_; rintro e7 w7 ⟨rfl, rfl⟩) | (go_at_call 21; refine C7.out.mono ?_; rintro e8 w8 ⟨rfl, rfl⟩))
  go_ret
  exact ⟨rfl, B6.out⟩

theorem fnobody_any (i j u : Int) (w : World) : Calls Try.prog 5 #[.int .i64 i, .int .i64 j, .int .u64 u] w fun e w' => e = .returned (.bool true) ∧ Below w.heap.size w w' := fnobody_core i j u w flives

end Go.Proofs.Ytpdnbkibnpkfbad
