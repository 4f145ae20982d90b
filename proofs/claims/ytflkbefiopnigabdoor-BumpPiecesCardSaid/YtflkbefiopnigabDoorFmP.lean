/- The pool of frames (layer 7): New. -/
import Derived.Test.YtflkbefiopnigabDoorFmV
import Derived.Deep.OwnRows
namespace Go.Proofs.YtflkbefiopnigabDoor
open Go.ChangeShapes Go.WideShapes Go.ChangeAt Go.RowKit

def andp (n : Int) : Bool := bits .and .i64 n (n - 1) == 0

theorem fm_power_pos (n : Int) (h0 : 0 < n) (h1 : n ≤ 9223372036854775807) (b : Bool) (hb : andp n = b) (w : World) : Calls Tryd.prog 87 #[.int .i64 n] w fun e w' => e = .returned (.bool b) ∧ w = w' := by
  subst hb
  go_enter Tryd.func87, Tryd.ntmps87
  go_wp2
  go_ret
  exact ⟨rfl, rfl⟩

theorem fm_power_neg (n : Int) (h0 : ¬ 0 < n) (w : World) : Calls Tryd.prog 87 #[.int .i64 n] w fun e w' => e = .returned (.bool false) ∧ w = w' := by
  go_enter Tryd.func87, Tryd.ntmps87
  go_wp2
  go_ret
  exact ⟨rfl, rfl⟩

/-- the pages that there may be -/
def powP (n : Nat) : Prop := n = 1 ∨ n = 2 ∨ n = 4 ∨ n = 8 ∨ n = 16 ∨ n = 32 ∨ n = 64 ∨ n = 128 ∨ n = 256

theorem andp_pow (n : Nat) (h : powP n) : andp n = true := by
  rcases h with rfl | rfl | rfl | rfl | rfl | rfl | rfl | rfl | rfl <;> decide +kernel

theorem andp_not : ∀ n : Fin 257, 0 < n.val → ¬ powP n.val → andp (n.val : Int) = false := by
  have : ∀ n : Fin 257, (0 < n.val → ¬ (n.val = 1 ∨ n.val = 2 ∨ n.val = 4 ∨ n.val = 8 ∨ n.val = 16 ∨ n.val = 32 ∨ n.val = 64 ∨ n.val = 128 ∨ n.val = 256) → andp (n.val : Int) = false) := by decide +kernel
  exact this

theorem powP_le {n : Nat} (h : powP n) : 1 ≤ n ∧ n ≤ 256 := by unfold powP at h; omega

def newP (room page : Nat) : PS := { room, page, al := fun _ => false, rel := [], fresh := 0, high := 0, taken := 0, ws := fun _ => 0 }

theorem newP_ok (room page : Nat) (h1 : 1 ≤ room) (h2 : room ≤ 4096) (hp : powP page) : (newP room page).ok :=
  ⟨h1, h2, (powP_le hp).1, (powP_le hp).2, Nat.zero_le _, Nat.le_refl _, Nat.zero_le _⟩

theorem infU64F : (Tryd.prog.info? 23).map (fun i => (i.zero, i.size, i.bytes)) = some (some (.int .u64 0), 1, 8) := by kernel_rfl
theorem infBoolF : (Tryd.prog.info? 4).map (fun i => (i.zero, i.size, i.bytes)) = some (some (.bool false), 1, 1) := by kernel_rfl

theorem fm_new_bad (room page : Int) (hm : page ≤ 9223372036854775807) (h : room < 1 ∨ 4096 < room ∨ page < 1 ∨ 256 < page ∨ ¬ powP page.toNat) (w : World) : Calls Tryd.prog 52 #[.int .i64 room, .int .i64 page] w fun e w' => e = .returned (.tuple #[.pointer none, .int .i64 5]) ∧ w = w' := by
  by_cases h1 : room < 1
  · clear h hm
    go_enter Tryd.func52, Tryd.ntmps52
    go_wp2
    go_ret2
    exact ⟨rfl, rfl⟩
  by_cases h2 : 4096 < room
  · clear h hm
    go_enter Tryd.func52, Tryd.ntmps52
    go_wp2
    go_ret2
    exact ⟨rfl, rfl⟩
  by_cases h3 : 0 < page
  · cases hb : andp page with
    | false =>
      have PW := Lib.hid (fm_power_pos page h3 hm false hb w)
      clear h hm hb
      go_enter Tryd.func52, Tryd.ntmps52
      go_wp2_with (go_at_call 87; refine (PW.out).mono ?_; rintro e1 w1 ⟨rfl, rfl⟩)
      go_ret2
      exact ⟨rfl, rfl⟩
    | true =>
      have h4 : 256 < page := by
        rcases Int.lt_or_le 256 page with g | g
        · exact g
        · exfalso
          have := andp_not ⟨page.toNat, by omega⟩ (by show 0 < page.toNat; omega)
          simp only [show ((page.toNat : Nat) : Int) = page by omega, hb] at this
          have hn : ¬ powP page.toNat := by rcases h with h | h | h | h | h <;> first | omega | exact h
          exact absurd (this hn) (by simp)
      have PW := Lib.hid (fm_power_pos page h3 hm true hb w)
      clear h hm hb
      go_enter Tryd.func52, Tryd.ntmps52
      go_wp2_with (go_at_call 87; refine (PW.out).mono ?_; rintro e1 w1 ⟨rfl, rfl⟩)
      go_ret2
      exact ⟨rfl, rfl⟩
  · have PW := Lib.hid (fm_power_neg page h3 w)
    clear h hm
    go_enter Tryd.func52, Tryd.ntmps52
    go_wp2_with (go_at_call 87; refine (PW.out).mono ?_; rintro e1 w1 ⟨rfl, rfl⟩)
    go_ret2
    exact ⟨rfl, rfl⟩

theorem fm_new_fin {w0 w : World} {S : Nat → Prop} {room page : Nat} (h : At (pur True) w0 S w) : At (poolA (w.heap.size + 1 + 1) (newP room page)) w0 S
    (((w.alloc (.cells (madeCells #[.int .u64 0] (room * page)) 23)).alloc (.cells (madeCells #[.bool false] room) 4)).alloc (.cells #[.slice (some ⟨w.heap.size, 0, none⟩) (room * page) (room * page), .int .i64 page, .slice (some ⟨w.heap.size + 1, 0, none⟩) room room, .slice none 0 0, .int .i64 0, .int .i64 0, .int .i64 0] 126)).drew := by
  have h1 := ((((h.made (.int .u64 0) (room * page) 23).made (.bool false) room 4).own_nil 3 1).alloc (.cells #[.slice (some ⟨w.heap.size, 0, none⟩) (room * page) (room * page), .int .i64 page, .slice (some ⟨w.heap.size + 1, 0, none⟩) room room, .slice none 0 0, .int .i64 0, .int .i64 0, .int .i64 0] 126)).drew
  simp only [World.size_alloc] at h1
  refine poolA_of (bw := w.heap.size) (ba := w.heap.size + 1) (v := .slice none 0 0) ?_
  exact (h1.re (B := (blk (w.heap.size + 1 + 1) (.cells #[.slice (some ⟨w.heap.size, 0, none⟩) (room * page) (room * page), .int .i64 page, .slice (some ⟨w.heap.size + 1, 0, none⟩) room room, .slice none 0 0, .int .i64 0, .int .i64 0, .int .i64 0] 126) * (row (w.heap.size) 23 (room * page) (fun _ => .int .u64 0) * (row (w.heap.size + 1) 4 room (fun _ => .bool false) * own 3 1 (.slice none 0 0) 0 []))) * pur True) (by ac_rfl)).nounit

theorem fm_new_fin2 {w0 w : World} {S : Nat → Prop} {room page : Nat} (h : At (pur True) w0 S w) : At (poolA (w.heap.size + 1 + 1) (newP room page)) w0 S
    (((w.alloc (.cells (madeCells #[.bool false] room) 4)).alloc (.cells (madeCells #[.int .u64 0] (room * page)) 23)).alloc (.cells #[.slice (some ⟨w.heap.size + 1, 0, none⟩) (room * page) (room * page), .int .i64 page, .slice (some ⟨w.heap.size, 0, none⟩) room room, .slice none 0 0, .int .i64 0, .int .i64 0, .int .i64 0] 126)).drew := by
  have h1 := ((((h.made (.bool false) room 4).made (.int .u64 0) (room * page) 23).own_nil 3 1).alloc (.cells #[.slice (some ⟨w.heap.size + 1, 0, none⟩) (room * page) (room * page), .int .i64 page, .slice (some ⟨w.heap.size, 0, none⟩) room room, .slice none 0 0, .int .i64 0, .int .i64 0, .int .i64 0] 126)).drew
  simp only [World.size_alloc] at h1
  refine poolA_of (bw := w.heap.size + 1) (ba := w.heap.size) (v := .slice none 0 0) ?_
  exact (h1.re (B := (blk (w.heap.size + 1 + 1) (.cells #[.slice (some ⟨w.heap.size + 1, 0, none⟩) (room * page) (room * page), .int .i64 page, .slice (some ⟨w.heap.size, 0, none⟩) room room, .slice none 0 0, .int .i64 0, .int .i64 0, .int .i64 0] 126) * (row (w.heap.size + 1) 23 (room * page) (fun _ => .int .u64 0) * (row (w.heap.size) 4 room (fun _ => .bool false) * own 3 1 (.slice none 0 0) 0 []))) * pur True) (by ac_rfl)).nounit

theorem fm_new_ok (room page : Nat) (h1 : 1 ≤ room) (h2 : room ≤ 4096) (hp : powP page) :
    Tri Tryd.prog 52 #[.int .i64 room, .int .i64 page] (pur True) (fun c : Nat => .tuple #[.pointer (some ⟨c, 0, none⟩), .int .i64 0]) (fun c => poolA c (newP room page)) := by
  intro w S h
  obtain ⟨p1, p2⟩ := powP_le hp
  have PW := Lib.hid (fm_power_pos page (by omega) (by omega) true (andp_pow page hp) w)
  have hn : room * page ≤ 4096 * 256 := Nat.mul_le_mul h2 p2
  have HW1 : IntKind.i64.wrap ((room : Int) * (page : Int)) = ((room * page : Nat) : Int) := by
    rw [show (room : Int) * (page : Int) = ((room * page : Nat) : Int) by simp]
    exact IntWalk.i64_in _ (by omega)
  have MK1 := fun w => run_make_row' (P := Tryd.prog) 105 23 (.int .u64 0) 8 Tryd.underlying105 infU64F rfl .i64 .i64 (room * page) (by omega) (by omega) w
  have MK2 := fun w => run_make_row' (P := Tryd.prog) 124 4 (.bool false) 1 Tryd.underlying124 infBoolF rfl .i64 .i64 room (by omega) (by omega) w
  have H0 := At.refl h
  have HH := Lib.hid H0
  have HP := Lib.hid hp
  clear h H0 hp
  generalize hN : room * page = N at *
  have HN := Lib.hid hN
  clear hN
  go_enter Tryd.func52, Tryd.ntmps52
  go_wp2_with (go_at_call 87; refine (PW.out).mono ?_; rintro e1 w1 ⟨rfl, rfl⟩)
  go_region
  all_goals go_wp2
  · have f1 := fm_new_fin (room := room) (page := page) HH.out
    rw [HN.out] at f1
    go_ret2
    exact ⟨_, rfl, f1⟩
  · have f1 := fm_new_fin2 (room := room) (page := page) HH.out
    rw [HN.out] at f1
    go_ret2
    exact ⟨_, rfl, f1⟩

end Go.Proofs.YtflkbefiopnigabDoor
