/- The pool of frames (layer 7) in memory: what is asked of it. -/
import Derived.Test.YtflkbefiopnigabDoorSL
namespace Go.Proofs.YtflkbefiopnigabDoor
open Go.ChangeShapes Go.WideShapes Go.ChangeAt Go.RowKit

/-- a pool, as plain numbers -/
structure PS where
  room : Nat
  page : Nat
  al : Nat → Bool
  rel : List Nat
  fresh : Nat
  high : Nat
  taken : Int
  ws : Nat → Int

structure PS.ok (s : PS) : Prop where
  r1 : 1 ≤ s.room
  r2 : s.room ≤ 4096
  p1 : 1 ≤ s.page
  p2 : s.page ≤ 256
  fr : s.fresh ≤ s.room
  rl : s.rel.length ≤ s.fresh
  hi : s.high ≤ s.room

def poolC (s : PS) (bw ba : Nat) (v : Value) : Array Value := #[.slice (some ⟨bw, 0, none⟩) (s.room * s.page) (s.room * s.page), .int .i64 s.page, .slice (some ⟨ba, 0, none⟩) s.room s.room, v, .int .i64 s.fresh, .int .i64 s.high, .int .i64 s.taken]

def relL (s : PS) : List Value := s.rel.map (fun n : Nat => Value.int .i64 n)

def poolX (p : Nat) (s : PS) (bw ba : Nat) (v : Value) : Asn :=
  blk p (.cells (poolC s bw ba v) 126 (0, 0)) * (row bw 23 (s.room * s.page) (fun i => .int .u64 (s.ws i)) * (row ba 4 s.room (fun i => .bool (s.al i)) * own 3 1 v s.rel.length (relL s)))

/-- block p is the pool s -/
def poolA (p : Nat) (s : PS) : Asn := exa fun x : Nat × Nat × Value => poolX p s x.1 x.2.1 x.2.2

theorem poolA_of {w0 w : World} {S0 : Nat → Prop} {p : Nat} {s : PS} {bw ba : Nat} {v : Value} (h : At (poolX p s bw ba v) w0 S0 w) : At (poolA p s) w0 S0 w :=
  At.ofex (A := fun x : Nat × Nat × Value => poolX p s x.1 x.2.1 x.2.2) (bw, ba, v) h

theorem own_form' {w : World} {B n z : Nat} {e : TypeId} {v : Value} {xs : List Value} (h : w.ownsRow B e z v n xs) : ∃ a cap, v = .slice a n cap := by
  rcases h.2 with ⟨rfl, rfl⟩ | ⟨g, cap, cur, rfl, _⟩
  · exact ⟨_, _, rfl⟩
  · exact ⟨_, _, rfl⟩

theorem cells7 {w : World} {b : Nat} {x0 x1 x2 x3 x4 x5 x6 : Value} {t : TypeId} (h : w.heap[b]? = some (.cells #[x0, x1, x2, x3, x4, x5, x6] t (0, 0))) :
    w.cell? ⟨b, 0, none⟩ = some x0 ∧ w.cell? ⟨b, 1, none⟩ = some x1 ∧ w.cell? ⟨b, 2, none⟩ = some x2 ∧ w.cell? ⟨b, 3, none⟩ = some x3 ∧ w.cell? ⟨b, 4, none⟩ = some x4 ∧ w.cell? ⟨b, 5, none⟩ = some x5 ∧ w.cell? ⟨b, 6, none⟩ = some x6 ∧ (∀ i, w.frozen? ⟨b, i, none⟩ = false) := by
  simp [World.cell?, World.frozen?, h]

/-- what a pool's blocks read -/
theorem pool_open {w : World} {S : Nat → Prop} {p : Nat} {s : PS} (h : (poolA p s).holds w S) : ∃ bw ba a cap, (poolX p s bw ba (.slice a s.rel.length cap)).holds w S ∧
    w.heap[p]? = some (.cells #[.slice (some ⟨bw, 0, none⟩) (s.room * s.page) (s.room * s.page), .int .i64 s.page, .slice (some ⟨ba, 0, none⟩) s.room s.room, .slice a s.rel.length cap, .int .i64 s.fresh, .int .i64 s.high, .int .i64 s.taken] 126 (0, 0)) ∧
    w.rowIs bw 23 (s.room * s.page) (fun i => .int .u64 (s.ws i)) ∧ w.rowIs ba 4 s.room (fun i => .bool (s.al i)) ∧ w.ownsRow 0 3 1 (.slice a s.rel.length cap) s.rel.length (relL s) := by
  obtain ⟨⟨bw, ba, v⟩, h⟩ := h
  have h0 := h
  obtain ⟨S1, S2, hb, ⟨S3, S4, hw, ⟨S5, S6, ha, ho, _, _⟩, _, _⟩, _, _⟩ := h
  obtain ⟨a, cap, rfl⟩ := own_form' ho.1
  exact ⟨bw, ba, a, cap, h0, hb.1, hw.1, ha.1, ho.1⟩

theorem fm_check_ok {p : Nat} {s : PS} (hs : s.ok) (k : Nat) (hk : k < s.room) (ha : s.al k = true) : Ask Tryd.prog 95 #[.pointer (some ⟨p, 0, none⟩), .int .i64 k] (poolA p s) (.int .i64 0) := by
  intro w S h
  obtain ⟨bw, ba, a, cap, _, hb, hw, hr, ho⟩ := pool_open h
  obtain ⟨c0, c1, c2, c3, c4, c5, c6, f⟩ := cells7 hb
  have ac := hr.cell hk
  simp only [ha] at ac
  have h2 := hs.r2
  generalize s.room = room at *
  clear hb hw hr ho h hs ha
  go_enter Tryd.func95, Tryd.ntmps95
  go_wp2
  go_ret
  exact ⟨rfl, rfl⟩

theorem fm_check_bad {p : Nat} {s : PS} (hs : s.ok) (i : Int) (hi : i < 0 ∨ (s.room : Int) ≤ i ∨ s.al i.toNat = false) : Ask Tryd.prog 95 #[.pointer (some ⟨p, 0, none⟩), .int .i64 i] (poolA p s) (.int .i64 6) := by
  intro w S h
  obtain ⟨bw, ba, a, cap, _, hb, hw, hr, ho⟩ := pool_open h
  obtain ⟨c0, c1, c2, c3, c4, c5, c6, f⟩ := cells7 hb
  have h2 := hs.r2
  by_cases h0 : i < 0
  · generalize s.room = room at *
    clear hb hw hr ho h hs hi
    go_enter Tryd.func95, Tryd.ntmps95
    go_wp2
    go_ret
    exact ⟨rfl, rfl⟩
  obtain ⟨k, rfl⟩ := Int.eq_ofNat_of_zero_le (show 0 ≤ i by omega)
  by_cases h1 : s.room ≤ k
  · generalize s.room = room at *
    clear hb hw hr ho h hs hi
    go_enter Tryd.func95, Tryd.ntmps95
    go_wp2
    go_ret
    exact ⟨rfl, rfl⟩
  have ha : s.al k = false := by
    rcases hi with h | h | h
    · omega
    · omega
    · simpa using h
  have ac := hr.cell (i := k) (by omega)
  simp only [ha] at ac
  have hk : k < s.room := by omega
  generalize s.room = room at *
  clear hb hw hr ho h hs ha hi h0 h1
  go_enter Tryd.func95, Tryd.ntmps95
  go_wp2
  go_ret
  exact ⟨rfl, rfl⟩

theorem fm_used' {p : Nat} {s : PS} (h1 : s.room ≤ 4096) (h2 : s.fresh ≤ s.room) (h3 : s.rel.length ≤ s.fresh) : Look Tryd.prog 67 #[.pointer (some ⟨p, 0, none⟩)] (poolA p s) (.int .i64 (s.fresh - s.rel.length : Nat)) := by
  intro w S h
  obtain ⟨bw, ba, a, cap, _, hb, hw, hr, ho⟩ := pool_open h
  obtain ⟨c0, c1, c2, c3, c4, c5, c6, f⟩ := cells7 hb
  clear hb hw hr ho h
  generalize s.rel.length = n at *
  generalize s.fresh = m at *
  go_enter Tryd.func67, Tryd.ntmps67
  go_wp2
  go_quiet (fail)
  go_wp2
  go_ret
  exact ⟨ret_int (by omega), _, rfl⟩

theorem fm_used {p : Nat} {s : PS} (hs : s.ok) : Look Tryd.prog 67 #[.pointer (some ⟨p, 0, none⟩)] (poolA p s) (.int .i64 (s.fresh - s.rel.length : Nat)) := fm_used' hs.r2 hs.fr hs.rl

theorem fm_high {p : Nat} {s : PS} : Ask Tryd.prog 68 #[.pointer (some ⟨p, 0, none⟩)] (poolA p s) (.int .i64 s.high) := by
  intro w S h
  obtain ⟨bw, ba, a, cap, _, hb, hw, hr, ho⟩ := pool_open h
  obtain ⟨c0, c1, c2, c3, c4, c5, c6, f⟩ := cells7 hb
  clear hb hw hr ho h
  go_enter Tryd.func68, Tryd.ntmps68
  go_wp2
  go_ret
  exact ⟨rfl, rfl⟩

theorem fm_room {p : Nat} {s : PS} : Ask Tryd.prog 69 #[.pointer (some ⟨p, 0, none⟩)] (poolA p s) (.int .i64 s.room) := by
  intro w S h
  obtain ⟨bw, ba, a, cap, _, hb, hw, hr, ho⟩ := pool_open h
  obtain ⟨c0, c1, c2, c3, c4, c5, c6, f⟩ := cells7 hb
  clear hb hw hr ho h
  go_enter Tryd.func69, Tryd.ntmps69
  go_wp2
  go_ret
  exact ⟨rfl, rfl⟩

/-- the words of a frame, as a slice -/
theorem fm_frame {p : Nat} {s : PS} (h1 : s.room ≤ 4096) (h3 : 1 ≤ s.page) (h2 : s.page ≤ 256) (k : Nat) (hk : k < s.room) (w : World) (bw ba : Nat) (v : Value) (hb : w.heap[p]? = some (.cells (poolC s bw ba v) 126 (0, 0))) :
    Calls Tryd.prog 91 #[.pointer (some ⟨p, 0, none⟩), .int .i64 k] w fun e w' => e = .returned (.slice (some ⟨bw, k * s.page, none⟩) s.page s.page) ∧ ∃ n, w' = w.drewN n := by
  obtain ⟨c0, c1, c2, c3, c4, c5, c6, f⟩ := cells7 hb
  clear hb
  have hm : k * s.page + s.page ≤ s.room * s.page := by rw [← Nat.succ_mul]; exact Nat.mul_le_mul_right _ hk
  have hn : s.room * s.page ≤ 4096 * 256 := Nat.mul_le_mul h1 h2
  have HW1 : IntKind.i64.wrap ((k : Int) * (s.page : Int)) = ((k * s.page : Nat) : Int) := by
    rw [show (k : Int) * (s.page : Int) = ((k * s.page : Nat) : Int) by simp]
    exact IntWalk.i64_in _ (by omega)
  have HW2 : IntKind.i64.wrap ((k : Int) + 1) = (k : Int) + 1 := IntWalk.i64_in _ (by omega)
  have HW3 : IntKind.i64.wrap (((k : Int) + 1) * (s.page : Int)) = ((k * s.page + s.page : Nat) : Int) := by
    rw [show ((k : Int) + 1) * (s.page : Int) = ((k * s.page + s.page : Nat) : Int) by simp [Int.add_mul]]
    exact IntWalk.i64_in _ (by omega)
  generalize k * s.page = st at *
  generalize s.room * s.page = N at *
  generalize s.page = pg at *
  go_enter Tryd.func91, Tryd.ntmps91
  go_wp2
  go_quiet (fail)
  clear HW1 HW2 HW3
  go_wp2
  go_ret
  refine ⟨?_, _, rfl⟩
  show Ending.returned (Value.slice (some ⟨bw, st, none⟩) (st + pg - st) (st + pg - st)) = _
  rw [Nat.add_sub_cancel_left]

end Go.Proofs.YtflkbefiopnigabDoor
