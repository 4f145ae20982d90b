/- The pool of frames (layer 7): Load, Store. -/
import Derived.Test.YtflkbefiopnigabDoorFmT
namespace Go.Proofs.YtflkbefiopnigabDoor
open Go.ChangeShapes Go.WideShapes Go.ChangeAt Go.RowKit

theorem fm_at (k j page room : Nat) (hk : k < room) (hj : j < page) : k * page + j < room * page := by
  have : k * page + page ≤ room * page := by rw [← Nat.succ_mul]; exact Nat.mul_le_mul_right _ hk
  omega

theorem fm_load_ok {p : Nat} {s : PS} (hs : s.ok) (k j : Nat) (hk : k < s.room) (ha : s.al k = true) (hj : j < s.page) : Look Tryd.prog 66 #[.pointer (some ⟨p, 0, none⟩), .int .i64 k, .int .i64 j] (poolA p s) (.tuple #[.int .u64 (s.ws (k * s.page + j)), .int .i64 0]) := by
  intro w S h
  have CK := Lib.hid (fm_ckw_ok hs k j hk ha hj w S h)
  obtain ⟨bw, ba, a, cap, hx, hb, hw, hr, ho⟩ := pool_open h
  have FR := Lib.hid (fm_frame hs.r2 hs.p1 hs.p2 k hk w bw ba _ hb)
  have cj := hw.cell (fm_at k j s.page s.room hk hj)
  have hp2 := hs.p2
  generalize s.ws (k * s.page + j) = u at *
  generalize k * s.page = st at *
  generalize s.page = pg at *
  clear hs h hx hb hw hr ho ha
  go_enter Tryd.func66, Tryd.ntmps66
  go_wp2_with (first | (go_at_call 90; refine (CK.out).mono ?_; rintro e1 w1 ⟨rfl, rfl⟩) | (go_at_call 91; refine (FR.out).mono ?_; rintro e1 w1 ⟨rfl, n, rfl⟩))
  go_ret2
  exact ⟨rfl, _, rfl⟩

theorem fm_load_none {p : Nat} {s : PS} (hs : s.ok) (i j : Int) (hi : i < 0 ∨ (s.room : Int) ≤ i ∨ s.al i.toNat = false) : Ask Tryd.prog 66 #[.pointer (some ⟨p, 0, none⟩), .int .i64 i, .int .i64 j] (poolA p s) (.tuple #[.int .u64 0, .int .i64 6]) := by
  intro w S h
  have CK := Lib.hid (fm_ckw_none hs i j hi w S h)
  clear hi hs h
  go_enter Tryd.func66, Tryd.ntmps66
  go_wp2_with (go_at_call 90; refine (CK.out).mono ?_; rintro e1 w1 ⟨rfl, rfl⟩)
  go_ret2
  exact ⟨rfl, rfl⟩

theorem fm_load_range {p : Nat} {s : PS} (hs : s.ok) (k : Nat) (j : Int) (hk : k < s.room) (ha : s.al k = true) (hj : j < 0 ∨ (s.page : Int) ≤ j) : Ask Tryd.prog 66 #[.pointer (some ⟨p, 0, none⟩), .int .i64 k, .int .i64 j] (poolA p s) (.tuple #[.int .u64 0, .int .i64 11]) := by
  intro w S h
  have CK := Lib.hid (fm_ckw_range hs k j hk ha hj w S h)
  clear hj hs h ha
  go_enter Tryd.func66, Tryd.ntmps66
  go_wp2_with (go_at_call 90; refine (CK.out).mono ?_; rintro e1 w1 ⟨rfl, rfl⟩)
  go_ret2
  exact ⟨rfl, rfl⟩

def PS.store (s : PS) (k j : Nat) (u : Int) : PS := { s with ws := fun i => if i = k * s.page + j then u else s.ws i }

theorem fm_store_ok {p : Nat} {s : PS} (hs : s.ok) (k j : Nat) (hk : k < s.room) (ha : s.al k = true) (hj : j < s.page) (u : Int) : Tri1 Tryd.prog 57 #[.pointer (some ⟨p, 0, none⟩), .int .i64 k, .int .i64 j, .int .u64 u] (poolA p s) (.int .i64 0) (poolA p (s.store k j u)) := by
  intro w S h
  have CK := Lib.hid (fm_ckw_ok hs k j hk ha hj w S h)
  obtain ⟨bw, ba, a, cap, hx, hb, hw, hr, ho⟩ := pool_open h
  have FR := Lib.hid (fm_frame hs.r2 hs.p1 hs.p2 k hk w bw ba _ hb)
  have cj := hw.cell (fm_at k j s.page s.room hk hj)
  have cf := hw.frozen (k * s.page + j)
  have hp2 := hs.p2
  have FIN : Hid (∀ n, At (poolA p (s.store k j u)) w S ((w.setCell ⟨bw, k * s.page + j, none⟩ (.int .u64 u)).drewN n)) := by
    intro n
    have H1 := (At.refl hx).re (B := row bw 23 (s.room * s.page) (fun i => .int .u64 (s.ws i)) * (blk p (.cells (poolC s bw ba (.slice a s.rel.length cap)) 126 (0, 0)) * (row ba 4 s.room (fun i => .bool (s.al i)) * own 3 1 (.slice a s.rel.length cap) s.rel.length (relL s)))) (by unfold poolX; ac_rfl)
    have H2 := (H1.set_row (k * s.page + j) (.int .u64 u)).drewN n
    refine poolA_of (bw := bw) (ba := ba) (v := .slice a s.rel.length cap) ?_
    refine H2.re ?_
    have e : (fun i => Value.int .u64 ((s.store k j u).ws i)) = (fun i => if i = k * s.page + j then Value.int .u64 u else .int .u64 (s.ws i)) := by
      funext i
      show Value.int .u64 (if i = k * s.page + j then u else s.ws i) = _
      split <;> rfl
    unfold poolX
    rw [e]
    show row bw 23 (s.room * s.page) (fun i => if i = k * s.page + j then Value.int .u64 u else .int .u64 (s.ws i)) * (blk p (.cells (poolC s bw ba (.slice a s.rel.length cap)) 126 (0, 0)) * (row ba 4 s.room (fun i => .bool (s.al i)) * own 3 1 (.slice a s.rel.length cap) s.rel.length (relL s))) = blk p (.cells (poolC s bw ba (.slice a s.rel.length cap)) 126 (0, 0)) * (row bw 23 (s.room * s.page) (fun i => if i = k * s.page + j then Value.int .u64 u else .int .u64 (s.ws i)) * (row ba 4 s.room (fun i => .bool (s.al i)) * own 3 1 (.slice a s.rel.length cap) s.rel.length (relL s)))
    ac_rfl
  clear h hx hb hw hr ho
  generalize s.ws (k * s.page + j) = u0 at *
  generalize poolA p (s.store k j u) = AA at *
  generalize k * s.page = st at *
  generalize s.page = pg at *
  clear hs ha
  go_enter Tryd.func57, Tryd.ntmps57
  go_wp2_with (first | (go_at_call 90; refine (CK.out).mono ?_; rintro e1 w1 ⟨rfl, rfl⟩) | (go_at_call 91; refine (FR.out).mono ?_; rintro e1 w1 ⟨rfl, n, rfl⟩))
  go_ret
  exact ⟨rfl, FIN.out _⟩

theorem fm_store_none {p : Nat} {s : PS} (hs : s.ok) (i j u : Int) (hi : i < 0 ∨ (s.room : Int) ≤ i ∨ s.al i.toNat = false) : Ask Tryd.prog 57 #[.pointer (some ⟨p, 0, none⟩), .int .i64 i, .int .i64 j, .int .u64 u] (poolA p s) (.int .i64 6) := by
  intro w S h
  have CK := Lib.hid (fm_ckw_none hs i j hi w S h)
  clear hi hs h
  go_enter Tryd.func57, Tryd.ntmps57
  go_wp2_with (go_at_call 90; refine (CK.out).mono ?_; rintro e1 w1 ⟨rfl, rfl⟩)
  go_ret
  exact ⟨rfl, rfl⟩

theorem fm_store_range {p : Nat} {s : PS} (hs : s.ok) (k : Nat) (j u : Int) (hk : k < s.room) (ha : s.al k = true) (hj : j < 0 ∨ (s.page : Int) ≤ j) : Ask Tryd.prog 57 #[.pointer (some ⟨p, 0, none⟩), .int .i64 k, .int .i64 j, .int .u64 u] (poolA p s) (.int .i64 11) := by
  intro w S h
  have CK := Lib.hid (fm_ckw_range hs k j hk ha hj w S h)
  clear hj hs h ha
  go_enter Tryd.func57, Tryd.ntmps57
  go_wp2_with (go_at_call 90; refine (CK.out).mono ?_; rintro e1 w1 ⟨rfl, rfl⟩)
  go_ret
  exact ⟨rfl, rfl⟩

end Go.Proofs.YtflkbefiopnigabDoor
