/- The pool of frames (layer 7): Give, Load, Store, Take. -/
import Derived.Test.YtflkbefiopnigabDoorFm
namespace Go.Proofs.YtflkbefiopnigabDoor
open Go.ChangeShapes Go.WideShapes Go.ChangeAt Go.RowKit

theorem infIntF : (Tryd.prog.info? 3).map (fun i => (i.zero, i.size, i.bytes)) = some (some (.int .i64 0), 1, 8) := by kernel_rfl

def PS.give (s : PS) (k : Nat) : PS := { s with al := fun j => if j = k then false else s.al j, rel := s.rel ++ [k] }

theorem one_nwF (wr : World) (x : Int) : ∀ j u, [Value.int .i64 x][j]? = some u → (wr.alloc (.cells #[.int .i64 x] 3)).cell? ((⟨wr.heap.size, 0, none⟩ : Addr).add j) = some u := by
  intro j u hj
  match j, hj with
  | 0, hj => simp at hj; subst hj; simp [Addr.add]

theorem own_len {w : World} {B n z : Nat} {e : TypeId} {v : Value} {xs : List Value} (h : w.ownsRow B e z v n xs) : xs.length = n * z := h.1

set_option maxHeartbeats 1000000 in
theorem fm_give_ok {p : Nat} {s : PS} (hs : s.ok) (k : Nat) (hk : k < s.room) (ha : s.al k = true) : Tri1 Tryd.prog 62 #[.pointer (some ⟨p, 0, none⟩), .int .i64 k] (poolA p s) (.int .i64 0) (poolA p (s.give k)) := by
  intro w S h
  have CK := Lib.hid (fm_check_ok hs k hk ha w S h)
  obtain ⟨bw, ba, a, cap, hx, hb, hw, hr, ho⟩ := pool_open h
  obtain ⟨c0, c1, c2, c3, c4, c5, c6, f⟩ := cells7 hb
  have a0 := hr.cell hk
  have af := hr.frozen k
  have hX : At (row ba 4 s.room (fun i => .bool (s.al i)) * (own 3 1 (.slice a s.rel.length cap) s.rel.length (relL s) * (blk p (.cells (poolC s bw ba (.slice a s.rel.length cap)) 126 (0, 0)) * row bw 23 (s.room * s.page) (fun i => .int .u64 (s.ws i))))) w S w :=
    (At.refl hx).re (by unfold poolX; ac_rfl)
  have h2 := hs.r2
  have hrl := hs.rl
  have hfr := hs.fr
  have ne1 : ba ≠ p := hX.ne (has_row _ _ _ _) (has_r (has_l (has_blk _ _)))
  have H1 := (hX.set_row k (.bool false)).re (B := own 3 1 (.slice a s.rel.length cap) s.rel.length (relL s) * (row ba 4 s.room (fun j => if j = k then .bool false else .bool (s.al j)) * (blk p (.cells (poolC s bw ba (.slice a s.rel.length cap)) 126 (0, 0)) * row bw 23 (s.room * s.page) (fun i => .int .u64 (s.ws i))))) (by ac_rfl)
  obtain ⟨i0, hi, hz0, hz1, hz2⟩ := info_parts infIntF
  have HI := Lib.hid hi
  have HZ0 := Lib.hid hz0
  have HZ1 := Lib.hid hz1
  have HZ2 := Lib.hid hz2
  have HS := Lib.hid hs
  have HH := Lib.hid H1
  clear hi hz0 hz1 hz2 h hx hb hw hr ho hX hs H1 ha
  go_enter Tryd.func62, Tryd.ntmps62
  go_wp2_with (first | (go_at_call 95; refine (CK.out).mono ?_; rintro e1 w1 ⟨rfl, rfl⟩) | (at_builtin; refine wpList_append_sep _ rfl _ _ 91 rfl 0 3 i0 (.int .i64 0) 1 8 Tryd.underlying91 HI.out HZ0.out HZ1.out HZ2.out rfl (by decide) _ _ _ rfl (World.ownsRow.alloc (At.ownIs HH.out) _) ⟨w.heap.size, 0, none⟩ 1 1 [.int .i64 k] rfl rfl ?c1 ?c2 ?c3 ?c4 ?c5 ?c6 ?_))
  case c1 => simpa [World.setCell] using one_nwF (w.setCell ⟨ba, k, none⟩ (.bool false)) k
  case c2 => simp [Value.oneCell']
  case c3 => unfold maxLen; omega
  case c4 => omega
  case c5 => exact Nat.zero_le _
  case c6 => omega
  intro g' cap' w1 hown' hgrow hwhere
  have H2 := (HH.out.alloc (.cells #[.int .i64 k] 3)).re (B := own 3 1 (.slice a s.rel.length cap) s.rel.length (relL s) * (blk (w.setCell ⟨ba, k, none⟩ (.bool false)).heap.size (.cells #[.int .i64 k] 3) * (row ba 4 s.room (fun j => if j = k then .bool false else .bool (s.al j)) * (blk p (.cells (poolC s bw ba (.slice a s.rel.length cap)) 126 (0, 0)) * row bw 23 (s.room * s.page) (fun i => .int .u64 (s.ws i)))))) (by ac_rfl)
  have H3 := H2.grow hown' hgrow (fun q hq => by
    cases hq
    rcases hwhere with h | h
    · exact .inl h
    · exact .inr (by simpa [World.setCell] using h))
  have H4 := (H3.re (B := blk p (.cells (poolC s bw ba (.slice a s.rel.length cap)) 126 (0, 0)) * (row bw 23 (s.room * s.page) (fun i => .int .u64 (s.ws i)) * (row ba 4 s.room (fun j => if j = k then .bool false else .bool (s.al j)) * own 3 1 (.slice (some ⟨g', 0, none⟩) (s.rel.length + 1) cap') (s.rel.length + 1) (relL s ++ [.int .i64 k]))) * blk (w.setCell ⟨ba, k, none⟩ (.bool false)).heap.size (.cells #[.int .i64 k] 3)) (by ac_rfl)).dropr
  obtain ⟨d0, d1, d2, d3, d4, d5, d6, df⟩ := cells7 H4.blkIs
  have H5 := H4.set_blk 3 (.slice (some ⟨g', 0, none⟩) (s.rel.length + 1) cap')
  have FIN : Hid (At (poolA p (s.give k)) w S (w1.setCell ⟨p, 3, none⟩ (.slice (some ⟨g', 0, none⟩) (s.rel.length + 1) cap'))) := by
    refine poolA_of (bw := bw) (ba := ba) (v := .slice (some ⟨g', 0, none⟩) (s.rel.length + 1) cap') ?_
    have e1 : relL (s.give k) = relL s ++ [.int .i64 k] := by simp [relL, PS.give]
    have e2 : (s.give k).rel.length = s.rel.length + 1 := by simp [PS.give]
    have e3 : poolC (s.give k) bw ba (.slice (some ⟨g', 0, none⟩) (s.rel.length + 1) cap') = (poolC s bw ba (.slice a s.rel.length cap)).setIfInBounds 3 (.slice (some ⟨g', 0, none⟩) (s.rel.length + 1) cap') := rfl
    have e4 : (fun i => Value.bool ((s.give k).al i)) = (fun j => if j = k then .bool false else .bool (s.al j)) := by
      funext j
      show Value.bool (if j = k then false else s.al j) = _
      by_cases e : j = k <;> simp [e]
    unfold poolX
    rw [e1, e2, e3, e4]
    exact H5
  clear hown' hgrow hwhere H2 H3 H4 H5 HH CK
  go_wp2
  go_ret
  exact ⟨rfl, FIN.out⟩

theorem fm_give_bad {p : Nat} {s : PS} (hs : s.ok) (i : Int) (hi : i < 0 ∨ (s.room : Int) ≤ i ∨ s.al i.toNat = false) : Ask Tryd.prog 62 #[.pointer (some ⟨p, 0, none⟩), .int .i64 i] (poolA p s) (.int .i64 6) := by
  intro w S h
  have CK := Lib.hid (fm_check_bad hs i hi w S h)
  clear hi hs h
  go_enter Tryd.func62, Tryd.ntmps62
  go_wp2_with (go_at_call 95; refine (CK.out).mono ?_; rintro e1 w1 ⟨rfl, rfl⟩)
  go_ret
  exact ⟨rfl, rfl⟩

theorem fm_ckw_ok {p : Nat} {s : PS} (hs : s.ok) (k j : Nat) (hk : k < s.room) (ha : s.al k = true) (hj : j < s.page) : Ask Tryd.prog 90 #[.pointer (some ⟨p, 0, none⟩), .int .i64 k, .int .i64 j] (poolA p s) (.int .i64 0) := by
  intro w S h
  have CK := Lib.hid (fm_check_ok hs k hk ha w S h)
  obtain ⟨bw, ba, a, cap, hx, hb, hw, hr, ho⟩ := pool_open h
  obtain ⟨c0, c1, c2, c3, c4, c5, c6, f⟩ := cells7 hb
  have hp := hs.p2
  clear hs h hx hb hw hr ho ha
  go_enter Tryd.func90, Tryd.ntmps90
  go_wp2_with (go_at_call 95; refine (CK.out).mono ?_; rintro e1 w1 ⟨rfl, rfl⟩)
  go_ret
  exact ⟨rfl, rfl⟩

theorem fm_ckw_none {p : Nat} {s : PS} (hs : s.ok) (i j : Int) (hi : i < 0 ∨ (s.room : Int) ≤ i ∨ s.al i.toNat = false) : Ask Tryd.prog 90 #[.pointer (some ⟨p, 0, none⟩), .int .i64 i, .int .i64 j] (poolA p s) (.int .i64 6) := by
  intro w S h
  have CK := Lib.hid (fm_check_bad hs i hi w S h)
  clear hi hs h
  go_enter Tryd.func90, Tryd.ntmps90
  go_wp2_with (go_at_call 95; refine (CK.out).mono ?_; rintro e1 w1 ⟨rfl, rfl⟩)
  go_ret
  exact ⟨rfl, rfl⟩

theorem fm_ckw_range {p : Nat} {s : PS} (hs : s.ok) (k : Nat) (j : Int) (hk : k < s.room) (ha : s.al k = true) (hj : j < 0 ∨ (s.page : Int) ≤ j) : Ask Tryd.prog 90 #[.pointer (some ⟨p, 0, none⟩), .int .i64 k, .int .i64 j] (poolA p s) (.int .i64 11) := by
  intro w S h
  have CK := Lib.hid (fm_check_ok hs k hk ha w S h)
  obtain ⟨bw, ba, a, cap, hx, hb, hw, hr, ho⟩ := pool_open h
  obtain ⟨c0, c1, c2, c3, c4, c5, c6, f⟩ := cells7 hb
  have hp := hs.p2
  clear hs h hx hb hw hr ho ha
  by_cases h0 : j < 0
  · clear hj
    go_enter Tryd.func90, Tryd.ntmps90
    go_wp2_with (go_at_call 95; refine (CK.out).mono ?_; rintro e1 w1 ⟨rfl, rfl⟩)
    go_ret
    exact ⟨rfl, rfl⟩
  · have h1 : (s.page : Int) ≤ j := by omega
    clear hj
    go_enter Tryd.func90, Tryd.ntmps90
    go_wp2_with (go_at_call 95; refine (CK.out).mono ?_; rintro e1 w1 ⟨rfl, rfl⟩)
    go_ret
    exact ⟨rfl, rfl⟩

end Go.Proofs.YtflkbefiopnigabDoor
