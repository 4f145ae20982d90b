/- The document's page map (layer 8): Put; what is refused by both. -/
import Derived.Test.YtpdnbkibnpkfbacPgZp
namespace Go.Proofs.Ytpdnbkibnpkfbac.PT
open Go.ChangeShapes Go.WideShapes Go.ChangeAt Go.RowKit

theorem pm_put_range {c : Nat} {s : QS} (hs : s.ok) (p f : Int) (hp : ¬ (0 ≤ p ∧ p < s.pages)) : Ask Try.prog 22 #[.pointer (some ⟨c, 0, none⟩), .int .i64 p, .int .i64 f] (pmA c s) (.int .i64 11) := by
  intro w S h
  have CK := Lib.hid (pm_check_bad hs p (by omega) w S h)
  clear h hs hp
  go_enter Try.func22, Try.ntmps22
  go_wp2_with (go_at_call 38; refine CK.out.mono ?_; rintro e1 w1 ⟨rfl, rfl⟩)
  go_ret
  exact ⟨rfl, rfl⟩

theorem pm_put_arg {c : Nat} {s : QS} (hs : s.ok) (p : Nat) (f : Int) (hp : p < s.pages) (hf : f < 0 ∨ 2147483647 < f) : Ask Try.prog 22 #[.pointer (some ⟨c, 0, none⟩), .int .i64 p, .int .i64 f] (pmA c s) (.int .i64 5) := by
  intro w S h
  have CK := Lib.hid (pm_check_ok hs p hp w S h)
  clear h hs hp
  by_cases h0 : f < 0
  · clear hf
    go_enter Try.func22, Try.ntmps22
    go_wp2_with (go_at_call 38; refine CK.out.mono ?_; rintro e1 w1 ⟨rfl, rfl⟩)
    go_ret
    exact ⟨rfl, rfl⟩
  · have h1 : 2147483647 < f := by omega
    clear hf
    go_enter Try.func22, Try.ntmps22
    go_wp2_with (go_at_call 38; refine CK.out.mono ?_; rintro e1 w1 ⟨rfl, rfl⟩)
    go_ret
    exact ⟨rfl, rfl⟩

theorem pm_drop_bad {c : Nat} {s : QS} (hs : s.ok) (p : Int) (hp : ¬ (0 ≤ p ∧ p < s.pages)) : Ask Try.prog 24 #[.pointer (some ⟨c, 0, none⟩), .int .i64 p] (pmA c s) (.tuple #[.int .i64 0, .int .i64 11]) := by
  intro w S h
  have FR := Lib.hid (pm_frame_bad hs p (by omega) w S h)
  clear h hs hp
  go_enter Try.func24, Try.ntmps24
  go_wp2_with (go_at_call 28; refine FR.out.mono ?_; rintro e1 w1 ⟨rfl, rfl⟩)
  go_ret2
  exact ⟨rfl, rfl⟩

theorem pm_move_range {c : Nat} {s : QS} (hs : s.ok) (p q : Int) (hp : ¬ ((0 ≤ p ∧ p < s.pages) ∧ (0 ≤ q ∧ q < s.pages))) : Ask Try.prog 26 #[.pointer (some ⟨c, 0, none⟩), .int .i64 p, .int .i64 q] (pmA c s) (.int .i64 11) := by
  intro w S h
  by_cases h1 : 0 ≤ p ∧ p < s.pages
  · obtain ⟨k, rfl⟩ := Int.eq_ofNat_of_zero_le h1.1
    have CK := Lib.hid (pm_check_ok hs k (by omega) w S h)
    have CQ := Lib.hid (pm_check_bad hs q (by omega) w S h)
    clear h hs hp h1
    go_enter Try.func26, Try.ntmps26
    go_wp2_with fail
    refine CK.out.mono ?_
    rintro e1 w1 ⟨rfl, rfl⟩
    go_wp2_with fail
    refine CQ.out.mono ?_
    rintro e1 w1 ⟨rfl, rfl⟩
    go_wp2
    go_ret
    exact ⟨rfl, rfl⟩
  · have CK := Lib.hid (pm_check_bad hs p (by omega) w S h)
    clear h hs hp h1
    go_enter Try.func26, Try.ntmps26
    go_wp2_with fail
    refine CK.out.mono ?_
    rintro e1 w1 ⟨rfl, rfl⟩
    go_wp2
    go_ret
    exact ⟨rfl, rfl⟩

theorem ls_put_range {c n : Nat} {L : List (Nat × Nat)} (hn : n ≤ 524288) (p f : Int) (hp : ¬ (0 ≤ p ∧ p < n)) : Ask Try.prog 23 #[.pointer (some ⟨c, 0, none⟩), .int .i64 p, .int .i64 f] (lsA c n L) (.int .i64 11) := by
  intro w S h
  have I := ls_in hn p w S h
  rw [decide_eq_false hp] at I
  have I := Lib.hid I
  clear h hp
  go_enter Try.func23, Try.ntmps23
  go_wp2_with (go_at_call 41; refine I.out.mono ?_; rintro e1 w1 ⟨rfl, rfl⟩)
  go_ret
  exact ⟨rfl, rfl⟩

theorem ls_put_arg {c n : Nat} {L : List (Nat × Nat)} (hn : n ≤ 524288) (p f : Int) (hp : 0 ≤ p ∧ p < n) (hf : f < 0 ∨ 2147483647 < f) : Ask Try.prog 23 #[.pointer (some ⟨c, 0, none⟩), .int .i64 p, .int .i64 f] (lsA c n L) (.int .i64 5) := by
  intro w S h
  have I := ls_in hn p w S h
  rw [decide_eq_true hp] at I
  have I := Lib.hid I
  clear h hp
  by_cases h0 : f < 0
  · clear hf
    go_enter Try.func23, Try.ntmps23
    go_wp2_with (go_at_call 41; refine I.out.mono ?_; rintro e1 w1 ⟨rfl, rfl⟩)
    go_ret
    exact ⟨rfl, rfl⟩
  · have h1 : 2147483648 ≤ f := by omega
    clear hf
    go_enter Try.func23, Try.ntmps23
    go_wp2_with (go_at_call 41; refine I.out.mono ?_; rintro e1 w1 ⟨rfl, rfl⟩)
    go_ret
    exact ⟨rfl, rfl⟩

theorem ls_put_mapped {c n : Nat} {L : List (Nat × Nat)} (hn : n ≤ 524288) (hL : L.length ≤ 1000000) (p f : Int) (hp : 0 ≤ p ∧ p < n) (hf0 : 0 ≤ f) (hf1 : f ≤ 2147483647) (k : Nat) (hk : ix L p = k) : Ask Try.prog 23 #[.pointer (some ⟨c, 0, none⟩), .int .i64 p, .int .i64 f] (lsA c n L) (.int .i64 13) := by
  intro w S h
  have I := ls_in hn p w S h
  rw [decide_eq_true hp] at I
  have I := Lib.hid I
  have A := ls_at hL p w S h
  rw [hk] at A
  have A := Lib.hid A
  clear h hp hk
  go_enter Try.func23, Try.ntmps23
  go_wp2_with (first | (go_at_call 41; refine I.out.mono ?_; rintro e1 w1 ⟨rfl, rfl⟩) | (go_at_call 42; refine A.out.mono ?_; rintro e1 w1 ⟨rfl, rfl⟩))
  go_ret
  exact ⟨rfl, rfl⟩

theorem two_nw (wr : World) (x y : Value) : ∀ j u, [x, y][j]? = some u → (wr.alloc (.cells #[x, y] 75)).cell? ((⟨wr.heap.size, 0, none⟩ : Addr).add j) = some u := by
  intro j u hj
  match j, hj with
  | 0, hj => simp at hj; subst hj; simp [Addr.add]
  | 1, hj => simp at hj; subst hj; simp [Addr.add]

theorem ls_push {w0 w w1 : World} {S : Nat → Prop} {c n : Nat} {L : List (Nat × Nat)} {v : Value} {g' cap' : Nat} (p f : Nat) (h : At (lsX c n L v) w0 S w)
    (hown : w1.ownsRow 0 75 2 (.slice (some ⟨g', 0, none⟩) (L.length + 1) cap') (L.length + 1) (flat L ++ [.int .i64 (p : Nat), .int .i64 (f : Nat)]))
    (hgrow : (w.alloc (.cells #[.int .i64 (p : Nat), .int .i64 (f : Nat)] 75)).grownBy w1 v.ownBlock)
    (hwhere : v.ownBlock = some g' ∨ w.heap.size + 1 ≤ g') :
    (w1.cell? ⟨c, 0, none⟩ = some (.int .i64 n) ∧ w1.cell? ⟨c, 1, none⟩ = some v ∧ (∀ i, w1.frozen? ⟨c, i, none⟩ = false)) ∧ At (lsA c n (L ++ [(p, f)])) w0 S (w1.setCell ⟨c, 1, none⟩ (.slice (some ⟨g', 0, none⟩) (L.length + 1) cap')) := by
  have H2 := (h.alloc (.cells #[.int .i64 (p : Nat), .int .i64 (f : Nat)] 75)).re (B := own 75 2 v L.length (flat L) * (blk w.heap.size (.cells #[.int .i64 (p : Nat), .int .i64 (f : Nat)] 75) * blk c (.cells #[.int .i64 n, v] 47 (0, 0)))) (by unfold lsX; ac_rfl)
  have H3 := H2.grow hown hgrow (fun q hq => by
    cases hq
    rcases hwhere with h | h
    · exact .inl h
    · exact .inr (by simpa using h))
  have H4 := (H3.re (B := blk c (.cells #[.int .i64 n, v] 47 (0, 0)) * own 75 2 (.slice (some ⟨g', 0, none⟩) (L.length + 1) cap') (L.length + 1) (flat L ++ [.int .i64 (p : Nat), .int .i64 (f : Nat)]) * blk w.heap.size (.cells #[.int .i64 (p : Nat), .int .i64 (f : Nat)] 75)) (by ac_rfl)).dropr
  have hb := H4.blkIs
  refine ⟨⟨by simp [World.cell?, hb], by simp [World.cell?, hb], fun i => by simp [World.frozen?, hb]⟩, ?_⟩
  have H5 := H4.set_blk 1 (.slice (some ⟨g', 0, none⟩) (L.length + 1) cap')
  refine At.ofex (A := fun v => lsX c n (L ++ [(p, f)]) v) (.slice (some ⟨g', 0, none⟩) (L.length + 1) cap') ?_
  unfold lsX
  rw [List.length_append, List.length_singleton, flat_app]
  exact H5

set_option maxRecDepth 100000 in
set_option maxHeartbeats 1000000 in
theorem ls_put_ok {c n : Nat} {L : List (Nat × Nat)} (hn : n ≤ 524288) (hL : L.length ≤ 1000000) (p f : Nat) (hp : p < n) (hf : f ≤ 2147483647) (hk : ix L p = -1) : Tri1 Try.prog 23 #[.pointer (some ⟨c, 0, none⟩), .int .i64 p, .int .i64 f] (lsA c n L) (.int .i64 0) (lsA c n (L ++ [(p, f)])) := by
  intro w S h
  have I := ls_in hn p w S h
  rw [decide_eq_true (by omega)] at I
  have I := Lib.hid I
  have A := ls_at hL p w S h
  rw [hk] at A
  have A := Lib.hid A
  obtain ⟨a, cap, hX, c0, c1, cf, _⟩ := ls_open h
  have HX := Lib.hid hX
  have HO := Lib.hid (At.ownIs (hX.re (B := own 75 2 (.slice a L.length cap) L.length (flat L) * blk c (.cells #[.int .i64 n, .slice a L.length cap] 47 (0, 0))) (by unfold lsX; ac_rfl)))
  obtain ⟨i0, hi, hz0, hz1, hz2⟩ := info_parts infEn
  have HI := Lib.hid hi
  have HZ0 := Lib.hid hz0
  have HZ1 := Lib.hid hz1
  have HZ2 := Lib.hid hz2
  clear hi hz0 hz1 hz2 h hX hk
  go_enter Try.func23, Try.ntmps23
  go_wp2_with (first | (go_at_call 41; refine I.out.mono ?_; rintro e1 w1 ⟨rfl, rfl⟩) | (go_at_call 42; refine A.out.mono ?_; rintro e1 w1 ⟨rfl, rfl⟩) | (at_builtin; refine wpList_append_sep _ rfl _ _ 45 rfl 0 75 i0 (.agg #[.int .i64 0, .int .i64 0]) 2 16 Try.underlying45 HI.out HZ0.out HZ1.out HZ2.out rfl (by decide) _ _ _ rfl (World.ownsRow.alloc HO.out _) ⟨w.heap.size, 0, none⟩ 1 1 [.int .i64 (p : Nat), .int .i64 (f : Nat)] rfl rfl ?c1 ?c2 ?c3 ?c4 ?c5 ?c6 ?_))
  case c1 => exact two_nw w _ _
  case c2 => simp [Value.oneCell']
  case c3 => unfold maxLen; omega
  case c4 => omega
  case c5 => exact Nat.zero_le _
  case c6 => omega
  intro g' cap' w1 hown' hgrow hwhere
  obtain ⟨⟨d0, d1, df⟩, A1⟩ := ls_push p f HX.out hown' hgrow (by simpa using hwhere)
  have FIN := Lib.hid A1
  clear hown' hgrow hwhere A1 HX HO c0 c1 cf
  go_wp2
  go_ret
  exact ⟨rfl, FIN.out⟩

end Go.Proofs.Ytpdnbkibnpkfbac.PT
