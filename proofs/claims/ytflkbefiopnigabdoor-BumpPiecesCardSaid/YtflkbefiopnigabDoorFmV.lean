/- The pool of frames (layer 7): Take. -/
import Derived.Test.YtflkbefiopnigabDoorFmU
namespace Go.Proofs.YtflkbefiopnigabDoor
open Go.ChangeShapes Go.WideShapes Go.ChangeAt Go.RowKit

/-- frame k is taken, of a pool whose fresh and rel are then told -/
def PS.took (s : PS) (k fresh : Nat) (rel : List Nat) (hi : Nat) : PS :=
  { s with al := fun j => if j = k then true else s.al j, rel := rel, fresh := fresh, high := hi, taken := wrap64 (s.taken + 1),
           ws := fun i => if k * s.page ≤ i ∧ i < k * s.page + s.page then 0 else s.ws i }

theorem fm_take_full {p : Nat} {s : PS} (hs : s.ok) (hrel : s.rel = []) (hf : s.fresh = s.room) : Ask Tryd.prog 59 #[.pointer (some ⟨p, 0, none⟩)] (poolA p s) (.tuple #[.int .i64 0, .int .i64 14]) := by
  intro w S h
  have RM := Lib.hid (fm_room (s := s) w S h)
  obtain ⟨bw, ba, a, cap, hx, hb, hw, hr, ho⟩ := pool_open h
  rw [hrel, hf] at hb
  simp only [List.length_nil] at hb
  obtain ⟨c0, c1, c2, c3, c4, c5, c6, f⟩ := cells7 hb
  have h2 := hs.r2
  generalize s.room = room at *
  clear hs h hx hb hw hr ho hrel hf
  go_enter Tryd.func59, Tryd.ntmps59
  go_wp2_with (go_at_call 69; refine (RM.out).mono ?_; rintro e1 w1 ⟨rfl, rfl⟩)
  go_ret2
  exact ⟨rfl, rfl⟩

theorem took_at (s : PS) (k : Nat) : (fun i => Value.bool (if i = k then true else s.al i)) = (fun j => if j = k then .bool true else .bool (s.al j)) := by
  funext j
  by_cases e : j = k <;> simp [e]

theorem took_ws (s : PS) (k : Nat) : (fun i => Value.int .u64 (if k * s.page ≤ i ∧ i < k * s.page + s.page then 0 else s.ws i)) = (fun i => if k * s.page ≤ i ∧ i < k * s.page + s.page then Value.int .u64 0 else .int .u64 (s.ws i)) := by
  funext j
  split <;> rfl

/-- what a Take leaves, the frame chosen: blocks apart -/
theorem took_fin {w0 w : World} {S0 : Nat → Prop} {p bw ba k fr hi : Nat} {s : PS} {rel : List Nat} {v v4 v5 v6 : Value} {xs : List Value} {n : Nat} (hn : n = rel.length) (hxs : xs = rel.map (fun n : Nat => Value.int .i64 n)) (e4 : v4 = .int .i64 fr) (e5 : v5 = .int .i64 hi) (e6 : v6 = .int .i64 (wrap64 (s.taken + 1)))
    (h : At (blk p (.cells #[.slice (some ⟨bw, 0, none⟩) (s.room * s.page) (s.room * s.page), .int .i64 s.page, .slice (some ⟨ba, 0, none⟩) s.room s.room, v, v4, v5, v6] 126 (0, 0)) *
      (row bw 23 (s.room * s.page) (fun i => if k * s.page ≤ i ∧ i < k * s.page + s.page then Value.int .u64 0 else .int .u64 (s.ws i)) * (row ba 4 s.room (fun j => if j = k then .bool true else .bool (s.al j)) * own 3 1 v n xs))) w0 S0 w) : At (poolA p (s.took k fr rel hi)) w0 S0 w := by
  subst hn hxs e4 e5 e6
  refine poolA_of (bw := bw) (ba := ba) (v := v) ?_
  unfold poolX
  show At (blk p _ * (row bw _ _ (fun i => Value.int .u64 (if k * s.page ≤ i ∧ i < k * s.page + s.page then 0 else s.ws i)) * (row ba _ _ (fun i => Value.bool (if i = k then true else s.al i)) * _))) w0 S0 w
  rw [took_at, took_ws]
  exact h

theorem took_facts {w0 w : World} {S0 : Nat → Prop} {p bw ba k N m : Nat} {f g : Nat → Value} {x0 x1 x2 x3 x4 x5 x6 : Value} {O : Asn} (hk : k < m) (H : At (row bw 23 N f * (blk p (.cells #[x0, x1, x2, x3, x4, x5, x6] 126 (0, 0)) * (row ba 4 m g * O))) w0 S0 w) :
    (w.cell? ⟨p, 0, none⟩ = some x0 ∧ w.cell? ⟨p, 1, none⟩ = some x1 ∧ w.cell? ⟨p, 2, none⟩ = some x2 ∧ w.cell? ⟨p, 3, none⟩ = some x3 ∧ w.cell? ⟨p, 4, none⟩ = some x4 ∧ w.cell? ⟨p, 5, none⟩ = some x5 ∧ w.cell? ⟨p, 6, none⟩ = some x6 ∧ (∀ i, w.frozen? ⟨p, i, none⟩ = false)) ∧
    w.frozen? ⟨ba, k, none⟩ = false ∧ w.cell? ⟨ba, k, none⟩ = some (g k) ∧ ¬ p = ba ∧ ¬ ba = p := by
  have H1 := H.re (B := blk p (.cells #[x0, x1, x2, x3, x4, x5, x6] 126 (0, 0)) * (row bw 23 N f * (row ba 4 m g * O))) (by ac_rfl)
  have H2 := H.re (B := row ba 4 m g * (blk p (.cells #[x0, x1, x2, x3, x4, x5, x6] 126 (0, 0)) * (row bw 23 N f * O))) (by ac_rfl)
  have n1 := H2.ne (has_row _ _ _ _) (has_l (has_blk _ _))
  exact ⟨cells7 H1.blkIs, H2.rowIs.frozen k, H2.rowIs.cell hk, fun e => n1 e.symm, n1⟩

/-- the end of Take -/
theorem took_end {w0 w2 : World} {S0 : Nat → Prop} {p bw ba k fr : Nat} {s : PS} {rel : List Nat} {v : Value} (hs : s.ok) (hfr : fr ≤ s.room) (hrl : rel.length < fr)
    (H : At (row bw 23 (s.room * s.page) (fun i => if k * s.page ≤ i ∧ i < k * s.page + s.page then Value.int .u64 0 else .int .u64 (s.ws i)) *
      (blk p (.cells #[.slice (some ⟨bw, 0, none⟩) (s.room * s.page) (s.room * s.page), .int .i64 s.page, .slice (some ⟨ba, 0, none⟩) s.room s.room, v, .int .i64 fr, .int .i64 s.high, .int .i64 s.taken] 126 (0, 0)) *
      (row ba 4 s.room (fun j => .bool (s.al j)) * own 3 1 v rel.length (rel.map (fun n : Nat => Value.int .i64 n))))) w0 S0 w2) :
    (Calls Tryd.prog 67 #[.pointer (some ⟨p, 0, none⟩)] ((w2.setCell ⟨ba, k, none⟩ (.bool true)).setCell ⟨p, 6, none⟩ (.int .i64 (wrap64 (s.taken + 1)))).drew fun e w' => e = .returned (.int .i64 (fr - rel.length : Nat)) ∧ ∃ n, w' = ((w2.setCell ⟨ba, k, none⟩ (.bool true)).setCell ⟨p, 6, none⟩ (.int .i64 (wrap64 (s.taken + 1)))).drew.drewN n) ∧
    ∀ m hi, At (poolA p (s.took k fr rel hi)) w0 S0 ((((w2.setCell ⟨ba, k, none⟩ (.bool true)).setCell ⟨p, 6, none⟩ (.int .i64 (wrap64 (s.taken + 1)))).drewN m).setCell ⟨p, 5, none⟩ (.int .i64 (hi : Nat))) := by
  have H1 := H.re (B := row ba 4 s.room (fun j => .bool (s.al j)) * (row bw 23 (s.room * s.page) (fun i => if k * s.page ≤ i ∧ i < k * s.page + s.page then Value.int .u64 0 else .int .u64 (s.ws i)) *
      (blk p (.cells #[.slice (some ⟨bw, 0, none⟩) (s.room * s.page) (s.room * s.page), .int .i64 s.page, .slice (some ⟨ba, 0, none⟩) s.room s.room, v, .int .i64 fr, .int .i64 s.high, .int .i64 s.taken] 126 (0, 0)) *
      own 3 1 v rel.length (rel.map (fun n : Nat => Value.int .i64 n))))) (by ac_rfl)
  have H2 := (H1.set_row k (.bool true)).re (B := blk p (.cells #[.slice (some ⟨bw, 0, none⟩) (s.room * s.page) (s.room * s.page), .int .i64 s.page, .slice (some ⟨ba, 0, none⟩) s.room s.room, v, .int .i64 fr, .int .i64 s.high, .int .i64 s.taken] 126 (0, 0)) *
      (row bw 23 (s.room * s.page) (fun i => if k * s.page ≤ i ∧ i < k * s.page + s.page then Value.int .u64 0 else .int .u64 (s.ws i)) * (row ba 4 s.room (fun j => if j = k then .bool true else .bool (s.al j)) * own 3 1 v rel.length (rel.map (fun n : Nat => Value.int .i64 n))))) (by ac_rfl)
  have H3 := H2.set_blk 6 (.int .i64 (wrap64 (s.taken + 1)))
  constructor
  · have P := took_fin (s := s) (k := k) (fr := fr) (hi := s.high) (rel := rel) rfl rfl rfl rfl rfl H3
    have F := fm_used' (p := p) (s := s.took k fr rel s.high) hs.r2 hfr (Nat.le_of_lt hrl)
    exact P.drew.look1 F
  · intro m hi
    have H4 := (H3.drewN m).set_blk 5 (.int .i64 (hi : Nat))
    exact took_fin (s := s) (k := k) (fr := fr) (hi := hi) (rel := rel) rfl rfl rfl rfl rfl H4

set_option maxHeartbeats 2000000 in
theorem fm_take_fresh {p : Nat} {s : PS} (hs : s.ok) (hrel : s.rel = []) (hf : s.fresh < s.room) : Tri1 Tryd.prog 59 #[.pointer (some ⟨p, 0, none⟩)] (poolA p s) (.tuple #[.int .i64 s.fresh, .int .i64 0]) (poolA p (s.took s.fresh (s.fresh + 1) [] (max s.high (s.fresh + 1)))) := by
  intro w S h
  have RM := Lib.hid (fm_room (s := s) w S h)
  obtain ⟨bw, ba, a, cap, hx, hb, hw, hr, ho⟩ := pool_open h
  have hb' := hb
  rw [hrel] at hb'
  simp only [List.length_nil] at hb'
  obtain ⟨c0, c1, c2, c3, c4, c5, c6, f⟩ := cells7 hb'
  have h2 := hs.r2
  have h3 := hs.p1
  have h4 := hs.hi
  have H0 : At (blk p (.cells (poolC s bw ba (.slice a 0 cap)) 126 (0, 0)) * (row bw 23 (s.room * s.page) (fun i => .int .u64 (s.ws i)) * (row ba 4 s.room (fun i => .bool (s.al i)) * own 3 1 (.slice a 0 cap) 0 []))) w S w := by
    have e : relL s = [] := by simp [relL, hrel]
    have := At.refl hx
    unfold poolX at this
    rw [e, hrel] at this
    exact this
  have H1 := H0.set_blk 4 (.int .i64 ((s.fresh : Int) + 1))
  have FR := Lib.hid (fm_frame (p := p) (s := { s with fresh := s.fresh + 1 }) hs.r2 hs.p1 hs.p2 s.fresh hf (w.setCell ⟨p, 4, none⟩ (.int .i64 ((s.fresh : Int) + 1))) bw ba (.slice a 0 cap) H1.blkIs)
  have hle := fm_at s.fresh (s.page - 1) s.page s.room hf (by omega)
  have H1H := Lib.hid (H1.re (B := row bw 23 (s.room * s.page) (fun i => .int .u64 (s.ws i)) * (blk p (.cells ((poolC s bw ba (.slice a 0 cap)).setIfInBounds 4 (.int .i64 ((s.fresh : Int) + 1))) 126 (0, 0)) * (row ba 4 s.room (fun i => .bool (s.al i)) * own 3 1 (.slice a 0 cap) 0 []))) (by ac_rfl))
  have HREL := Lib.hid hrel
  have zv : ∀ w, (zeroValue 23).run Tryd.prog w = .ok (.int .u64 0) w := by intro w; kernel_rfl
  have ZV := Lib.hid zv
  have HS := Lib.hid hs
  clear h hx hb hw hr ho H0 H1 hrel hb' zv hs
  go_enter Tryd.func59, Tryd.ntmps59
  go_wp2_with (first | (go_at_call 69; refine (RM.out).mono ?_; rintro e1 w1 ⟨rfl, rfl⟩) | (go_at_call 91; refine (FR.out).mono ?_; rintro e1 w1 ⟨rfl, n, rfl⟩) | (refine wpList_clear_sl _ rfl _ _ rfl 23 (.int .u64 0) Tryd.underlying105 ZV.out rfl rfl bw (s.fresh * s.page) s.page s.page (s.room * s.page) 23 (fun i => .int .u64 (s.ws i)) rfl h3 (H1H.out.drewN n) (by omega) ?_; intro w2 H2; obtain ⟨⟨d0, d1, d2, d3, d4, d5, d6, df⟩, af, a1, u1, u2⟩ := took_facts hf H2; have H2H := Lib.hid H2; clear H2))
  obtain ⟨U', FIN'⟩ := took_end (s := s) (k := s.fresh) (fr := s.fresh + 1) (rel := []) HS.out (by omega) (by simp) H2H.out
  have U := Lib.hid U'
  have FIN := Lib.hid FIN'
  clear U' FIN'
  go_region_with (go_at_call 67; refine (U.out).mono ?_; rintro e1 w1 ⟨rfl, n2, rfl⟩)
  all_goals go_wp2
  all_goals go_ret2
  all_goals refine ⟨rfl, ?_⟩
  all_goals
    have e := FIN.out (1 + n2) (max s.high (s.fresh + 1))
    first
      | (rw [Nat.max_eq_right (by omega)] at e ⊢; exact e)
      | (rw [Nat.max_eq_left (by omega)] at e ⊢; exact e)

theorem own_some' {w : World} {B n z : Nat} {e : TypeId} {v : Value} {xs : List Value} (h : w.ownsRow B e z v n xs) (hn : 0 < n) : ∃ g cap, v = .slice (some ⟨g, 0, none⟩) n cap ∧ n ≤ cap ∧ cap ≤ 9223372036854775807 := by
  rcases h.2 with ⟨rfl, rfl⟩ | ⟨g, cap, cur, rfl, hb, _, h2, h3, _⟩
  · omega
  · exact ⟨_, _, rfl, h2, by unfold maxLen at h3; omega⟩

set_option maxHeartbeats 2000000 in
theorem fm_take_rel {p : Nat} {s : PS} (hs : s.ok) {ys : List Nat} {z : Nat} (hrel : s.rel = ys ++ [z]) (hz : z < s.room) : Tri1 Tryd.prog 59 #[.pointer (some ⟨p, 0, none⟩)] (poolA p s) (.tuple #[.int .i64 z, .int .i64 0]) (poolA p (s.took z s.fresh ys (max s.high (s.fresh - ys.length)))) := by
  intro w S h
  obtain ⟨bw, ba, a, cap, hx, hb, hw, hr, ho⟩ := pool_open h
  have e1 : s.rel.length = ys.length + 1 := by rw [hrel]; simp
  have e2 : relL s = ys.map (fun n : Nat => Value.int .i64 n) ++ [.int .i64 z] := by simp [relL, hrel]
  have hrl := hs.rl
  have hfr := hs.fr
  rw [e1] at hx hb ho hrl
  rw [e2] at ho
  obtain ⟨q, cap', hv, hcap, hcapm⟩ := own_some' ho (by omega)
  cases hv
  obtain ⟨c0, c1, c2, c3, c4, c5, c6, f⟩ := cells7 hb
  have cz : w.cell? ⟨q, ys.length, none⟩ = some (.int .i64 z) := by rw [ho.cellAt _ (by omega)]; simp
  have h2 := hs.r2
  have h3 := hs.p1
  have h4 := hs.hi
  have H0 : At (own 3 1 (.slice (some ⟨q, 0, none⟩) (ys.length + 1) cap) (ys.length + 1) (ys.map (fun n : Nat => Value.int .i64 n) ++ [.int .i64 z]) * (blk p (.cells (poolC s bw ba (.slice (some ⟨q, 0, none⟩) (ys.length + 1) cap)) 126 (0, 0)) * (row bw 23 (s.room * s.page) (fun i => .int .u64 (s.ws i)) * row ba 4 s.room (fun i => .bool (s.al i))))) w S w := by
    refine (At.refl hx).re ?_
    unfold poolX
    rw [e2, e1]
    ac_rfl
  have H1 := ((H0.impl (B := own 3 1 (.slice (some ⟨q, 0, none⟩) ys.length cap) ys.length (ys.map (fun n : Nat => Value.int .i64 n))) (fun S a => ⟨ownsRow_pop (by simp) a.1, a.2⟩)).re (B := blk p (.cells (poolC s bw ba (.slice (some ⟨q, 0, none⟩) (ys.length + 1) cap)) 126 (0, 0)) * (own 3 1 (.slice (some ⟨q, 0, none⟩) ys.length cap) ys.length (ys.map (fun n : Nat => Value.int .i64 n)) * (row bw 23 (s.room * s.page) (fun i => .int .u64 (s.ws i)) * row ba 4 s.room (fun i => .bool (s.al i))))) (by ac_rfl)).set_blk 3 (.slice (some ⟨q, 0, none⟩) ys.length cap)
  have FR := Lib.hid (fm_frame (p := p) (s := { s with rel := ys }) hs.r2 hs.p1 hs.p2 z hz ((w.setCell ⟨p, 3, none⟩ (.slice (some ⟨q, 0, none⟩) ys.length cap)).drew) bw ba (.slice (some ⟨q, 0, none⟩) ys.length cap) H1.drew.blkIs)
  have hle := fm_at z (s.page - 1) s.page s.room hz (by omega)
  have H1H := Lib.hid (H1.re (B := row bw 23 (s.room * s.page) (fun i => .int .u64 (s.ws i)) * (blk p (.cells ((poolC s bw ba (.slice (some ⟨q, 0, none⟩) (ys.length + 1) cap)).setIfInBounds 3 (.slice (some ⟨q, 0, none⟩) ys.length cap)) 126 (0, 0)) * (row ba 4 s.room (fun i => .bool (s.al i)) * own 3 1 (.slice (some ⟨q, 0, none⟩) ys.length cap) ys.length (ys.map (fun n : Nat => Value.int .i64 n))))) (by ac_rfl))
  have zv : ∀ w, (zeroValue 23).run Tryd.prog w = .ok (.int .u64 0) w := by intro w; kernel_rfl
  have ZV := Lib.hid zv
  have HS := Lib.hid hs
  clear h hx hb hw hr ho H0 H1 hrel zv hs e1 e2
  go_enter Tryd.func59, Tryd.ntmps59
  go_wp2
  go_region
  all_goals go_wp2_with (first | (go_at_call 91; refine (FR.out).mono ?_; rintro e1 w1 ⟨rfl, n, rfl⟩) | (refine wpList_clear_sl _ rfl _ _ rfl 23 (.int .u64 0) Tryd.underlying105 ZV.out rfl rfl bw (z * s.page) s.page s.page (s.room * s.page) 23 (fun i => .int .u64 (s.ws i)) rfl h3 (At.drewN H1H.out (1 + n)) (by omega) ?_; intro w2 H2; obtain ⟨⟨d0, d1, d2, d3, d4, d5, d6, df⟩, af, a1, u1, u2⟩ := took_facts hz H2; have H2H := Lib.hid H2; clear H2))
  obtain ⟨U', FIN'⟩ := took_end (s := s) (k := z) (fr := s.fresh) (rel := ys) HS.out hfr (by omega) H2H.out
  have U := Lib.hid U'
  have FIN := Lib.hid FIN'
  clear U' FIN'
  go_region_with (go_at_call 67; refine (U.out).mono ?_; rintro e1 w1 ⟨rfl, n2, rfl⟩)
  all_goals go_wp2
  all_goals go_ret2
  all_goals refine ⟨rfl, ?_⟩
  all_goals
    have e := FIN.out (1 + n2) (max s.high (s.fresh - ys.length))
    first
      | (rw [Nat.max_eq_right (by omega)] at e ⊢; exact e)
      | (rw [Nat.max_eq_left (by omega)] at e ⊢; exact e)

end Go.Proofs.YtflkbefiopnigabDoor
