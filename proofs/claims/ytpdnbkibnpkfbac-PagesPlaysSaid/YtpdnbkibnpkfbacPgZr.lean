/- The document's page map (layer 8): Drop, Move. -/
import Derived.Test.YtpdnbkibnpkfbacPgZq
namespace Go.Proofs.Ytpdnbkibnpkfbac.PT
open Go.ChangeShapes Go.WideShapes Go.ChangeAt Go.RowKit

theorem ls_read {w0 w : World} {S : Nat → Prop} {c n : Nat} {L : List (Nat × Nat)} {a : Option Addr} {cap : Nat} (h : At (lsX c n L (.slice a L.length cap)) w0 S w) : w.cell? ⟨c, 0, none⟩ = some (.int .i64 n) ∧ w.cell? ⟨c, 1, none⟩ = some (.slice a L.length cap) ∧ (∀ i, w.frozen? ⟨c, i, none⟩ = false) ∧ w.ownsRow 0 75 2 (.slice a L.length cap) L.length (flat L) := by
  have ho := At.ownIs (h.re (B := own 75 2 (.slice a L.length cap) L.length (flat L) * blk c (.cells #[.int .i64 n, .slice a L.length cap] 47 (0, 0))) (by unfold lsX; ac_rfl))
  have hb := At.blkIs (A := own 75 2 (.slice a L.length cap) L.length (flat L)) h
  exact ⟨by simp [World.cell?, hb], by simp [World.cell?, hb], fun i => by simp [World.frozen?, hb], ho⟩

theorem flat_one (L : List (Nat × Nat)) : ∀ u ∈ flat L, u.oneCell' = true := by
  induction L with
  | nil => intro u hu; cases hu
  | cons e r ih =>
    intro u hu
    rcases List.mem_cons.1 hu with rfl | hu
    · rfl
    · rcases List.mem_cons.1 hu with rfl | hu
      · rfl
      · exact ih u hu

theorem flat_take (L : List (Nat × Nat)) (k : Nat) : flat (L.take k) = (flat L).take (2 * k) := by
  induction L generalizing k with
  | nil => simp [flat]
  | cons e r ih =>
    cases k with
    | zero => rfl
    | succ k =>
      show _ :: _ :: flat (r.take k) = (_ :: _ :: flat r).take (2 * k + 1 + 1)
      rw [ih k]; rfl

theorem flat_drop (L : List (Nat × Nat)) (k : Nat) : flat (L.drop k) = (flat L).drop (2 * k) := by
  induction L generalizing k with
  | nil => simp [flat]
  | cons e r ih =>
    cases k with
    | zero => rfl
    | succ k =>
      show flat (r.drop k) = (_ :: _ :: flat r).drop (2 * k + 1 + 1)
      rw [ih k]; rfl

/-- the list's field set to another row -/
theorem ls_swap {w0 w : World} {S : Nat → Prop} {c n m : Nat} {L M : List (Nat × Nat)} {v v2 : Value} (hm : M.length = m) (h : At (own 75 2 v2 m (flat M) * lsX c n L v) w0 S w) :
    (w.cell? ⟨c, 0, none⟩ = some (.int .i64 n) ∧ w.cell? ⟨c, 1, none⟩ = some v ∧ (∀ i, w.frozen? ⟨c, i, none⟩ = false)) ∧ At (lsA c n M) w0 S (w.setCell ⟨c, 1, none⟩ v2) := by
  subst hm
  have H5 := (h.re (B := (blk c (.cells #[.int .i64 n, v] 47 (0, 0)) * own 75 2 v2 M.length (flat M)) * own 75 2 v L.length (flat L)) (by unfold lsX; ac_rfl)).dropr
  have hb := H5.blkIs
  refine ⟨⟨by simp [World.cell?, hb], by simp [World.cell?, hb], fun i => by simp [World.frozen?, hb]⟩, ?_⟩
  exact At.ofex (A := fun v => lsX c n M v) v2 (H5.set_blk 1 v2)

set_option maxRecDepth 100000 in
set_option maxHeartbeats 2000000 in
theorem ls_drop_ok {c n : Nat} {L : List (Nat × Nat)} (hn : n ≤ 524288) (hL : L.length ≤ 1000000) (p : Nat) (hp : p < n) (k : Nat) (hk : ix L p = k) (hkl : k < L.length) : Tri1 Try.prog 25 #[.pointer (some ⟨c, 0, none⟩), .int .i64 p] (lsA c n L) (.tuple #[.int .i64 ((L.getD k (0, 0)).2 : Nat), .int .i64 0]) (lsA c n (L.take k ++ L.drop (k + 1))) := by
  intro w S h
  have F := ls_frame hn hL p w S h
  have e1 : lfV n L p = ((L.getD k (0, 0)).2 : Nat) := by
    unfold lfV; rw [if_pos (by omega), hk, if_neg (by omega), Int.toNat_natCast]
  have e2 : lfE n L p = 0 := by unfold lfE; rw [if_pos (by omega), hk, if_neg (by omega)]
  rw [e1, e2] at F
  have F := Lib.hid F
  have A := ls_at hL p w S h
  rw [hk] at A
  have A := Lib.hid A
  obtain ⟨a, cap, hX, _, _, _, ce⟩ := ls_open h
  obtain ⟨g, rfl, _⟩ := ce k hkl
  obtain ⟨c0, c1, cf, ho⟩ := ls_read hX
  obtain ⟨i0, hi, hz0, hz1, hz2⟩ := info_parts infEn
  have HI := Lib.hid hi
  have HZ0 := Lib.hid hz0
  have HZ1 := Lib.hid hz1
  have HZ2 := Lib.hid hz2
  have HX := Lib.hid hX
  have HO := Lib.hid ho
  have hcap : L.length ≤ cap ∧ cap ≤ 9223372036854775807 := by
    rcases ho.2 with ⟨h1, h2⟩ | ⟨g', cap', cur, hv, _, _, h2, h3, _⟩
    · omega
    · cases hv; exact ⟨h2, by unfold maxLen at h3; omega⟩
  obtain ⟨hcap1, hcap2⟩ := hcap
  have hltI : (k : Int) < (L.length : Int) := by omega
  generalize ((L.getD k (0, 0)).2 : Int) = y at *
  clear hi hz0 hz1 hz2 h hX hk ce ho e1 e2
  go_enter Try.func25, Try.ntmps25
  go_wp2_with (first | (go_at_call 29; refine F.out.mono ?_; rintro e1 w1 ⟨rfl, rfl⟩) | (go_at_call 42; refine A.out.mono ?_; rintro e1 w1 ⟨rfl, rfl⟩) | (at_builtin; refine wpList_append_own_at _ rfl _ _ 45 rfl 0 75 i0 (.agg #[.int .i64 0, .int .i64 0]) 2 16 Try.underlying45 HI.out HZ0.out HZ1.out HZ2.out rfl (by decide) _ _ _ rfl (World.ownsRow_nil w 0 75 2) ⟨g, 0, none⟩ k cap (flat (L.take k)) rfl ?c0 ?c1 ?c2 ?c3 ?c4 ?c5 ?_))
  case c0 => rw [flat_len, List.length_take]; omega
  case c1 =>
    intro j u hj
    rw [flat_take, List.getElem?_take] at hj
    split at hj
    · exact HO.out.cells (g := g) rfl j u hj
    · cases hj
  case c2 => exact flat_one _
  case c3 => unfold maxLen; omega
  case c4 => omega
  case c5 => exact Nat.zero_le _
  intro v1 w1 own1 grow1 _ hloc1
  obtain ⟨a1, cp1, rfl⟩ := ls_form own1
  have H2 := ((HX.out.own_nil 75 2).grow own1 grow1 (fun q hq => by
    rcases hloc1 with h | h
    · rw [h] at hq; cases hq
    · rw [h] at hq; cases hq; exact .inr (Nat.le_refl _)))
  have H3 := Lib.hid (H2.re (B := lsX c n L (.slice (some ⟨g, 0, none⟩) L.length cap) * own 75 2 (.slice a1 (0 + k) cp1) (0 + k) ([] ++ flat (L.take k))) (by ac_rfl))
  obtain ⟨x0, x1, xf, xo⟩ := ls_read H3.out.dropr
  have OWN1 := Lib.hid own1
  have XO := Lib.hid xo
  clear own1 grow1 hloc1 H2 HX HO c0 c1 cf xo F A
  rw [Nat.zero_add] at *
  by_cases hA : cap = k + 1
  · have hlk : L.length = k + 1 := by omega
    subst hA
    go_wp2_with (at_builtin; refine wpList_append_own_at _ rfl _ _ 45 rfl 0 75 i0 (.agg #[.int .i64 0, .int .i64 0]) 2 16 Try.underlying45 HI.out HZ0.out HZ1.out HZ2.out rfl (by decide) _ _ _ rfl OWN1.out ⟨g, 0, none⟩ 0 0 (flat (L.drop (k + 1))) rfl ?c0 ?c1 ?c2 ?c3 ?c4 ?c5 ?_)
    case c0 => (rw [flat_len, List.length_drop]; try omega)
    case c1 =>
      intro j u hj
      rw [List.drop_eq_nil_of_le (by omega)] at hj; cases hj
    case c2 => exact flat_one _
    case c3 => unfold maxLen; omega
    case c4 => omega
    case c5 => exact Nat.zero_le _
    intro v2 w2 own2 grow2 _ hloc2
    obtain ⟨a2, cp2, rfl⟩ := ls_form own2
    have H4 := ((H3.out.re (B := own 75 2 (.slice a1 k cp1) k ([] ++ flat (L.take k)) * lsX c n L (.slice (some ⟨g, 0, none⟩) L.length (k + 1))) (by ac_rfl)).grow own2 grow2 (fun q hq => by
      rcases hloc2 with h | h
      · rw [h] at hq; exact .inl hq
      · rw [h] at hq; cases hq; exact .inr (Nat.le_refl _)))
    have hlen : (L.take k ++ L.drop (k + 1)).length = k := by rw [List.length_append, List.length_take, List.length_drop]; omega
    have hfl : flat (L.take k) ++ flat (L.drop (k + 1)) = flat (L.take k ++ L.drop (k + 1)) := (flat_app _ _).symm
    obtain ⟨⟨d0, d1, df⟩, A2⟩ := ls_swap hlen (H4.re (B := own 75 2 (.slice a2 (k) cp2) (k) (flat (L.take k ++ L.drop (k + 1))) * lsX c n L (.slice (some ⟨g, 0, none⟩) L.length (k + 1))) (by rw [← hfl]))
    have FIN := Lib.hid A2
    clear own2 grow2 hloc2 H4 A2 hfl H3 OWN1 XO x0 x1 xf hlen
    go_wp2
    go_ret2
    exact ⟨rfl, FIN.out⟩
  · have hA2 : k + 1 < cap := by omega
    go_wp2_with (at_builtin; refine wpList_append_own_at _ rfl _ _ 45 rfl 0 75 i0 (.agg #[.int .i64 0, .int .i64 0]) 2 16 Try.underlying45 HI.out HZ0.out HZ1.out HZ2.out rfl (by decide) _ _ _ rfl OWN1.out ⟨g, (k + 1) * 2, none⟩ (L.length - (k + 1)) (cap - (k + 1)) (flat (L.drop (k + 1))) rfl ?c0 ?c1 ?c2 ?c3 ?c4 ?c5 ?_)
    case c0 => (rw [flat_len, List.length_drop]; try omega)
    case c1 =>
      intro j u hj
      rw [flat_drop, List.getElem?_drop] at hj
      have := XO.out.cells (g := g) rfl _ u hj
      rw [add_plain] at this ⊢
      rw [show 0 + (2 * (k + 1) + j) = (k + 1) * 2 + j by omega] at this
      exact this
    case c2 => exact flat_one _
    case c3 => unfold maxLen; omega
    case c4 => omega
    case c5 => exact Nat.zero_le _
    intro v2 w2 own2 grow2 _ hloc2
    obtain ⟨a2, cp2, rfl⟩ := ls_form own2
    have H4 := ((H3.out.re (B := own 75 2 (.slice a1 k cp1) k ([] ++ flat (L.take k)) * lsX c n L (.slice (some ⟨g, 0, none⟩) L.length cap)) (by ac_rfl)).grow own2 grow2 (fun q hq => by
      rcases hloc2 with h | h
      · rw [h] at hq; exact .inl hq
      · rw [h] at hq; cases hq; exact .inr (Nat.le_refl _)))
    have hlen : (L.take k ++ L.drop (k + 1)).length = k + (L.length - (k + 1)) := by rw [List.length_append, List.length_take, List.length_drop]; omega
    have hfl : flat (L.take k) ++ flat (L.drop (k + 1)) = flat (L.take k ++ L.drop (k + 1)) := (flat_app _ _).symm
    obtain ⟨⟨d0, d1, df⟩, A2⟩ := ls_swap hlen (H4.re (B := own 75 2 (.slice a2 (k + (L.length - (k + 1))) cp2) (k + (L.length - (k + 1))) (flat (L.take k ++ L.drop (k + 1))) * lsX c n L (.slice (some ⟨g, 0, none⟩) L.length cap)) (by rw [← hfl]))
    have FIN := Lib.hid A2
    clear own2 grow2 hloc2 H4 A2 hfl H3 OWN1 XO x0 x1 xf hlen
    go_wp2
    go_ret2
    exact ⟨rfl, FIN.out⟩

end Go.Proofs.Ytpdnbkibnpkfbac.PT
