/- The document's pool of frames (layer 7): Give. -/
import Derived.Test.YtpdnbkibnpkfbadFmZ
namespace Go.Proofs.Ytpdnbkibnpkfbad
open Go.ChangeShapes Go.WideShapes Go.ChangeAt Go.RowKit

/-- the frame at place k, of the number f, is given back -/
def RS.give (r : RS) (k f : Nat) : RS := { r with L := r.L.take k ++ r.L.drop (k + 1), back := r.back ++ [f] }

theorem rpY_swap {w0 w : World} {S : Nat → Prop} {c m k : Nat} {r : RS} {C : Array Value} {vL vB v : Value} (hk : k < r.L.length) (h : At (own 79 2 v m (ffl r.page (r.L.take k ++ r.L.drop (k + 1))) * rpY c r C vL vB) w0 S w) (hm : (r.L.take k ++ r.L.drop (k + 1)).length = m) :
    At (rpY c { r with L := r.L.take k ++ r.L.drop (k + 1) } C v vB) w0 S w := by
  subst hm
  exact (h.re (B := rpY c { r with L := r.L.take k ++ r.L.drop (k + 1) } C v vB * (own 79 2 vL r.L.length (ffl r.page r.L) * row (r.L.getD k fe0).b 31 r.page (fun i => .int .u64 ((r.L.getD k fe0).g i)))) (by
    unfold rpY
    rw [rowsA_at r.page r.L k hk]
    show _ = blk c (.cells C 50 (0, 0)) * (own 79 2 v (r.L.take k ++ r.L.drop (k + 1)).length (ffl r.page (r.L.take k ++ r.L.drop (k + 1))) * (own 3 1 vB r.back.length (natL r.back) * rowsA r.page (r.L.take k ++ r.L.drop (k + 1)))) * (own 79 2 vL r.L.length (ffl r.page r.L) * row (r.L.getD k fe0).b 31 r.page (fun i => .int .u64 ((r.L.getD k fe0).g i)))
    ac_rfl)).dropr

theorem rpY_more {w0 w w1 : World} {S : Nat → Prop} {c f : Nat} {r : RS} {C : Array Value} {vL vB v2 : Value} (h : At (rpY c r C vL vB) w0 S w)
    (hown : w1.ownsRow 0 3 1 v2 (r.back.length + 1) (natL r.back ++ [.int .i64 (f : Nat)]))
    (hgrow : (w.alloc (.cells #[.int .i64 (f : Nat)] 3)).grownBy w1 vB.ownBlock)
    (hwhere : ∀ g, v2.ownBlock = some g → vB.ownBlock = some g ∨ (w.alloc (.cells #[.int .i64 (f : Nat)] 3)).heap.size ≤ g) : At (rpY c { r with back := r.back ++ [f] } C vL v2) w0 S w1 := by
  have H2 := (h.alloc (.cells #[.int .i64 (f : Nat)] 3)).re (B := own 3 1 vB r.back.length (natL r.back) * (blk w.heap.size (.cells #[.int .i64 (f : Nat)] 3) * (blk c (.cells C 50 (0, 0)) * (own 79 2 vL r.L.length (ffl r.page r.L) * rowsA r.page r.L)))) (by unfold rpY; ac_rfl)
  have H3 := H2.grow hown hgrow hwhere
  have e : natL (r.back ++ [f]) = natL r.back ++ [.int .i64 (f : Nat)] := by simp [natL]
  exact (H3.re (B := rpY c { r with back := r.back ++ [f] } C vL v2 * blk w.heap.size (.cells #[.int .i64 (f : Nat)] 3)) (by
    unfold rpY
    show _ = blk c (.cells C 50 (0, 0)) * (own 79 2 vL r.L.length (ffl r.page r.L) * (own 3 1 v2 (r.back ++ [f]).length (natL (r.back ++ [f])) * rowsA r.page r.L)) * blk w.heap.size (.cells #[.int .i64 (f : Nat)] 3)
    rw [e, List.length_append, List.length_singleton]
    ac_rfl)).dropr

theorem rp_give_bad {c : Nat} {r : RS} (hL : r.L.length ≤ 1000000) (p : Int) (hk : fix r.L p = -1) : Ask Try.prog 14 #[.pointer (some ⟨c, 0, none⟩), .int .i64 p] (rpA c r) (.int .i64 6) := by
  intro w S h
  have A := rp_at hL p w S h
  rw [hk] at A
  have A := Lib.hid A
  clear h hk
  go_enter Try.func14, Try.ntmps14
  go_wp2_with (go_at_call 42; refine A.out.mono ?_; rintro e1 w1 ⟨rfl, rfl⟩)
  go_ret
  exact ⟨rfl, rfl⟩

set_option maxRecDepth 100000 in
set_option maxHeartbeats 4000000 in
theorem rp_give_ok {c : Nat} {r : RS} (hL : r.L.length ≤ 1000000) (hB : r.back.length ≤ 1000000) (p k : Nat) (hk : fix r.L p = k) (hkl : k < r.L.length) : Tri1 Try.prog 14 #[.pointer (some ⟨c, 0, none⟩), .int .i64 p] (rpA c r) (.int .i64 0) (rpA c (r.give k p)) := by
  intro w S h
  have A := rp_at hL p w S h
  rw [hk] at A
  have A := Lib.hid A
  obtain ⟨aL, cL, aB, cB, hX, R⟩ := rp_open h
  obtain ⟨g, rfl, _⟩ := R.el k hkl
  have c0 := R.c0
  have c1 := R.c1
  have c2 := R.c2
  have c3 := R.c3
  have cf := R.fz
  have ho := R.oL
  obtain ⟨i0, hi, hz0, hz1, hz2⟩ := info_parts infFrF
  have HI := Lib.hid hi
  have HZ0 := Lib.hid hz0
  have HZ1 := Lib.hid hz1
  have HZ2 := Lib.hid hz2
  obtain ⟨i1, gi, gz0, gz1, gz2⟩ := info_parts infIntF
  have GI := Lib.hid gi
  have GZ0 := Lib.hid gz0
  have GZ1 := Lib.hid gz1
  have GZ2 := Lib.hid gz2
  have HX := Lib.hid hX
  have HO := Lib.hid ho
  obtain ⟨q, cap', hv, hcap1, hcap2⟩ := own_some' ho (by omega)
  cases hv
  have hltI : (k : Int) < (r.L.length : Int) := by omega
  clear hi hz0 hz1 hz2 gi gz0 gz1 gz2 h hX hk R ho
  go_enter Try.func14, Try.ntmps14
  go_wp2_with (first | (go_at_call 42; refine A.out.mono ?_; rintro e1 w1 ⟨rfl, rfl⟩) | (at_builtin; refine wpList_append_own_at _ rfl _ _ 47 rfl 0 79 i0 (.agg #[.int .i64 0, .slice none 0 0]) 2 32 Try.underlying47 HI.out HZ0.out HZ1.out HZ2.out rfl (by decide) _ _ _ rfl (World.ownsRow_nil w 0 79 2) ⟨g, 0, none⟩ k cL (ffl r.page (r.L.take k)) rfl ?c0 ?c1 ?c2 ?c3 ?c4 ?c5 ?_))
  case c0 => rw [ffl_len, List.length_take]; omega
  case c1 =>
    intro j u hj
    rw [ffl_take, List.getElem?_take] at hj
    split at hj
    · exact HO.out.cells (g := g) rfl j u hj
    · cases hj
  case c2 => exact ffl_one _ _
  case c3 => unfold maxLen; omega
  case c4 => omega
  case c5 => exact Nat.zero_le _
  intro v1 w1 own1 grow1 _ hloc1
  obtain ⟨a1, cp1, rfl⟩ := own_form' own1
  obtain ⟨C0, hC0⟩ : ∃ C : Array Value, (#[.int .i64 r.room, .int .i64 r.page, .slice (some ⟨g, 0, none⟩) r.L.length cL, .slice aB r.back.length cB, .int .i64 r.never, .int .i64 r.high, .int .i64 r.times] : Array Value) = C := ⟨_, rfl⟩
  have A1 := show At (rpY c r C0 (.slice (some ⟨g, 0, none⟩) r.L.length cL) (.slice aB r.back.length cB)) w S w from (by rw [← hC0]; exact HX.out)
  have H2 := (A1.own_nil 79 2).grow own1 grow1 (fun q hq => by
    rcases hloc1 with h | h
    · rw [h] at hq; cases hq
    · rw [h] at hq; cases hq; exact .inr (Nat.le_refl _))
  have H3 := Lib.hid H2
  have H2' := (H2.re (B := rpY c r C0 (.slice (some ⟨g, 0, none⟩) r.L.length cL) (.slice aB r.back.length cB) * own 79 2 (.slice a1 k cp1) k (ffl r.page (r.L.take k))) (by ac_rfl)).dropr
  have XO := Lib.hid (rpY_L H2')
  rw [← hC0] at H2'
  obtain ⟨x0, x1, x2, x3, x4, x5, x6, xf⟩ := rpY_read H2'
  have OWN1 := Lib.hid own1
  clear own1 grow1 hloc1 H2 H2' HX HO c0 c1 c2 c3 cf A A1
  by_cases hA : cL = k + 1
  · have hlk : r.L.length = k + 1 := by omega
    subst hA
    go_wp2_with (at_builtin; refine wpList_append_own_at _ rfl _ _ 47 rfl 0 79 i0 (.agg #[.int .i64 0, .slice none 0 0]) 2 32 Try.underlying47 HI.out HZ0.out HZ1.out HZ2.out rfl (by decide) _ _ _ rfl OWN1.out ⟨g, 0, none⟩ 0 0 (ffl r.page (r.L.drop (k + 1))) rfl ?c0 ?c1 ?c2 ?c3 ?c4 ?c5 ?_)
    case c0 => (rw [ffl_len, List.length_drop]; try omega)
    case c1 =>
      intro j u hj
      rw [List.drop_eq_nil_of_le (by omega)] at hj; cases hj
    case c2 => exact ffl_one _ _
    case c3 => unfold maxLen; omega
    case c4 => omega
    case c5 => exact Nat.zero_le _
    intro v2 w2 own2 grow2 _ hloc2
    obtain ⟨a2, cp2, rfl⟩ := own_form' own2
    have A5 := H3.out.grow own2 grow2 (fun p hp => by
      rcases hloc2 with h | h
      · rw [h] at hp; exact .inl hp
      · rw [h] at hp; cases hp; exact .inr (Nat.le_refl _))
    have hlen : (r.L.take k ++ r.L.drop (k + 1)).length = k := by rw [List.length_append, List.length_take, List.length_drop]; omega
    rw [← ffl_app] at A5
    have A6 := rpY_swap hkl (show At (own 79 2 (.slice a2 (k) cp2) (k) (ffl r.page (r.L.take k ++ r.L.drop (k + 1))) * rpY c r C0 (.slice (some ⟨g, 0, none⟩) r.L.length (k + 1)) (.slice aB r.back.length cB)) w S _ from A5) hlen
    rw [← hC0] at A6
    obtain ⟨b0, b1, b2, b3, b4, b5, b6, bf⟩ := rpY_read (show At (rpY c _ #[_, _, _, _, _, _, _] _ _) w S _ from A6)
    have A7 := Lib.hid (rpY_set A6 2 (.slice a2 (k) cp2))
    clear own2 grow2 hloc2 A5 A6 H3 OWN1 XO x0 x1 x2 x3 x4 x5 x6 xf
    go_wp2_with (at_builtin; refine wpList_append_sep _ rfl _ _ 48 rfl 0 3 i1 (.int .i64 0) 1 8 Try.underlying48 GI.out GZ0.out GZ1.out GZ2.out rfl (by decide) _ _ _ rfl (World.ownsRow.alloc (rpY_B A7.out) _) ⟨w2.heap.size, 0, none⟩ 1 1 [.int .i64 p] rfl rfl ?d1 ?d2 ?d3 ?d4 ?d5 ?d6 ?_)
    case d1 => simpa [World.setCell] using one_nwF (w2.setCell ⟨c, 2, none⟩ (.slice a2 (k) cp2)) p
    case d2 => simp [Value.oneCell']
    case d3 => unfold maxLen; omega
    case d4 => omega
    case d5 => exact Nat.zero_le _
    case d6 => omega
    intro g' cap' w3 hown' hgrow hwhere
    have A8 := rpY_more (f := p) A7.out hown' hgrow (fun q hq => by
      cases hq
      rcases hwhere with h | h
      · exact .inl h
      · exact .inr (by simpa [World.setCell] using h))
    obtain ⟨y0, y1, y2, y3, y4, y5, y6, yf⟩ := rpY_read (show At (rpY c _ #[_, _, _, _, _, _, _] _ _) w S _ from A8)
    have FIN := Lib.hid (show At (rpA c (r.give k p)) w S _ from rpA_of (vL := .slice a2 (k) cp2) (vB := .slice (some ⟨g', 0, none⟩) (r.back.length + 1) cap') (rpY_set A8 3 (.slice (some ⟨g', 0, none⟩) (r.back.length + 1) cap')))
    clear hown' hgrow hwhere A7 A8 b0 b1 b2 b3 b4 b5 b6 bf
    go_wp2
    go_ret
    exact ⟨rfl, FIN.out⟩
  · have hA2 : k + 1 < cL := by omega
    go_wp2_with (at_builtin; refine wpList_append_own_at _ rfl _ _ 47 rfl 0 79 i0 (.agg #[.int .i64 0, .slice none 0 0]) 2 32 Try.underlying47 HI.out HZ0.out HZ1.out HZ2.out rfl (by decide) _ _ _ rfl OWN1.out ⟨g, (k + 1) * 2, none⟩ (r.L.length - (k + 1)) (cL - (k + 1)) (ffl r.page (r.L.drop (k + 1))) rfl ?c0 ?c1 ?c2 ?c3 ?c4 ?c5 ?_)
    case c0 => (rw [ffl_len, List.length_drop]; try omega)
    case c1 =>
      intro j u hj
      rw [ffl_drop, List.getElem?_drop] at hj
      have := XO.out.cells (g := g) rfl _ u hj
      rw [add_plain] at this ⊢
      rw [show 0 + (2 * (k + 1) + j) = (k + 1) * 2 + j by omega] at this
      exact this
    case c2 => exact ffl_one _ _
    case c3 => unfold maxLen; omega
    case c4 => omega
    case c5 => exact Nat.zero_le _
    intro v2 w2 own2 grow2 _ hloc2
    obtain ⟨a2, cp2, rfl⟩ := own_form' own2
    have A5 := H3.out.grow own2 grow2 (fun p hp => by
      rcases hloc2 with h | h
      · rw [h] at hp; exact .inl hp
      · rw [h] at hp; cases hp; exact .inr (Nat.le_refl _))
    have hlen : (r.L.take k ++ r.L.drop (k + 1)).length = k + (r.L.length - (k + 1)) := by rw [List.length_append, List.length_take, List.length_drop]; omega
    rw [← ffl_app] at A5
    have A6 := rpY_swap hkl (show At (own 79 2 (.slice a2 (k + (r.L.length - (k + 1))) cp2) (k + (r.L.length - (k + 1))) (ffl r.page (r.L.take k ++ r.L.drop (k + 1))) * rpY c r C0 (.slice (some ⟨g, 0, none⟩) r.L.length cL) (.slice aB r.back.length cB)) w S _ from A5) hlen
    rw [← hC0] at A6
    obtain ⟨b0, b1, b2, b3, b4, b5, b6, bf⟩ := rpY_read (show At (rpY c _ #[_, _, _, _, _, _, _] _ _) w S _ from A6)
    have A7 := Lib.hid (rpY_set A6 2 (.slice a2 (k + (r.L.length - (k + 1))) cp2))
    clear own2 grow2 hloc2 A5 A6 H3 OWN1 XO x0 x1 x2 x3 x4 x5 x6 xf
    go_wp2_with (at_builtin; refine wpList_append_sep _ rfl _ _ 48 rfl 0 3 i1 (.int .i64 0) 1 8 Try.underlying48 GI.out GZ0.out GZ1.out GZ2.out rfl (by decide) _ _ _ rfl (World.ownsRow.alloc (rpY_B A7.out) _) ⟨w2.heap.size, 0, none⟩ 1 1 [.int .i64 p] rfl rfl ?d1 ?d2 ?d3 ?d4 ?d5 ?d6 ?_)
    case d1 => simpa [World.setCell] using one_nwF (w2.setCell ⟨c, 2, none⟩ (.slice a2 (k + (r.L.length - (k + 1))) cp2)) p
    case d2 => simp [Value.oneCell']
    case d3 => unfold maxLen; omega
    case d4 => omega
    case d5 => exact Nat.zero_le _
    case d6 => omega
    intro g' cap' w3 hown' hgrow hwhere
    have A8 := rpY_more (f := p) A7.out hown' hgrow (fun q hq => by
      cases hq
      rcases hwhere with h | h
      · exact .inl h
      · exact .inr (by simpa [World.setCell] using h))
    obtain ⟨y0, y1, y2, y3, y4, y5, y6, yf⟩ := rpY_read (show At (rpY c _ #[_, _, _, _, _, _, _] _ _) w S _ from A8)
    have FIN := Lib.hid (show At (rpA c (r.give k p)) w S _ from rpA_of (vL := .slice a2 (k + (r.L.length - (k + 1))) cp2) (vB := .slice (some ⟨g', 0, none⟩) (r.back.length + 1) cap') (rpY_set A8 3 (.slice (some ⟨g', 0, none⟩) (r.back.length + 1) cap')))
    clear hown' hgrow hwhere A7 A8 b0 b1 b2 b3 b4 b5 b6 bf
    go_wp2
    go_ret
    exact ⟨rfl, FIN.out⟩

end Go.Proofs.Ytpdnbkibnpkfbad
