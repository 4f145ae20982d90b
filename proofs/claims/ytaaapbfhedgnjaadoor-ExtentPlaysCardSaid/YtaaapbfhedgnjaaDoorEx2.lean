/- A map of objects (layer 13): New, whether a run is free, Add. -/
import Derived.Test.YtaaapbfhedgnjaaDoorEx
namespace Go.Proofs.YtaaapbfhedgnjaaDoor.BV
open Go.ChangeShapes Go.WideShapes Go.ChangeAt Go.RowKit

theorem fB_zero (n : Nat) : newB n = fB n (fun _ => 0) := by
  unfold newB fB
  congr 1
theorem lB_zero (n : Nat) : newB n = lB n (fun _ => 0) := by
  unfold newB lB
  congr 1
  funext z
  exact (lst_false fun x hx => absurd hx (by omega)).symm

theorem ex_zero (n : Nat) (h1 : 1 ≤ n) (h2 : n ≤ 1048576) : ExOk n (fun _ => 0) := ⟨h1, h2, ⟨fun x hx => absurd hx (by omega), fun x y hx => absurd hx (by omega)⟩⟩

theorem exA_of {w0 w : World} {S : Nat → Prop} {c p q n : Nat} {sz : Nat → Nat} {k : Int} (h : At (exX c p q n sz k) w0 S w) : At (exA c n sz k) w0 S w :=
  At.ofex (A := fun x : Nat × Nat => exX c x.1 x.2 n sz k) (p, q) h

theorem ex_new_fin {w0 w : World} {S : Nat → Prop} {p q n : Nat} (h : At (bvA q (newB n) * bvA p (newB n)) w0 S w) :
    At (exA w.heap.size n (fun _ => 0) 0) w0 S (w.alloc (.cells #[.pointer (some ⟨p, 0, none⟩), .pointer (some ⟨q, 0, none⟩), .int .i64 0] 90)) := by
  have h1 := h.alloc (.cells #[.pointer (some ⟨p, 0, none⟩), .pointer (some ⟨q, 0, none⟩), .int .i64 0] 90)
  refine exA_of (p := p) (q := q) (h1.re ?_)
  unfold exX
  rw [← fB_zero, ← lB_zero]
  ac_rfl

set_option maxRecDepth 100000 in
theorem ex_new_ok (n : Nat) (h1 : 1 ≤ n) (h2 : n ≤ 1048576) : Tri Tryd.prog 23 #[.int .i64 n] (pur True) (fun c : Nat => .tuple #[.pointer (some ⟨c, 0, none⟩), .int .i64 0]) (fun c => exA c n (fun _ => 0) 0) := by
  intro w S h
  have N1 := Lib.hid ((At.refl h).trix (bv_new_ok n h1 h2))
  have N2 := Lib.hid (fun w' p (h' : At (bvA p (newB n)) w S w') => At.tri (At.pure_in trivial h') (bv_new_ok n h1 h2))
  have F := Lib.hid (fun w' p q (h' : At (bvA q (newB n) * bvA p (newB n)) w S w') => ex_new_fin h'.drew)
  have F' := Lib.hid (fun w' p q (h' : At (bvA q (newB n) * bvA p (newB n)) w S w') => ex_new_fin h')
  clear h
  go_enter Tryd.func23, Tryd.ntmps23
  go_wp2_with fail
  refine N1.out.mono ?_
  rintro e w1 ⟨p, rfl, a1⟩
  have M2 := Lib.hid (N2.out _ _ a1)
  clear N1 N2 a1
  go_wp2_with fail
  refine M2.out.mono ?_
  rintro e w2 ⟨q, rfl, a2⟩
  have F1 := Lib.hid (F.out _ _ _ a2)
  have F2 := Lib.hid (F'.out _ _ _ a2)
  clear M2 F F' a2
  go_wp2
  go_ret2
  first | exact ⟨_, rfl, F2.out⟩ | exact ⟨_, rfl, F1.out⟩

set_option maxRecDepth 100000 in
theorem ex_new_bad (n : Int) (h : n < 1 ∨ 1048576 < n) (w : World) : Calls Tryd.prog 23 #[.int .i64 n] w fun e w' => e = .returned (.tuple #[.pointer none, .int .i64 5]) ∧ w = w' := by
  go_enter Tryd.func23, Tryd.ntmps23
  go_wp2_with (go_at_call 43; with_reducible refine (bv_new_bad n h _).mono ?_; rintro e1 w1 ⟨rfl, rfl⟩)
  go_ret2
  exact ⟨rfl, rfl⟩

/-- one word of a run is live -/
def liveB (n : Nat) (sz : Nat → Nat) (s k : Nat) : Bool := (fdF sz s).isSome || decide (0 < cp (onR (fst' sz) n (s : Int) ((s : Int) + (k : Int))) n)

theorem cp_pos {p : Nat → Bool} : ∀ {n j : Nat}, j < n → p j = true → 0 < cp p n
  | 0, j, h, _ => absurd h (by omega)
  | n + 1, j, h, hp => by
    simp only [cp]
    by_cases e : j = n
    · subst e; rw [hp]; simp
    · have := cp_pos (p := p) (n := n) (j := j) (by omega) hp; omega

theorem live_free {n : Nat} {sz : Nat → Nat} (h : Snd n sz) {s k : Nat} (hk : 0 < k) (hl : liveB n sz s k = false) : freeZ sz s k ∧ sz s = 0 := by
  unfold liveB at hl
  rw [Bool.or_eq_false_iff] at hl
  obtain ⟨h1, h2⟩ := hl
  have h0 : fdF sz s = none := by cases e : fdF sz s with | none => rfl | some x => rw [e] at h1; cases h1
  have hc : ∀ x, s ≤ x → x < s + k → fst' sz x = false := by
    intro x g1 g2
    cases e : fst' sz x with
    | false => rfl
    | true =>
      have hx := fst_iff.1 e
      have := h.fit x hx
      have := cp_pos (p := onR (fst' sz) n (s : Int) ((s : Int) + (k : Int))) (n := n) (j := x) (by omega) (by unfold onR; rw [inR_iff.2 (by omega), e]; rfl)
      rw [decide_eq_true this] at h2; cases h2
  refine ⟨free_iff h hk h0 hc, ?_⟩
  have := hc s (Nat.le_refl _) (by omega)
  cases e : sz s with
  | zero => rfl
  | succ z => have : fst' sz s = true := fst_iff.2 (by omega); simp_all

section
variable {w0 w : World} {S : Nat → Prop} {c p q n : Nat} {sz : Nat → Nat} {k : Int} {C : Asn}

theorem ex_count (ok : ExOk n sz) (x y : Int) (h : At (exX c p q n sz k * C) w0 S w) : Calls Tryd.prog 70 #[.pointer (some ⟨p, 0, none⟩), .int .i64 x, .int .i64 y] w fun e w' => e = .returned (.int .i64 (cp (onR (fst' sz) n x y) n : Nat)) ∧ At (exX c p q n sz k * C) w0 S w' :=
  (At.tri1 (C := blk c (.cells #[.pointer (some ⟨p, 0, none⟩), .pointer (some ⟨q, 0, none⟩), .int .i64 k] 90 (0, 0)) * bvA q (lB n sz) * C) (h.re (by unfold exX; ac_rfl)) (bv_count ok.f x y)).mono fun _ _ ⟨a, b⟩ => ⟨a, b.re (by unfold exX; ac_rfl)⟩

set_option maxRecDepth 100000 in
theorem ex_some (ok : ExOk n sz) (s z : Nat) (hs : s < n) (hz : s + z ≤ n) (hT : Tab w) (h : At (exX c p q n sz k * C) w0 S w) :
    Calls Tryd.prog 59 #[.pointer (some ⟨c, 0, none⟩), .int .i64 s, .int .i64 z] w fun e w' => e = .returned (.bool (liveB n sz s z)) ∧ At (exX c p q n sz k * C) w0 S w' := by
  have FD := ex_find ok (s : Int) hT h
  rw [show fdI n sz (s : Int) = fdF sz s by unfold fdI; rw [if_pos (by omega), Int.toNat_natCast]] at FD
  obtain ⟨c0, c1, c2⟩ := ex_cells h
  have n2 := ok.n2
  have CT := Lib.hid (ex_count ok (s : Int) ((s : Int) + (z : Int)) h)
  have CT' := Lib.hid (ex_count ok (s : Int) ((s : Int) + (z : Int)) h.drew)
  have HA := Lib.hid h
  unfold liveB
  have hcb : cp (onR (fst' sz) n (s : Int) ((s : Int) + (z : Int))) n ≤ 1048576 := Nat.le_trans (cp_le _ _) n2
  generalize cp (onR (fst' sz) n (s : Int) ((s : Int) + (z : Int))) n = G at *
  cases hr : fdF sz s with
  | some x =>
    have FD : Hid (Calls Tryd.prog 31 #[.pointer (some ⟨c, 0, none⟩), .int .i64 s] w fun e w' => e = .returned (.tuple #[.int .i64 x, .int .i64 (sz x), .bool true]) ∧ w = w') := Lib.hid (by rw [hr] at FD; exact FD)
    clear h hr
    go_enter Tryd.func59, Tryd.ntmps59
    go_wp2_with (go_at_call 31; with_reducible refine FD.out.mono ?_; rintro e1 w1 ⟨rfl, rfl⟩)
    go_ret
    exact ⟨rfl, HA.out⟩
  | none =>
    have FD : Hid (Calls Tryd.prog 31 #[.pointer (some ⟨c, 0, none⟩), .int .i64 s] w fun e w' => e = .returned (.tuple #[.int .i64 0, .int .i64 0, .bool false]) ∧ w = w') := Lib.hid (by rw [hr] at FD; exact FD)
    clear h hr
    by_cases hG : 0 < G
    · have hGI : (0 : Int) < (G : Int) := by omega
      rw [decide_eq_true hG]
      go_enter Tryd.func59, Tryd.ntmps59
      go_wp2_with (first | (go_at_call 31; with_reducible refine FD.out.mono ?_; rintro e1 w1 ⟨rfl, rfl⟩) | (go_at_call 70; with_reducible refine CT.out.mono ?_; rintro e1 w1 ⟨rfl, hA⟩))
      go_ret
      exact ⟨rfl, hA⟩
    · have hGI : ¬ (0 : Int) < (G : Int) := by omega
      rw [decide_eq_false hG]
      go_enter Tryd.func59, Tryd.ntmps59
      go_wp2_with (first | (go_at_call 31; with_reducible refine FD.out.mono ?_; rintro e1 w1 ⟨rfl, rfl⟩) | (go_at_call 70; with_reducible refine CT.out.mono ?_; rintro e1 w1 ⟨rfl, hA⟩))
      go_ret
      exact ⟨rfl, hA⟩

theorem ex_add_size (s z : Int) (hz : z < 1) : Calls Tryd.prog 30 #[.pointer (some ⟨c, 0, none⟩), .int .i64 s, .int .i64 z] w fun e w' => e = .returned (.int .i64 15) ∧ w = w' := by
  go_enter Tryd.func30, Tryd.ntmps30
  go_wp2
  go_ret
  exact ⟨rfl, rfl⟩

theorem ex_add_range (ok : ExOk n sz) (s z : Int) (hz : 1 ≤ z ∧ z ≤ 9223372036854775807) (hs : s < 0 ∨ (n : Int) - z < s) (h : At (exX c p q n sz k * C) w0 S w) : Calls Tryd.prog 30 #[.pointer (some ⟨c, 0, none⟩), .int .i64 s, .int .i64 z] w fun e w' => e = .returned (.int .i64 11) ∧ w = w' := by
  have WD := Lib.hid (ex_words h)
  have n2 := ok.n2
  have hz1 : ¬ z < 1 := by omega
  have WN : wrap64 ((n : Int) - z) = (n : Int) - z := by unfold wrap64; omega
  clear h
  by_cases h0 : s < 0
  · go_enter Tryd.func30, Tryd.ntmps30
    go_wp2_with (go_at_call 41; with_reducible refine WD.out.mono ?_; rintro e1 w1 ⟨rfl, rfl⟩)
    go_ret
    exact ⟨rfl, rfl⟩
  · have h1 : (n : Int) - z < s := by omega
    clear hs
    go_enter Tryd.func30, Tryd.ntmps30
    go_wp2_with (go_at_call 41; with_reducible refine WD.out.mono ?_; rintro e1 w1 ⟨rfl, rfl⟩)
    go_ret
    exact ⟨rfl, rfl⟩

def exM (c p q : Nat) (F L : Bits) (k : Int) : Asn := blk c (.cells #[.pointer (some ⟨p, 0, none⟩), .pointer (some ⟨q, 0, none⟩), .int .i64 k] 90 (0, 0)) * (bvA p F * bvA q L)

theorem exM_cells {F L : Bits} (h : At (exM c p q F L k * C) w0 S w) : w.cell? ⟨c, 0, none⟩ = some (.pointer (some ⟨p, 0, none⟩)) ∧ w.cell? ⟨c, 1, none⟩ = some (.pointer (some ⟨q, 0, none⟩)) ∧ w.cell? ⟨c, 2, none⟩ = some (.int .i64 k) :=
  vcells (At.blkIs (A := bvA p F * bvA q L * C) (h.re (by unfold exM; ac_rfl)))
theorem exM_frozen {F L : Bits} (h : At (exM c p q F L k * C) w0 S w) : w.frozen? ⟨c, 2, none⟩ = false := by
  have := At.blkIs (A := bvA p F * bvA q L * C) (h.re (B := blk c (.cells #[.pointer (some ⟨p, 0, none⟩), .pointer (some ⟨q, 0, none⟩), .int .i64 k] 90 (0, 0)) * (bvA p F * bvA q L * C)) (by unfold exM; ac_rfl))
  simp [World.frozen?, this]
theorem exM_setk {F L : Bits} (h : At (exM c p q F L k * C) w0 S w) (j : Int) : At (exM c p q F L j * C) w0 S (w.setCell ⟨c, 2, none⟩ (.int .i64 j)) :=
  (At.set_blk (h.re (B := blk c (.cells #[.pointer (some ⟨p, 0, none⟩), .pointer (some ⟨q, 0, none⟩), .int .i64 k] 90 (0, 0)) * (bvA p F * bvA q L * C)) (by unfold exM; ac_rfl)) 2 (.int .i64 j)).re (by show blk c (.cells #[.pointer (some ⟨p, 0, none⟩), .pointer (some ⟨q, 0, none⟩), .int .i64 j] 90 (0, 0)) * (bvA p F * bvA q L * C) = _; unfold exM; ac_rfl)

variable {F F' L L' : Bits} {fn : FuncId} {args : Array Value} {r : Value}
theorem exM_f (T : Tri1 Tryd.prog fn args (bvA p F) r (bvA p F')) (h : At (exM c p q F L k * C) w0 S w) : Calls Tryd.prog fn args w fun e w' => e = .returned r ∧ At (exM c p q F' L k * C) w0 S w' :=
  (At.tri1 (C := blk c (.cells #[.pointer (some ⟨p, 0, none⟩), .pointer (some ⟨q, 0, none⟩), .int .i64 k] 90 (0, 0)) * bvA q L * C) (h.re (by unfold exM; ac_rfl)) T).mono fun _ _ ⟨a, b⟩ => ⟨a, b.re (by unfold exM; ac_rfl)⟩
theorem exM_l (T : Tri1 Tryd.prog fn args (bvA q L) r (bvA q L')) (h : At (exM c p q F L k * C) w0 S w) : Calls Tryd.prog fn args w fun e w' => e = .returned r ∧ At (exM c p q F L' k * C) w0 S w' :=
  (At.tri1 (C := blk c (.cells #[.pointer (some ⟨p, 0, none⟩), .pointer (some ⟨q, 0, none⟩), .int .i64 k] 90 (0, 0)) * bvA p F * C) (h.re (by unfold exM; ac_rfl)) T).mono fun _ _ ⟨a, b⟩ => ⟨a, b.re (by unfold exM; ac_rfl)⟩

set_option maxRecDepth 100000 in
set_option maxHeartbeats 2000000 in
theorem ex_add_in (ok : ExOk n sz) (s z : Nat) (hz : 1 ≤ z) (hs : s + z ≤ n) (hk : 0 ≤ k ∧ k ≤ 1048576) (hT : Tab w) (h : At (exX c p q n sz k * C) w0 S w) :
    Calls Tryd.prog 30 #[.pointer (some ⟨c, 0, none⟩), .int .i64 s, .int .i64 z] w fun e w' =>
      (liveB n sz s z = true ∧ e = .returned (.int .i64 7) ∧ At (exX c p q n sz k * C) w0 S w') ∨ (liveB n sz s z = false ∧ e = .returned (.int .i64 0) ∧ ExOk n (putZ sz s z) ∧ At (exX c p q n (putZ sz s z) (k + 1) * C) w0 S w') := by
  have WD := Lib.hid (ex_words h)
  have n2 := ok.n2
  have SL := ex_some ok s z (by omega) hs hT h
  have hz1 : ¬ (z : Int) < 1 := by omega
  have hzI : (z : Int) ≤ 1048576 := by omega
  have hsI : (s : Int) ≤ 1048576 := by omega
  have WN : wrap64 ((n : Int) - (z : Int)) = (n : Int) - (z : Int) := by unfold wrap64; omega
  have WM : wrap64 ((s : Int) + (z : Int) - 1) = (s : Int) + (z : Int) - 1 := by unfold wrap64; omega
  have hr : ¬ (n : Int) - (z : Int) < (s : Int) := by omega
  cases hl : liveB n sz s z with
  | true =>
    rw [hl] at SL
    have SL := Lib.hid SL
    clear h hl
    go_enter Tryd.func30, Tryd.ntmps30
    go_wp2_with (first | (go_at_call 41; with_reducible refine WD.out.mono ?_; rintro e1 w1 ⟨rfl, rfl⟩) | (go_at_call 59; with_reducible refine SL.out.mono ?_; rintro e1 w1 ⟨rfl, hA⟩))
    go_ret
    exact .inl ⟨by trivial, rfl, hA⟩
  | false =>
    rw [hl] at SL
    obtain ⟨hfree, h0⟩ := live_free ok.s (show 0 < z by omega) hl
    have ok' : ExOk n (putZ sz s z) := ⟨ok.n1, ok.n2, ok.s.put hs hfree⟩
    have T1 := bv_set_ok (p := p) ok.f s (show s < n by omega)
    rw [show (fB n sz).set s true = fB n (putZ sz s z) by unfold Bits.set fB; dsimp only; rw [fst_put (k := z) (by omega)]] at T1
    have T2 := bv_set_ok (p := q) ok.l (s + z - 1) (show s + z - 1 < n by omega)
    rw [show (lB n sz).set (s + z - 1) true = lB n (putZ sz s z) by unfold Bits.set lB; dsimp only; rw [lst_put (k := z) (by omega) h0], show ((s + z - 1 : Nat) : Int) = (s : Int) + (z : Int) - 1 by omega] at T2
    have E1 := Lib.hid (fun w' (h' : At (exX c p q n sz k * C) w0 S w') => exM_f T1 (show At (exM c p q (fB n sz) (lB n sz) k * C) w0 S w' from h'))
    have E2 := Lib.hid (fun w' (h' : At (exM c p q (fB n (putZ sz s z)) (lB n sz) k * C) w0 S w') => exM_l T2 h')
    have OK := Lib.hid ok'
    have SL := Lib.hid SL
    have EC := Lib.hid (fun w' (h' : At (exX c p q n sz k * C) w0 S w') => exM_cells (F := fB n sz) (L := lB n sz) h')
    clear h hl T1 T2 ok ok' hfree h0
    go_enter Tryd.func30, Tryd.ntmps30
    go_wp2_with (first | (go_at_call 41; with_reducible refine WD.out.mono ?_; rintro e1 w1 ⟨rfl, rfl⟩) | (go_at_call 59; with_reducible refine SL.out.mono ?_; rintro e1 w1 ⟨rfl, hA⟩; obtain ⟨c0, c1, c2⟩ := EC.out _ hA; have M1 := Lib.hid (E1.out _ hA); clear hA))
    refine M1.out.mono ?_
    rintro e w2 ⟨rfl, hA⟩
    clear M1 c0 c1 c2
    obtain ⟨c0, c1, c2⟩ := exM_cells hA
    have M2 := Lib.hid (E2.out _ hA)
    clear hA
    go_wp2_with fail
    refine M2.out.mono ?_
    rintro e w3 ⟨rfl, hA⟩
    clear M2 c0 c1 c2
    obtain ⟨c0, c1, c2⟩ := exM_cells hA
    have f2 := exM_frozen hA
    have FF := Lib.hid (exM_setk hA (k + 1))
    clear hA
    go_wp2_with fail
    go_ret
    exact .inr ⟨by trivial, rfl, OK.out, FF.out⟩
end

end Go.Proofs.YtaaapbfhedgnjaaDoor.BV
