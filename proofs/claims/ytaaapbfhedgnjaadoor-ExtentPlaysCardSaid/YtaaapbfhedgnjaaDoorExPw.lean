/- The law ExtentPlays: what a round does and asks. -/
import Derived.Test.YtaaapbfhedgnjaaDoorExPv
namespace Go.Proofs.YtaaapbfhedgnjaaDoor.BV
open Go.ChangeShapes Go.WideShapes Go.ChangeAt Go.RowKit

set_option maxRecDepth 100000 in
theorem word_neg (c : Nat) (k : Int) (hk : k < 0) (w : World) : Calls Tryd.prog 36 #[.pointer (some ⟨c, 0, none⟩), .int .i64 k] w fun e w' => e = .returned (.tuple #[.int .i64 0, .bool false]) ∧ Below w.heap.size w w' := by
  have A0 := (((At.emp w).alloc (.cells #[.int .i64 k] 3)).alloc (.cells #[.int .i64 0] 3)).alloc (.cells #[.bool false] 4)
  simp only [World.size_alloc] at A0
  obtain ⟨Z, hZ⟩ : ∃ Z, w.heap.size = Z := ⟨_, rfl⟩
  rw [hZ] at A0
  have B1 := A0.re (B := blk (Z + 1) (.cells #[.int .i64 0] 3 (0, 0)) * (blk (Z + 1 + 1) (.cells #[.bool false] 4 (0, 0)) * (blk Z (.cells #[.int .i64 k] 3 (0, 0)) * pur True))) (by ac_rfl)
  obtain ⟨c1, c2⟩ := cell1 (At.blkIs B1)
  have c5 := (cell1 (At.blkIs (B1.re (B := blk (Z + 1 + 1) (.cells #[.bool false] 4 (0, 0)) * (blk (Z + 1) (.cells #[.int .i64 0] 3 (0, 0)) * (blk Z (.cells #[.int .i64 k] 3 (0, 0)) * pur True))) (by ac_rfl)))).1
  have hM := Lib.hid (And.intro c1 (And.intro c5 A0.below))
  clear A0 B1 c1 c2 c5
  go_enter Tryd.func36, Tryd.ntmps36
  go_wp2
  obtain ⟨hC, hC2, hB⟩ := hM.out
  refine bodyPost_ret (v := .tuple #[.int .i64 0, .bool false]) ?_ rfl ⟨rfl, hZ ▸ hB⟩
  simp [results, Tryd.f36, go_sem, hZ, hC, hC2]

theorem told_none (v : Value) (w : World) : Calls Tryd.prog 32 #[v, .int .i64 (-1), .int .i64 0, .int .i64 0, .bool false] w fun e w' => e = .returned (.bool true) ∧ w = w' := by
  go_enter Tryd.func32, Tryd.ntmps32
  go_wp2
  go_ret
  exact ⟨rfl, rfl⟩

theorem told_some {w : World} {a : Option Addr} {L : List (Nat × Nat)} {cap k s z : Nat} (hL : L.length ≤ 1048576) (hk : k < L.length) (he : eN L k = (s, z)) (hc : OC w a L) : Calls Tryd.prog 32 #[.slice a L.length cap, .int .i64 k, .int .i64 s, .int .i64 z, .bool true] w fun e w' => e = .returned (.bool true) ∧ w = w' := by
  obtain ⟨g, rfl, e0, e1⟩ := hc k hk
  rw [he] at e0 e1
  have hltI : (k : Int) < (L.length : Int) := by omega
  clear hc he
  dsimp only at e0 e1
  go_enter Tryd.func32, Tryd.ntmps32
  go_wp2
  go_ret
  exact ⟨rfl, rfl⟩

/-- a map, the list beside it, and the box of an act -/
def dA (c p q n : Nat) (sz : Nat → Nat) (L : List (Nat × Nat)) (v : Value) (Y : Nat) (f0 f1 f2 : Int) : Asn := exX c p q n sz (L.length : Nat) * (oA v L * blk Y (.cells #[.int .u8 f0, .int .i64 f1, .int .i64 f2] 53 (0, 0)))
/-- without the box -/
def eA (c p q n : Nat) (sz : Nat → Nat) (L : List (Nat × Nat)) (v : Value) : Asn := exX c p q n sz (L.length : Nat) * oA v L

theorem Rep.le {sz' : Nat → Nat} {L' : List (Nat × Nat)} (h : Rep sz' L') : ∀ k, k < L'.length → k ≤ (eN L' k).1
  | 0, _ => Nat.zero_le _
  | k + 1, hk => by
    have := Rep.le h k (by omega)
    have := h.lt (show k < k + 1 by omega) hk
    omega

theorem Rep.sm {n : Nat} {sz : Nat → Nat} {L : List (Nat × Nat)} (h : Rep sz L) (ok : ExOk n sz) : Sm L ∧ L.length ≤ n := by
  have n2 := ok.n2
  have hlen : L.length ≤ n := by
    rcases Nat.eq_zero_or_pos L.length with e | e
    · omega
    · have h1 := h.le (L.length - 1) (by omega)
      obtain ⟨h2, _⟩ := h.at_ (show L.length - 1 < L.length by omega)
      have := ok.s.fit _ h2; omega
  refine ⟨⟨by omega, fun k hk => ?_⟩, hlen⟩
  obtain ⟨h2, _⟩ := h.at_ hk
  have := (h.mem _ (eN_mem hk)).2
  have := ok.s.fit _ h2; omega

section
variable {w0 w : World} {S : Nat → Prop} {c p q n Y : Nat} {sz : Nat → Nat} {L : List (Nat × Nat)} {v : Value} {f0 f1 f2 : Int}

theorem dA_box (f0 f1 f2 : Int) (h : At (eA c p q n sz L v) w0 S w) : At (dA c p q n sz L v w.heap.size f0 f1 f2) w0 S (w.alloc (.cells #[.int .u8 f0, .int .i64 f1, .int .i64 f2] 53)) :=
  (h.alloc (.cells #[.int .u8 f0, .int .i64 f1, .int .i64 f2] 53)).re (by unfold dA eA; ac_rfl)

theorem dA_end (h : At (dA c p q n sz L v Y f0 f1 f2) w0 S w) : At (eA c p q n sz L v) w0 S w := At.dropr (C := blk Y (.cells #[.int .u8 f0, .int .i64 f1, .int .i64 f2] 53 (0, 0))) (h.re (by unfold dA eA; ac_rfl))

theorem dA_cells {C : Asn} (h : At (C * (oA v L * blk Y (.cells #[.int .u8 f0, .int .i64 f1, .int .i64 f2] 53 (0, 0)))) w0 S w) : w.cell? ⟨Y, 0, none⟩ = some (.int .u8 f0) ∧ w.cell? ⟨Y, 1, none⟩ = some (.int .i64 f1) ∧ w.cell? ⟨Y, 2, none⟩ = some (.int .i64 f2) :=
  vcells (At.blkIs (A := C * oA v L) (h.re (by ac_rfl)))

theorem dA_oc {C D : Asn} (h : At (C * (oA v L * D)) w0 S w) : ∃ a cap, v = .slice a L.length cap ∧ OC w a L :=
  oc_of (C := C * D) (h.re (by ac_rfl))

/-- the act, done by both, leaves the map and the list alike -/
def Alike (c p q n Y : Nat) (f0 f1 f2 : Int) (w0 : World) (S : Nat → Prop) (v : Value) (w : World) : Prop := ∃ (sz : Nat → Nat) (L : List (Nat × Nat)), ExOk n sz ∧ Rep sz L ∧ At (dA c p q n sz L v Y f0 f1 f2) w0 S w

/-- one answer, of both -/
theorem q_find (ok : ExOk n sz) (rep : Rep sz L) (x : Int) (hx : x ≤ 9223372036854775807) {a : Option Addr} {cap : Nat} : ∃ (j : Int) (s z : Nat) (b : Bool),
    (∀ w, Tab w → At (dA c p q n sz L (.slice a L.length cap) Y f0 f1 f2) w0 S w → Calls Tryd.prog 31 #[.pointer (some ⟨c, 0, none⟩), .int .i64 x] w fun e w' => e = .returned (.tuple #[.int .i64 s, .int .i64 z, .bool b]) ∧ w = w') ∧
    (∀ w, At (dA c p q n sz L (.slice a L.length cap) Y f0 f1 f2) w0 S w → Calls Tryd.prog 33 #[.slice a L.length cap, .int .i64 x] w fun e w' => e = .returned (.int .i64 j) ∧ At (dA c p q n sz L (.slice a L.length cap) Y f0 f1 f2) w0 S w') ∧
    (∀ w, At (dA c p q n sz L (.slice a L.length cap) Y f0 f1 f2) w0 S w → Calls Tryd.prog 32 #[.slice a L.length cap, .int .i64 j, .int .i64 s, .int .i64 z, .bool b] w fun e w' => e = .returned (.bool true) ∧ w = w') := by
  obtain ⟨sm, _⟩ := rep.sm ok
  have OCw : ∀ w, At (dA c p q n sz L (.slice a L.length cap) Y f0 f1 f2) w0 S w → OC w a L := fun w h => by
    obtain ⟨a', cap', he, hc⟩ := dA_oc h
    cases he; exact hc
  have RF : ∀ w, At (dA c p q n sz L (.slice a L.length cap) Y f0 f1 f2) w0 S w → Calls Tryd.prog 33 #[.slice a L.length cap, .int .i64 x] w fun e w' => e = .returned (.int .i64 (iV (nxF (hitB L x) 0 L.length))) ∧ At (dA c p q n sz L (.slice a L.length cap) Y f0 f1 f2) w0 S w' := fun w h =>
    (r13_find sm x hx (OCw w h)).mono fun _ _ ⟨e, m, hw⟩ => ⟨e, by rw [hw]; exact h.drewN m⟩
  rcases rep.fd ok.s x with ⟨k, s, e1, hk, e3, _, e4⟩ | ⟨e1, e4⟩
  · rw [e1] at RF
    refine ⟨k, s, sz s, true, fun w hT h => ?_, RF, fun w h => told_some sm.1 hk e3 (OCw w h)⟩
    have := ex_find ok x hT h
    rw [e4] at this; exact this
  · rw [e1] at RF
    refine ⟨-1, 0, 0, false, fun w hT h => ?_, RF, fun w _ => told_none _ w⟩
    have := ex_find ok x hT h
    rw [e4] at this; exact this

theorem q_next (ok : ExOk n sz) (rep : Rep sz L) (x : Int) {a : Option Addr} {cap : Nat} : ∃ (j : Int) (s z : Nat) (b : Bool),
    (∀ w, Tab w → At (dA c p q n sz L (.slice a L.length cap) Y f0 f1 f2) w0 S w → Calls Tryd.prog 34 #[.pointer (some ⟨c, 0, none⟩), .int .i64 x] w fun e w' => e = .returned (.tuple #[.int .i64 s, .int .i64 z, .bool b]) ∧ w = w') ∧
    (∀ w, At (dA c p q n sz L (.slice a L.length cap) Y f0 f1 f2) w0 S w → Calls Tryd.prog 35 #[.slice a L.length cap, .int .i64 x] w fun e w' => e = .returned (.int .i64 j) ∧ w = w') ∧
    (∀ w, At (dA c p q n sz L (.slice a L.length cap) Y f0 f1 f2) w0 S w → Calls Tryd.prog 32 #[.slice a L.length cap, .int .i64 j, .int .i64 s, .int .i64 z, .bool b] w fun e w' => e = .returned (.bool true) ∧ w = w') := by
  obtain ⟨sm, _⟩ := rep.sm ok
  have OCw : ∀ w, At (dA c p q n sz L (.slice a L.length cap) Y f0 f1 f2) w0 S w → OC w a L := fun w h => by
    obtain ⟨a', cap', he, hc⟩ := dA_oc h
    cases he; exact hc
  have RF : ∀ w, At (dA c p q n sz L (.slice a L.length cap) Y f0 f1 f2) w0 S w → Calls Tryd.prog 35 #[.slice a L.length cap, .int .i64 x] w fun e w' => e = .returned (.int .i64 (iV (nxF (geB L x) 0 L.length))) ∧ w = w' := fun w h => r13_next sm x (OCw w h)
  rcases rep.nx ok.s x with ⟨k, s, e1, hk, e3, _, e4⟩ | ⟨e1, e4⟩
  · rw [e1] at RF
    refine ⟨k, s, sz s, true, fun w hT h => ?_, RF, fun w h => told_some sm.1 hk e3 (OCw w h)⟩
    have := ex_next ok x hT h
    rw [e4] at this; exact this
  · rw [e1] at RF
    refine ⟨-1, 0, 0, false, fun w hT h => ?_, RF, fun w _ => told_none _ w⟩
    have := ex_next ok x hT h
    rw [e4] at this; exact this

theorem q_word (ok : ExOk n sz) (hn : n ≤ 1000) (rep : Rep sz L) (x : Int) (hx : x ≤ 9223372036854775807) {a : Option Addr} {cap : Nat} (HT : ∀ (A : Asn) (W : World), At A w0 S W → Tab W) : ∃ (y : Nat) (b : Bool),
    (∀ w, At (dA c p q n sz L (.slice a L.length cap) Y f0 f1 f2) w0 S w → Calls Tryd.prog 36 #[.pointer (some ⟨c, 0, none⟩), .int .i64 x] w fun e w' => e = .returned (.tuple #[.int .i64 y, .bool b]) ∧ At (dA c p q n sz L (.slice a L.length cap) Y f0 f1 f2) w0 S w') ∧
    ((0 ≤ x ∧ x ≤ 100000 ∧ ∀ w, At (dA c p q n sz L (.slice a L.length cap) Y f0 f1 f2) w0 S w → Calls Tryd.prog 37 #[.slice a L.length cap, .int .i64 x] w fun e w' => e = .returned (.tuple #[.int .i64 y, .bool b]) ∧ w = w') ∨
     ((x < 0 ∨ 100000 < x) ∧ y = 0 ∧ b = false ∧ ∀ w, At (dA c p q n sz L (.slice a L.length cap) Y f0 f1 f2) w0 S w → Calls Tryd.prog 37 #[.slice a L.length cap, .int .i64 x] w fun e w' => IsWord e ∧ w = w')) := by
  obtain ⟨sm, _⟩ := rep.sm ok
  have OCw : ∀ w, At (dA c p q n sz L (.slice a L.length cap) Y f0 f1 f2) w0 S w → OC w a L := fun w h => by
    obtain ⟨a', cap', he, hc⟩ := dA_oc h
    cases he; exact hc
  by_cases h0 : x < 0
  · refine ⟨0, false, fun w h => ?_, .inr ⟨.inl h0, rfl, rfl, fun w h => r13_word_any sm x (OCw w h)⟩⟩
    exact (word_neg c x h0 w).mono fun _ _ ⟨e, hb⟩ => ⟨e, At.later h hb⟩
  · obtain ⟨k, rfl⟩ := Int.eq_ofNat_of_zero_le (show 0 ≤ x by omega)
    have WD : ∀ w, At (dA c p q n sz L (.slice a L.length cap) Y f0 f1 f2) w0 S w → Calls Tryd.prog 36 #[.pointer (some ⟨c, 0, none⟩), .int .i64 k] w fun e w' => e = .returned (oV (wdF sz n (n + 1) 0 k)) ∧ At (dA c p q n sz L (.slice a L.length cap) Y f0 f1 f2) w0 S w' := fun w h =>
      callsIn_wide.1 (word_in Wd.wide ok HT k hx h)
    by_cases h1 : (100000 : Int) < (k : Int)
    · have e : wdF sz n (n + 1) 0 k = none := by
        cases e : wdF sz n (n + 1) 0 k with
        | none => rfl
        | some r => have := wdF_lt ok.s _ _ _ _ e; omega
      rw [e] at WD
      exact ⟨0, false, WD, .inr ⟨.inr h1, rfl, rfl, fun w h => r13_word_any sm (k : Int) (OCw w h)⟩⟩
    · refine ⟨(wdF sz n (n + 1) 0 k).getD 0, (wdF sz n (n + 1) 0 k).isSome, WD, .inl ⟨by omega, by omega, fun w h => ?_⟩⟩
      have := r13_word (cap := cap) sm k hx (OCw w h)
      rw [rep.word ok.s k] at this
      exact this
end

open Go.ChangeShapes Go.WideShapes Go.ChangeAt Go.RowKit

section
variable {w0 w : World} {S : Nat → Prop} {c p q n Y : Nat} {sz : Nat → Nat} {L : List (Nat × Nat)} {a : Option Addr} {cap : Nat} {f0 f1 f2 : Int}

theorem dA_oc' (h : At (dA c p q n sz L (.slice a L.length cap) Y f0 f1 f2) w0 S w) : OC w a L := by
  obtain ⟨a', cap', he, hc⟩ := dA_oc h
  cases he; exact hc

/-- both drop the same: the answers, and what then lies there -/
theorem a_drop (ok : ExOk n sz) (hn : n ≤ 1000) (rep : Rep sz L) (hT : Tab w) (h : At (dA c p q n sz L (.slice a L.length cap) Y f0 f1 f2) w0 S w) :
    ∃ (z : Nat) (b : Bool) (M : World → Prop), (Calls Tryd.prog 26 #[.pointer (some ⟨c, 0, none⟩), .int .i64 f1] w fun e w' => e = .returned (.tuple #[.int .i64 z, .bool b]) ∧ M w') ∧
      (∀ w', M w' → w'.cell? ⟨Y, 1, none⟩ = some (.int .i64 f1)) ∧
      ∀ w', M w' → Calls Tryd.prog 27 #[.slice a L.length cap, .int .i64 f1] w' fun e w'' => ∃ (m : Nat) (b' : Option Addr) (c' : Nat), e = .returned (.tuple #[.slice b' m c', .int .i64 z, .bool b]) ∧ Alike c p q n Y f0 f1 f2 w0 S (.slice b' m c') w'' := by
  obtain ⟨sm, hln⟩ := rep.sm ok
  by_cases hd : 0 ≤ f1 ∧ 0 < sz f1.toNat
  · obtain ⟨s, rfl⟩ := Int.eq_ofNat_of_zero_le hd.1
    have h0 : 0 < sz s := by simpa using hd.2
    clear hd
    obtain ⟨ki, hki, eki⟩ := rep.ix h0
    have DN := rep.del_len s h0
    refine ⟨sz s, true, fun w' => At (exX c p q n (putZ sz s 0) ((L.length : Nat) - 1) * (oA (.slice a L.length cap) L * blk Y (.cells #[.int .u8 f0, .int .i64 s, .int .i64 f2] 53 (0, 0)))) w0 S w' ∧ ExOk n (putZ sz s 0), (ex_drop_ok ok s h0 (by omega) hT h).mono fun _ _ ⟨e, k1, k2⟩ => ⟨e, k2, k1⟩, fun w' hw => (dA_cells hw.1).2.1, ?_⟩
    intro w' ⟨hA, ok'⟩
    refine (r13_drop sm (s : Int) (sz s) true (fun k hk e => ?_) (hA.re (B := oA (.slice a L.length cap) L * (exX c p q n (putZ sz s 0) ((L.length : Nat) - 1) * blk Y (.cells #[.int .u8 f0, .int .i64 s, .int .i64 f2] 53 (0, 0)))) (by ac_rfl))).mono ?_
    · have e1 : (eN L k).1 = s := by omega
      have := (rep.mem _ (eN_mem hk)).2
      rw [e1] at this
      exact ⟨this, rfl⟩
    · rintro e w'' ⟨b', c', z, y, rfl, hD, hA2⟩
      have hzy : z = sz s ∧ y = true := by
        rcases hD with ⟨_, h1, h2⟩ | ⟨h1, _⟩
        · exact ⟨h1, h2⟩
        · exact absurd (by rw [eki]) (h1 ki hki)
      obtain ⟨rfl, rfl⟩ := hzy
      refine ⟨(delL L s).length, b', c', rfl, putZ sz s 0, delL L s, ok', rep.del s, ?_⟩
      have e : ((delL L (s : Int)).length : Int) = (L.length : Nat) - 1 := by omega
      unfold dA
      rw [e]
      exact hA2.re (by ac_rfl)
  · have hno : ∀ x, fdI n sz f1 = some x → (x : Int) ≠ f1 := by
      intro x hx e
      unfold fdI at hx
      by_cases hb : 0 ≤ f1 ∧ f1 < (n : Int)
      · rw [if_pos hb] at hx
        obtain ⟨g1, _, _⟩ := fdF_is hx
        exact hd ⟨hb.1, by rw [← e, Int.toNat_natCast]; exact g1⟩
      · rw [if_neg hb] at hx; cases hx
    refine ⟨0, false, fun w' => At (dA c p q n sz L (.slice a L.length cap) Y f0 f1 f2) w0 S w', (ex_drop_no ok f1 hno hT h).mono fun _ _ ⟨e, hw⟩ => ⟨e, hw ▸ h⟩, fun w' hw => (dA_cells hw).2.1, ?_⟩
    intro w' hA
    have hnk : ∀ k, k < L.length → ((eN L k).1 : Int) ≠ f1 := fun k hk e => by
      obtain ⟨g1, _⟩ := rep.at_ hk
      exact hd ⟨by omega, by rw [← e, Int.toNat_natCast]; exact g1⟩
    refine (r13_drop sm f1 0 false (fun k hk e => absurd e (hnk k hk)) (hA.re (B := oA (.slice a L.length cap) L * (exX c p q n sz (L.length : Nat) * blk Y (.cells #[.int .u8 f0, .int .i64 f1, .int .i64 f2] 53 (0, 0)))) (by unfold dA; ac_rfl))).mono ?_
    rintro e w'' ⟨b', c', z, y, rfl, hD, hA2⟩
    have hzy : z = 0 ∧ y = false := by
      rcases hD with ⟨_, h1, h2⟩ | ⟨_, h1, h2⟩
      · exact ⟨h1, h2⟩
      · exact ⟨h1, h2⟩
    obtain ⟨rfl, rfl⟩ := hzy
    have e : delL L f1 = L := rep.del_none f1 (by
      by_cases g : f1 < 0
      · exact .inl g
      · refine .inr ?_
        have : ¬ 0 < sz f1.toNat := fun g2 => hd ⟨by omega, g2⟩
        omega)
    rw [e] at hA2
    rw [e]
    exact ⟨L.length, b', c', rfl, sz, L, ok, rep, hA2.re (by unfold dA; ac_rfl)⟩

/-- both add the same -/
theorem a_add (ok : ExOk n sz) (hn : n ≤ 1000) (rep : Rep sz L) (hf1 : f1 ≤ 9223372036854775807) (hf2 : f2 ≤ 9223372036854775807) (hT : Tab w) (HT : ∀ (A : Asn) (W : World), At A w0 S W → Tab W) (h : At (dA c p q n sz L (.slice a L.length cap) Y f0 f1 f2) w0 S w) :
    ∃ (z : Int) (M : Option Addr → Nat → Nat → World → Prop), (Calls Tryd.prog 29 #[.slice a L.length cap, .int .i64 n, .int .i64 f1, .int .i64 f2] w fun e w' => ∃ (b' : Option Addr) (m c' : Nat), e = .returned (.tuple #[.slice b' m c', .int .i64 z]) ∧ M b' m c' w') ∧
      (∀ b' m c' w', M b' m c' w' → w'.cell? ⟨Y, 1, none⟩ = some (.int .i64 f1) ∧ w'.cell? ⟨Y, 2, none⟩ = some (.int .i64 f2)) ∧
      ∀ b' m c' w', M b' m c' w' → Calls Tryd.prog 30 #[.pointer (some ⟨c, 0, none⟩), .int .i64 f1, .int .i64 f2] w' fun e w'' => e = .returned (.int .i64 z) ∧ Alike c p q n Y f0 f1 f2 w0 S (.slice b' m c') w'' := by
  obtain ⟨sm, hln⟩ := rep.sm ok
  have n2 := ok.n2
  by_cases g1 : f2 < 1
  · refine ⟨15, fun b' m c' w' => b' = a ∧ m = L.length ∧ c' = cap ∧ At (dA c p q n sz L (.slice a L.length cap) Y f0 f1 f2) w0 S w', (r13_add_size (L := L) (n : Int) f1 f2 g1).mono fun _ _ ⟨e, hw⟩ => ⟨_, _, _, e, rfl, rfl, rfl, hw ▸ h⟩, fun b' m c' w' hw => (dA_cells hw.2.2.2).2, ?_⟩
    rintro b' m c' w' ⟨rfl, rfl, rfl, hA⟩
    exact (ex_add_size (c := c) f1 f2 g1).mono fun _ _ ⟨e, hw⟩ => ⟨e, sz, L, ok, rep, hw ▸ hA⟩
  · by_cases g2 : f1 < 0 ∨ (n : Int) - f2 < f1
    · refine ⟨11, fun b' m c' w' => b' = a ∧ m = L.length ∧ c' = cap ∧ At (dA c p q n sz L (.slice a L.length cap) Y f0 f1 f2) w0 S w', (r13_add_range (L := L) n n2 f1 f2 (by omega) (by omega)).mono fun _ _ ⟨e, hw⟩ => ⟨_, _, _, e, rfl, rfl, rfl, hw ▸ h⟩, fun b' m c' w' hw => (dA_cells hw.2.2.2).2, ?_⟩
      rintro b' m c' w' ⟨rfl, rfl, rfl, hA⟩
      exact (ex_add_range ok f1 f2 (by omega) g2 hA).mono fun _ _ ⟨e, hw⟩ => ⟨e, sz, L, ok, rep, hw ▸ hA⟩
    · obtain ⟨s, rfl⟩ := Int.eq_ofNat_of_zero_le (show 0 ≤ f1 by omega)
      obtain ⟨z, rfl⟩ := Int.eq_ofNat_of_zero_le (show 0 ≤ f2 by omega)
      have LA := live_any ok.s (show 0 < z by omega) (show s + z ≤ n by omega)
      have hlv : ∀ j, j < n → lvB L j = lv sz j := fun j hj => rep.lv ok.s j hj
      have NX : nxF (lvB L) s z = nxF (lv sz) s z := by
        rcases nxF_is (p := lv sz) z s with ⟨e, h4⟩ | ⟨r, e, h1, h2, h3, h4⟩
        · rw [e]; exact nxF_none _ _ fun j q1 q2 => by rw [hlv j (by omega)]; exact h4 j q1 q2
        · rw [e]; exact nxF_some _ _ h1 h2 (by rw [hlv r (by omega)]; exact h3) fun j q1 q2 => by rw [hlv j (by omega)]; exact h4 j q1 q2
      rw [← NX] at LA
      cases hl : liveB n sz s z with
      | true =>
        rw [hl] at LA
        refine ⟨7, fun b' m c' w' => b' = a ∧ m = L.length ∧ c' = cap ∧ At (dA c p q n sz L (.slice a L.length cap) Y f0 s z) w0 S w', (r13_add_there sm n s z (by omega) (by omega) n2 LA.symm (dA_oc' h)).mono fun _ _ ⟨e, m, hw⟩ => ⟨_, _, _, e, rfl, rfl, rfl, hw ▸ h.drewN m⟩, fun b' m c' w' hw => (dA_cells hw.2.2.2).2, ?_⟩
        rintro b' m c' w' ⟨rfl, rfl, rfl, hA⟩
        refine (ex_add_in ok s z (by omega) (by omega) (by omega) (HT _ _ hA) hA).mono ?_
        rintro e w'' (⟨_, rfl, hA2⟩ | ⟨hl2, _⟩)
        · exact ⟨rfl, sz, L, ok, rep, hA2⟩
        · rw [hl] at hl2; cases hl2
      | false =>
        rw [hl] at LA
        have LN : nxF (lvB L) s z = none := by
          cases e : nxF (lvB L) s z with
          | none => rfl
          | some r => rw [e] at LA; cases LA
        obtain ⟨_, hz0⟩ := live_free ok.s (show 0 < z by omega) hl
        refine ⟨0, fun b' m c' w' => m = L.length + 1 ∧ At (exX c p q n sz (L.length : Nat) * (oA (.slice b' m c') (insL L s z) * blk Y (.cells #[.int .u8 f0, .int .i64 s, .int .i64 z] 53 (0, 0)))) w0 S w', (r13_add_ok sm n s z (by omega) (by omega) n2 LN (h.re (B := oA (.slice a L.length cap) L * (exX c p q n sz (L.length : Nat) * blk Y (.cells #[.int .u8 f0, .int .i64 s, .int .i64 z] 53 (0, 0)))) (by unfold dA; ac_rfl)) (dA_oc' h)).mono fun _ _ ⟨g, c', e, hA⟩ => ⟨_, _, _, e, rfl, hA.re (by ac_rfl)⟩, fun b' m c' w' hw => (dA_cells hw.2).2, ?_⟩
        rintro b' m c' w' ⟨rfl, hA⟩
        refine (ex_add_in ok s z (by omega) (by omega) (by omega) (HT _ _ hA) hA).mono ?_
        rintro e w'' (⟨hl2, _⟩ | ⟨_, rfl, ok', hA2⟩)
        · rw [hl] at hl2; cases hl2
        · refine ⟨rfl, putZ sz s z, insL L s z, ok', rep.ins (by omega) hz0, ?_⟩
          unfold dA
          rw [insL_len]
          exact hA2

theorem a_wipe (ok : ExOk n sz) (h : At (dA c p q n sz L (.slice a L.length cap) Y f0 f1 f2) w0 S w) :
    Calls Tryd.prog 28 #[.pointer (some ⟨c, 0, none⟩)] w fun e w' => e = .returned (.tuple #[]) ∧ Alike c p q n Y f0 f1 f2 w0 S (.slice none 0 0) w' := by
  refine (ex_wipe ok h).mono fun _ _ ⟨e, hA⟩ => ⟨e, fun _ => 0, [], ex_zero n ok.n1 ok.n2, Rep.nil, ?_⟩
  have h1 := (At.dropr (C := oA (.slice a L.length cap) L) (hA.re (B := (exX c p q n (fun _ => 0) 0 * blk Y (.cells #[.int .u8 f0, .int .i64 f1, .int .i64 f2] 53 (0, 0))) * oA (.slice a L.length cap) L) (by ac_rfl))).own_nil 92 2
  exact h1.re (by unfold dA oA; show own _ _ _ 0 [] * _ = exX c p q n (fun _ => 0) ((0 : Nat) : Int) * (own _ _ _ 0 [] * _); ac_rfl)
end

end Go.Proofs.YtaaapbfhedgnjaaDoor.BV
