/- A paged memory (layer 9): New. -/
import Derived.Test.YtflkbefiopnigabDoorVmB
import Derived.Test.YtflkbefiopnigabDoorMkA
namespace Go.Proofs.YtflkbefiopnigabDoor.VM
open Go.ChangeShapes Go.WideShapes Go.ChangeAt Go.RowKit
open PT (QS upd pmA newQ)

/-- a call whose contract is known at this world -/
theorem triw {P : Program} {f : FuncId} {args : Array Value} {A C : Asn} {X : Type} {v : X → Value} {B : X → Asn} {w0 w : World} {S0 : Nat → Prop} (h : At (A * C) w0 S0 w) (t : ∀ S, A.holds w S → Calls P f args w fun e w' => ∃ x, e = .returned (v x) ∧ At (B x) w S w') :
    Calls P f args w fun e w' => ∃ x, e = .returned (v x) ∧ At (B x * C) w0 S0 w' := by
  obtain ⟨S, ⟨S1, S2, a, c, d, hS⟩, b, hf⟩ := h
  refine (t S1 a).mono ?_
  rintro e w' ⟨x, he, k⟩
  refine ⟨x, he, ?_⟩
  have H : At (A * C) w0 S0 w := ⟨S, ⟨S1, S2, a, c, d, hS⟩, b, hf⟩
  have K : At (B x * C) w S w' := by
    obtain ⟨S', a', b', hf'⟩ := k
    refine ⟨fun k => S' k ∨ S2 k, ⟨S', S2, a', C.keep c (fun k hk => hf'.block k (C.lt c k hk) (fun h => d k h hk)), ?_, fun k => Iff.rfl⟩, ?_, hf'.mono fun q h => (hS q).2 (.inl h)⟩
    · intro k hk h2
      rcases b' k hk with h | h
      · exact d k h h2
      · have := C.lt c k h2; omega
    · rintro k (hk | hk)
      · rcases b' k hk with h | h
        · exact .inl ((hS k).2 (.inl h))
        · exact .inr h
      · exact .inl ((hS k).2 (.inr hk))
  have hs := hf.size
  obtain ⟨S', a', b', hf'⟩ := K
  refine ⟨S', a', fun k hk => ?_, hf.trans hf' fun q hq hS => ?_⟩
  · rcases b' k hk with h | h
    · exact b k h
    · exact .inr (by omega)
  · rcases b q hS with h | h
    · exact h
    · omega

theorem Tab.blk {w : World} (h : Tab w) : 1 < w.heap.size := World.block_lt_of_cell? w ⟨1, 0, none⟩ (h 0 (by omega))

theorem Tab.frame {A : Asn} {W w : World} (hT : Tab W) (h : At A W (fun _ => False) w) : Tab w := fun j hj => by
  rw [h.below.cell (p := ⟨1, j, none⟩) (Tab.blk hT)]
  exact hT j hj

theorem page_bit (sh : Nat) (h : sh ≤ 8) : Lib.ctz 64 ((2 ^ sh) &&& runN 0 64) = sh := by
  have : sh = 0 ∨ sh = 1 ∨ sh = 2 ∨ sh = 3 ∨ sh = 4 ∨ sh = 5 ∨ sh = 6 ∨ sh = 7 ∨ sh = 8 := by omega
  rcases this with rfl | rfl | rfl | rfl | rfl | rfl | rfl | rfl | rfl <;> decide +kernel

theorem powP_sh {n : Nat} (h : powP n) : ∃ sh, n = 2 ^ sh ∧ sh ≤ 8 := by
  rcases h with rfl | rfl | rfl | rfl | rfl | rfl | rfl | rfl | rfl
  · exact ⟨0, rfl, by omega⟩
  · exact ⟨1, rfl, by omega⟩
  · exact ⟨2, rfl, by omega⟩
  · exact ⟨3, rfl, by omega⟩
  · exact ⟨4, rfl, by omega⟩
  · exact ⟨5, rfl, by omega⟩
  · exact ⟨6, rfl, by omega⟩
  · exact ⟨7, rfl, by omega⟩
  · exact ⟨8, rfl, by omega⟩

def newM (words page room : Nat) : MV := { words, page, room, mp := fun _ => false, val := fun _ _ => 0, used := 0, high := 0 }

theorem newM_ok (words page room : Nat) (h1 : 1 ≤ room) (h2 : room ≤ 4096) (hp : powP page) (w1 : 1 ≤ words) (w2 : words ≤ 524288) (hd : words % page = 0) : (newM words page room).ok where
  w1 := w1
  w2 := w2
  pg := hp
  dv := by
    show words / page * page = words
    have := Nat.div_add_mod words page
    rw [hd, Nat.add_zero, Nat.mul_comm] at this; exact this
  r1 := h1
  r2 := h2
  ur := Nat.zero_le _
  uh := Nat.zero_le _
  hr := Nat.zero_le _
  mb := fun p h => by cases h

theorem vm_new_fin {w0 w : World} {S : Nat → Prop} {c t sh words page room : Nat} (v : VI (newM words page room) (newP room page) (newQ (words / page))) (e : page = 2 ^ sh) (e8 : sh ≤ 8) (h : At (pmA t (newQ (words / page)) * poolA c (newP room page)) w0 S w) :
    At (memA w.heap.size (newM words page room)) w0 S (w.alloc (.cells #[.pointer (some ⟨c, 0, none⟩), .pointer (some ⟨t, 0, none⟩), .int .i64 words, .int .i64 page, .int .i64 sh] 90)) := by
  refine memA_shut (sh := sh) (c := c) (t := t) v e e8 ?_
  exact (h.alloc _).re (by unfold mX mH; show blk _ _ * _ = blk _ _ * _; ac_rfl)

set_option maxRecDepth 100000 in
theorem vm_new_ok (words page room : Nat) (h1 : 1 ≤ room) (h2 : room ≤ 4096) (hp : powP page) (w1 : 1 ≤ words) (w2 : words ≤ 524288) (hd : words % page = 0) (w : World) (hT : Tab w) (S : Nat → Prop) (h : (pur True).holds w S) :
    Calls Tryd.prog 10 #[.int .i64 words, .int .i64 page, .int .i64 room] w fun e w' => ∃ p : Nat, e = .returned (.tuple #[.pointer (some ⟨p, 0, none⟩), .int .i64 0]) ∧ At (memA p (newM words page room)) w S w' := by
  have mo := newM_ok words page room h1 h2 hp w1 w2 hd
  have n1 := mo.n1
  have n2 := mo.n2
  have e5 : (newM words page room).pages = words / page := rfl
  rw [e5] at n1 n2
  have vi := VI.new words page room h1 h2 hp w2 n1
  obtain ⟨sh, es, e8⟩ := powP_sh hp
  have hp2 := powP_le hp
  have N1 := Lib.hid ((At.refl h).trix (fm_new_ok room page h1 h2 hp))
  have N2 := Lib.hid (PT.pm_new (words / page) n1 n2)
  have hem : ∀ k, ¬ S k := h.2
  have TB : Hid (∀ A w', At A w S w' → Tab w') := Lib.hid fun A w' H => Tab.frame hT (A := A) (by
    obtain ⟨S', a, b, f⟩ := H
    exact ⟨S', a, fun k hk => (b k hk).imp (fun g => hem k g) id, f.mono fun q g => hem q g⟩)
  have NX := fun w' (hT' : Tab w') => next_any page (by omega) 0 w' hT'
  rw [es, page_bit sh e8, ← es] at NX
  have NX := Lib.hid NX
  have q1 : (words : Int).tmod (page : Int) = 0 := by
    rw [Int.tmod_eq_emod_of_nonneg (by omega)]; omega
  have q2 : (words : Int) % (page : Int) = 0 := by omega
  have q3 : (words : Int).tdiv (page : Int) = ((words / page : Nat) : Int) := by
    rw [Int.tdiv_eq_ediv_of_nonneg (by omega)]; rfl
  have q4 : (words : Int) / (page : Int) = ((words / page : Nat) : Int) := rfl
  have FIN : Hid (∀ w' c t, At (pmA t (newQ (words / page)) * poolA c (newP room page)) w S w' → At (memA w'.heap.size (newM words page room)) w S (w'.alloc (.cells #[.pointer (some ⟨c, 0, none⟩), .pointer (some ⟨t, 0, none⟩), .int .i64 words, .int .i64 page, .int .i64 sh] 90))) := Lib.hid fun w' c t H => vm_new_fin vi es e8 H
  clear h mo vi e5 hd es hT hem
  go_enter Tryd.func10, Tryd.ntmps10
  go_wp2_with fail
  refine N1.out.mono ?_
  rintro e wa ⟨c, rfl, a1⟩
  have C2 := Lib.hid ((a1.unit.re (B := pur True * poolA c (newP room page)) (by ac_rfl)).tri N2.out)
  clear a1 N1 N2
  generalize words / page = pgs at *
  go_wp2_with fail
  refine C2.out.mono ?_
  rintro e wb ⟨t, rfl, a2⟩
  have TW := Lib.hid (TB.out _ _ a2)
  have FF := Lib.hid (FIN.out _ _ _ a2)
  clear a2 C2 FIN TB
  go_wp2_with (go_at_call 54; with_reducible refine (NX.out _ TW.out).mono ?_; rintro e1 w1 ⟨rfl, rfl⟩)
  go_ret2
  exact ⟨_, rfl, FF.out⟩

end Go.Proofs.YtflkbefiopnigabDoor.VM
