/- A paged memory (layer 9): Need. -/
import Derived.Test.YtflkbefiopnigabDoorVmD
namespace Go.Proofs.YtflkbefiopnigabDoor.VM
open Go.ChangeShapes Go.WideShapes Go.ChangeAt Go.RowKit
open PT (QS upd pmA newQ)

def natV (l : List Nat) : List Value := l.map (fun n : Nat => Value.int .i64 n)

/-- the memory, the variable that holds it, the pages that Need has mapped in another one -/
def ndX (p mv av : Nat) (m : MV) (l : List Nat) (v : Value) : Asn :=
  blk mv (.cells #[.pointer (some ⟨p, 0, none⟩)] 26 (0, 0)) * (blk av (.cells #[v] 91 (0, 0)) * (own 3 1 v l.length (natV l) * memA p m))

def ndA (p mv av : Nat) (m : MV) (l : List Nat) : Asn := exa fun v => ndX p mv av m l v

theorem ndA_of {w0 w : World} {S : Nat → Prop} {p mv av : Nat} {m : MV} {l : List Nat} (v : Value) (h : At (ndX p mv av m l v) w0 S w) : At (ndA p mv av m l) w0 S w :=
  At.ofex (A := fun v => ndX p mv av m l v) v h

structure NdR (w : World) (p mv av : Nat) (l : List Nat) (a : Option Addr) (cap : Nat) : Prop where
  cm : w.cell? ⟨mv, 0, none⟩ = some (.pointer (some ⟨p, 0, none⟩))
  ca : w.cell? ⟨av, 0, none⟩ = some (.slice a l.length cap)
  fa : w.frozen? ⟨av, 0, none⟩ = false
  oL : w.ownsRow 0 3 1 (.slice a l.length cap) l.length (natV l)
  el : ∀ k, k < l.length → ∃ g, a = some ⟨g, 0, none⟩ ∧ w.cell? ⟨g, k, none⟩ = some (.int .i64 (l.getD k 0 : Nat))

theorem nd_open {w0 w : World} {S : Nat → Prop} {p mv av : Nat} {m : MV} {l : List Nat} (h : At (ndA p mv av m l) w0 S w) : ∃ a cap, At (ndX p mv av m l (.slice a l.length cap)) w0 S w ∧ NdR w p mv av l a cap := by
  obtain ⟨v, h⟩ := h.exaIs
  have hm := At.blkIs h
  have ha := At.blkIs (h.re (B := blk av (.cells #[v] 91 (0, 0)) * (blk mv (.cells #[.pointer (some ⟨p, 0, none⟩)] 26 (0, 0)) * (own 3 1 v l.length (natV l) * memA p m))) (by unfold ndX; ac_rfl))
  have oL := At.ownIs (h.re (B := own 3 1 v l.length (natV l) * (blk mv (.cells #[.pointer (some ⟨p, 0, none⟩)] 26 (0, 0)) * (blk av (.cells #[v] 91 (0, 0)) * memA p m))) (by unfold ndX; ac_rfl))
  obtain ⟨a, cap, rfl⟩ := own_form' oL
  refine ⟨a, cap, h, ⟨by simp [World.cell?, hm], by simp [World.cell?, ha], by simp [World.frozen?, ha], oL, fun k hk => ?_⟩⟩
  have h0 := oL
  rcases oL.2 with ⟨h1, h2⟩ | ⟨g, cap', cur, hv, _⟩
  · omega
  · cases hv
    refine ⟨g, rfl, ?_⟩
    rw [World.ownsRow.cellAt h0 k (by omega)]
    unfold natV
    rw [List.getElem?_map]
    simp [List.getD_eq_getElem?_getD, hk]

theorem nd_mem {w0 w : World} {S : Nat → Prop} {p mv av : Nat} {m m' : MV} {l : List Nat} {v : Value} {fn : FuncId} {args : Array Value} {r : Value} (T : Tri1 Tryd.prog fn args (memA p m) r (memA p m')) (h : At (ndX p mv av m l v) w0 S w) : Calls Tryd.prog fn args w fun e w' => e = .returned r ∧ At (ndX p mv av m' l v) w0 S w' :=
  (At.tri1 (C := blk mv (.cells #[.pointer (some ⟨p, 0, none⟩)] 26 (0, 0)) * (blk av (.cells #[v] 91 (0, 0)) * own 3 1 v l.length (natV l))) (h.re (by unfold ndX; ac_rfl)) T).mono fun _ _ ⟨a, b⟩ => ⟨a, b.re (by unfold ndX; ac_rfl)⟩

theorem nd_ask {w0 w : World} {S : Nat → Prop} {p mv av : Nat} {m : MV} {l : List Nat} {v : Value} {fn : FuncId} {args : Array Value} {r : Value} (T : Ask Tryd.prog fn args (memA p m) r) (h : At (ndX p mv av m l v) w0 S w) : Calls Tryd.prog fn args w fun e w' => e = .returned r ∧ w = w' :=
  At.ask (C := blk mv (.cells #[.pointer (some ⟨p, 0, none⟩)] 26 (0, 0)) * (blk av (.cells #[v] 91 (0, 0)) * own 3 1 v l.length (natV l))) (h.re (by unfold ndX; ac_rfl)) T

theorem nd_end {w0 w : World} {S : Nat → Prop} {p mv av : Nat} {m : MV} {l : List Nat} (h : At (ndA p mv av m l) w0 S w) : At (memA p m) w0 S w := by
  obtain ⟨v, h⟩ := h.exaIs
  exact (h.re (B := memA p m * (blk mv (.cells #[.pointer (some ⟨p, 0, none⟩)] 26 (0, 0)) * (blk av (.cells #[v] 91 (0, 0)) * own 3 1 v l.length (natV l)))) (by unfold ndX; ac_rfl)).dropr

theorem nd_three {w0 w : World} {S : Nat → Prop} {p mv av g cap ix x : Nat} {m : MV} {l : List Nat} (hx : l.getD ix 0 = x) (hi : ix < l.length) (h : At (ndX p mv av m l (.slice (some ⟨g, 0, none⟩) l.length cap)) w0 S w) :
    w.cell? ⟨mv, 0, none⟩ = some (.pointer (some ⟨p, 0, none⟩)) ∧ w.cell? ⟨av, 0, none⟩ = some (.slice (some ⟨g, 0, none⟩) l.length cap) ∧ w.cell? ⟨g, ix, none⟩ = some (.int .i64 (x : Nat)) := by
  have hm := At.blkIs h
  have ha := At.blkIs (h.re (B := blk av (.cells #[.slice (some ⟨g, 0, none⟩) l.length cap] 91 (0, 0)) * (blk mv (.cells #[.pointer (some ⟨p, 0, none⟩)] 26 (0, 0)) * (own 3 1 (.slice (some ⟨g, 0, none⟩) l.length cap) l.length (natV l) * memA p m))) (by unfold ndX; ac_rfl))
  have oL := At.ownIs (h.re (B := own 3 1 (.slice (some ⟨g, 0, none⟩) l.length cap) l.length (natV l) * (blk mv (.cells #[.pointer (some ⟨p, 0, none⟩)] 26 (0, 0)) * (blk av (.cells #[.slice (some ⟨g, 0, none⟩) l.length cap] 91 (0, 0)) * memA p m))) (by unfold ndX; ac_rfl))
  refine ⟨by simp [World.cell?, hm], by simp [World.cell?, ha], ?_⟩
  rw [World.ownsRow.cellAt oL ix (by omega), ← hx]
  unfold natV
  rw [List.getElem?_map]
  simp [List.getD_eq_getElem?_getD, hi]

set_option maxRecDepth 100000 in
set_option maxHeartbeats 2000000 in
/-- the pages are unmapped again -/
theorem vm_undo {p mv av : Nat} {m : MV} (hm : m.ok) (l : List Nat) (nd : l.Nodup) (hl : ∀ x ∈ l, m.mp x = true) (hb : l.length ≤ 1000000) : Tri1 Tryd.prog 55 #[.pointer (some ⟨av, 0, none⟩), .pointer (some ⟨mv, 0, none⟩)] (ndA p mv av m l) (.tuple #[]) (ndA p mv av (undoM m l l.length) l) := by
  intro w S h
  have A0 := Lib.hid (At.refl h)
  obtain ⟨a0, cap0, _, R0⟩ := nd_open (At.refl h)
  have ca0 := R0.ca
  have HM := Lib.hid hm
  have ND := Lib.hid nd
  have HL := Lib.hid hl
  clear h R0 hm nd hl
  go_enter Tryd.func55, Tryd.ntmps55
  go_wp2
  clear ca0
  go_loopw [5] (fun v wr => ∃ k : Nat, v = .int .i64 k ∧ k ≤ l.length ∧ Hid (At (ndA p mv av (undoM m l k) l) w S wr)) (fun v _ => l.length - (intOf v).toNat)
  case atStart => exact ⟨0, rfl, Nat.zero_le _, A0⟩
  case round =>
    clear A0
    obtain ⟨k, rfl, hk, HA⟩ := hrel
    by_cases hlt : k < l.length
    · have hltI : (k : Int) < (l.length : Int) := by omega
      obtain ⟨a, cap, hX, R⟩ := nd_open HA.out
      have ca := R.ca
      have cm := R.cm
      obtain ⟨g, rfl, ce⟩ := R.el (l.length - 1 - k) (by omega)
      have W1 : IntKind.i64.wrap ((l.length : Int) - 1) = ((l.length - 1 : Nat) : Int) := by rw [show (l.length : Int) - 1 = ((l.length - 1 : Nat) : Int) by omega]; exact IntWalk.i64_in _ (by omega)
      have W2 : IntKind.i64.wrap (((l.length - 1 : Nat) : Int) - (k : Int)) = ((l.length - 1 - k : Nat) : Int) := by rw [show ((l.length - 1 : Nat) : Int) - (k : Int) = ((l.length - 1 - k : Nat) : Int) by omega]; exact IntWalk.i64_in _ (by omega)
      have U := vm_unmap_ok (p := p) (undoM_ok HM.out l k) (l.getD (l.length - 1 - k) 0) (undo_next ND.out HL.out k hlt)
      have UU := Lib.hid (nd_mem U hX.drew)
      have hth : ∀ (mm : MV) w', At (ndX p mv av mm l (.slice (some ⟨g, 0, none⟩) l.length cap)) w S w' → _ := fun mm w' h' => nd_three rfl (show l.length - 1 - k < l.length by omega) h'
      have HX := hX
      have FIN : Hid (∀ w', At (ndX p mv av ((undoM m l k).unmap (l.getD (l.length - 1 - k) 0)) l (.slice (some ⟨g, 0, none⟩) l.length cap)) w S w' → At (ndA p mv av (undoM m l (k + 1)) l) w S w') := Lib.hid fun w' h' => ndA_of _ h'
      have i1 : l.length - 1 - k < l.length := by omega
      generalize (undoM m l k).unmap (l.getD (l.length - 1 - k) 0) = m1 at *
      generalize l.getD (l.length - 1 - k) 0 = x at *
      generalize l.length - 1 - k = ix at *
      clear R U HA hX
      have hc3 := hth _ _ HX
      clear HX
      have i2 : (ix : Int) < (l.length : Int) := by omega
      have HW1 := Lib.hid W1
      go_wp2
      go_region_held3 (fun w' => w'.cell? ⟨mv, 0, none⟩ = some (.pointer (some ⟨p, 0, none⟩)) ∧ w'.cell? ⟨av, 0, none⟩ = some (.slice (some ⟨g, 0, none⟩) l.length cap) ∧ w'.cell? ⟨g, ix, none⟩ = some (.int .i64 (x : Nat))) (first | exact hc3 | exact hth _ _ (by assumption)) (first | (go_at_call 14; with_reducible refine UU.out.mono ?_; rintro e1 w1 ⟨rfl, hA⟩))
      all_goals go_wp2
      all_goals exact ⟨⟨k + 1, by go_num, by omega, Lib.hid (FIN.out _ hA)⟩, by simp [intOf]; omega⟩
    · obtain rfl : k = l.length := by omega
      go_wp2
      go_end0
      exact ⟨rfl, HA.out⟩

end Go.Proofs.YtflkbefiopnigabDoor.VM
