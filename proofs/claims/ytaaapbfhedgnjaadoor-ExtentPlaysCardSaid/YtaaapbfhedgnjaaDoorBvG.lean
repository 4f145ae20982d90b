/- A vector of bits (layer 11): Fill, Wipe, Count. -/
import Derived.Test.YtaaapbfhedgnjaaDoorBvM
import Derived.Test.YtaaapbfhedgnjaaDoorBvEf
import Derived.Test.YtaaapbfhedgnjaaDoorBvEw
import Derived.Test.YtaaapbfhedgnjaaDoorBvEc
namespace Go.Proofs.YtaaapbfhedgnjaaDoor.BV
open Go.ChangeShapes Go.WideShapes Go.ChangeAt Go.RowKit

theorem cA_end {w0 w : World} {S : Nat → Prop} {nb vb p g : Nat} {v : Bits} (h : At (cA nb vb p g v) w0 S w) : At (bvA p v) w0 S w :=
  At.dropr (C := blk nb (.cells #[.int .i64 g] 3 (0, 0)) * blk vb (.cells #[.pointer (some ⟨p, 0, none⟩)] 25 (0, 0))) (h.re (by unfold cA; ac_rfl))

theorem eFill : ∀ args w, (callFunc 50 args).run Tryd.prog w = .ok (.enter 50 args) w := enters_of Tryd.func50 (by kernel_rfl) rfl
theorem eWipe : ∀ args w, (callFunc 69 args).run Tryd.prog w = .ok (.enter 69 args) w := enters_of Tryd.func69 (by kernel_rfl) rfl
theorem eCount : ∀ args w, (callFunc 75 args).run Tryd.prog w = .ok (.enter 75 args) w := enters_of Tryd.func75 (by kernel_rfl) rfl

theorem ft_ex (n : Nat) (x y : Int) : ∃ f : Nat, max x 0 = (f : Int) ∧ (min y n ≤ (f : Int) ∨ ∃ t : Nat, min y n = (t : Int) ∧ f < t) := by
  refine ⟨(max x 0).toNat, by omega, ?_⟩
  by_cases h : min y n ≤ max x 0
  · exact .inl (by omega)
  · exact .inr ⟨(min y n).toNat, by omega, by omega⟩

theorem cA_p2 {w0 w : World} {S : Nat → Prop} {nb vb p g : Nat} {v : Bits} (h : At (cA nb vb p g v) w0 S w) : w.cell? ⟨p, 2, none⟩ = some (.int .i64 v.n) := by
  obtain ⟨bw, bu, R, _⟩ := cA_open h
  exact R.c2

theorem lay_none {v : Bits} {x y : Int} (h : min y (v.n : Int) ≤ max x 0) (z : Bool) : v.lay x y z = v := by
  unfold Bits.lay
  rw [show (fun j => if inR v.n x y j then z else v.b j) = v.b from funext fun j => by rw [inR_not (by omega)]; rfl]

theorem off_none {v : Bits} {x y : Int} (h : min y (v.n : Int) ≤ max x 0) (z : Bool) (n : Nat) : cp (offR v.b v.n x y z) n = 0 :=
  cp_none _ n fun j _ => by unfold offR; rw [inR_not (by omega)]; rfl

theorem on_none {v : Bits} {x y : Int} (h : min y (v.n : Int) ≤ max x 0) (n : Nat) : cp (onR v.b v.n x y) n = 0 :=
  cp_none _ n fun j _ => by unfold onR; rw [inR_not (by omega)]; rfl

theorem off_low {b : Nat → Bool} {n f : Nat} {x y : Int} (hf : max x 0 = (f : Int)) (z : Bool) : cp (offR b n x y z) (64 * (f / 64)) = 0 :=
  cp_none _ _ fun j hj => by unfold offR; rw [inR_low hf hj]; rfl

theorem on_low {b : Nat → Bool} {n f : Nat} {x y : Int} (hf : max x 0 = (f : Int)) : cp (onR b n x y) (64 * (f / 64)) = 0 :=
  cp_none _ _ fun j hj => by unfold onR; rw [inR_low hf hj]; rfl

theorem cp_same (p : Nat → Bool) {a b t : Nat} (ha : t ≤ a) (hb : t ≤ b) (h : ∀ j, t ≤ j → p j = false) : cp p a = cp p b :=
  (cp_tail p ha h).trans (cp_tail p hb h).symm

theorem off_high {b : Nat → Bool} {n t : Nat} {x y : Int} (ht : min y n = (t : Int)) (ht0 : 0 < t) (z : Bool) : cp (offR b n x y z) (64 * ((t - 1) / 64 + 1)) = cp (offR b n x y z) n :=
  cp_same _ (t := t) (by omega) (by omega) fun j hj => by unfold offR; rw [inR_not (by omega)]; rfl

theorem on_high {b : Nat → Bool} {n t : Nat} {x y : Int} (ht : min y n = (t : Int)) (ht0 : 0 < t) : cp (onR b n x y) (64 * ((t - 1) / 64 + 1)) = cp (onR b n x y) n :=
  cp_same _ (t := t) (by omega) (by omega) fun j hj => by unfold onR; rw [inR_not (by omega)]; rfl

theorem bits_eq (v : Bits) : ({ v with b := v.b } : Bits) = v := rfl

theorem each_fill {nb vb p : Nat} {v : Bits} (hv : v.ok) (x y : Int) : Tri1 Tryd.prog 49 #[.pointer (some ⟨p, 0, none⟩), .int .i64 x, .int .i64 y, .func (.func 50) #[] #[.pointer (some ⟨nb, 0, none⟩), .pointer (some ⟨vb, 0, none⟩)]]
    (cA nb vb p 0 v) (.tuple #[]) (cA nb vb p (cp (offR v.b v.n x y true) v.n) (v.lay x y true)) := by
  obtain ⟨f, hf, h | ⟨t, ht, hft⟩⟩ := ft_ex v.n x y
  · have h' : min y (v.n : Int) ≤ max x 0 := by rw [hf]; exact h
    rw [lay_none h', off_none h']
    intro w S hA
    refine (bv_each_none hv _ x y h' w w S (cA_p2 (At.refl hA))).mono ?_
    rintro e w' ⟨rfl, n, rfl⟩
    exact ⟨rfl, (At.refl hA).drewN n⟩
  · have n2 := hv.n2
    have K := bv_each (p := p) hv 50 eFill (.pointer (some ⟨nb, 0, none⟩)) (.pointer (some ⟨vb, 0, none⟩)) x y (fun k => cA nb vb p (cp (offR v.b v.n x y true) (64 * k)) { v with b := laidB v.b v.n x y true (64 * k) }) f t hf ht hft (fun w0 S w h => by have := cA_p2 h; exact this) (fun k h1 h2 => by
      have C := bv_fill1 (nb := nb) (vb := vb) (p := p) (g := cp (offR v.b v.n x y true) (64 * k)) (d := cp (fun j => offR v.b v.n x y true (64 * k + j)) 64) (hv.laid x y true (64 * k)) (laidB v.b v.n x y true (64 * (k + 1))) k (runN ((f : Int) - (k : Int) * 64) ((t : Int) - (k : Int) * 64)) (by show k < (v.n + 63) / 64; omega) (runN_lt _ _) (by have := cp_le (offR v.b v.n x y true) (64 * k); omega) (cp64 _) (fun j hj => laidB_other k j hj) (laid_or hf ht k) (cnt_fill hf ht k)
      rw [← cp_add, show 64 * k + 64 = 64 * (k + 1) by omega] at C
      exact C)
    simp only [laid_first hf, laid_last ht, off_low hf, off_high ht (by omega : 0 < t)] at K
    exact K

theorem each_wipe {nb vb p : Nat} {v : Bits} (hv : v.ok) (x y : Int) : Tri1 Tryd.prog 49 #[.pointer (some ⟨p, 0, none⟩), .int .i64 x, .int .i64 y, .func (.func 69) #[] #[.pointer (some ⟨nb, 0, none⟩), .pointer (some ⟨vb, 0, none⟩)]]
    (cA nb vb p 0 v) (.tuple #[]) (cA nb vb p (cp (offR v.b v.n x y false) v.n) (v.lay x y false)) := by
  obtain ⟨f, hf, h | ⟨t, ht, hft⟩⟩ := ft_ex v.n x y
  · have h' : min y (v.n : Int) ≤ max x 0 := by rw [hf]; exact h
    rw [lay_none h', off_none h']
    intro w S hA
    refine (bv_each_none hv _ x y h' w w S (cA_p2 (At.refl hA))).mono ?_
    rintro e w' ⟨rfl, n, rfl⟩
    exact ⟨rfl, (At.refl hA).drewN n⟩
  · have n2 := hv.n2
    have K := bv_each (p := p) hv 69 eWipe (.pointer (some ⟨nb, 0, none⟩)) (.pointer (some ⟨vb, 0, none⟩)) x y (fun k => cA nb vb p (cp (offR v.b v.n x y false) (64 * k)) { v with b := laidB v.b v.n x y false (64 * k) }) f t hf ht hft (fun w0 S w h => by have := cA_p2 h; exact this) (fun k h1 h2 => by
      have C := bv_wipe1 (nb := nb) (vb := vb) (p := p) (g := cp (offR v.b v.n x y false) (64 * k)) (d := cp (fun j => offR v.b v.n x y false (64 * k + j)) 64) (hv.laid x y false (64 * k)) (laidB v.b v.n x y false (64 * (k + 1))) k (runN ((f : Int) - (k : Int) * 64) ((t : Int) - (k : Int) * 64)) (by show k < (v.n + 63) / 64; omega) (runN_lt _ _) (by have := cp_le (offR v.b v.n x y false) (64 * k); omega) (cp64 _) (fun j hj => laidB_other k j hj) (laid_andn hf ht k) (cnt_wipe hf ht k)
      rw [← cp_add, show 64 * k + 64 = 64 * (k + 1) by omega] at C
      exact C)
    simp only [laid_first hf, laid_last ht, off_low hf, off_high ht (by omega : 0 < t)] at K
    exact K

theorem each_count {nb vb p : Nat} {v : Bits} (hv : v.ok) (x y : Int) : Tri1 Tryd.prog 49 #[.pointer (some ⟨p, 0, none⟩), .int .i64 x, .int .i64 y, .func (.func 75) #[] #[.pointer (some ⟨nb, 0, none⟩), .pointer (some ⟨vb, 0, none⟩)]]
    (cA nb vb p 0 v) (.tuple #[]) (cA nb vb p (cp (onR v.b v.n x y) v.n) v) := by
  obtain ⟨f, hf, h | ⟨t, ht, hft⟩⟩ := ft_ex v.n x y
  · have h' : min y (v.n : Int) ≤ max x 0 := by rw [hf]; exact h
    rw [on_none h']
    intro w S hA
    refine (bv_each_none hv _ x y h' w w S (cA_p2 (At.refl hA))).mono ?_
    rintro e w' ⟨rfl, n, rfl⟩
    exact ⟨rfl, (At.refl hA).drewN n⟩
  · have n2 := hv.n2
    have K := bv_each (p := p) hv 75 eCount (.pointer (some ⟨nb, 0, none⟩)) (.pointer (some ⟨vb, 0, none⟩)) x y (fun k => cA nb vb p (cp (onR v.b v.n x y) (64 * k)) v) f t hf ht hft (fun w0 S w h => by have := cA_p2 h; exact this) (fun k h1 h2 => by
      have C := bv_count1 (nb := nb) (vb := vb) (p := p) (g := cp (onR v.b v.n x y) (64 * k)) (d := cp (fun j => onR v.b v.n x y (64 * k + j)) 64) hv k (runN ((f : Int) - (k : Int) * 64) ((t : Int) - (k : Int) * 64)) (by show k < (v.n + 63) / 64; omega) (runN_lt _ _) (by have := cp_le (onR v.b v.n x y) (64 * k); omega) (cp64 _) (cnt_count hf ht k)
      rw [← cp_add, show 64 * k + 64 = 64 * (k + 1) by omega] at C
      exact C)
    simp only [on_low hf, on_high ht (by omega : 0 < t)] at K
    exact K

set_option maxRecDepth 100000 in
theorem bv_fill {p : Nat} {v : Bits} (hv : v.ok) (x y : Int) : Tri1 Tryd.prog 13 #[.pointer (some ⟨p, 0, none⟩), .int .i64 x, .int .i64 y] (bvA p v) (.int .i64 (cp (offR v.b v.n x y true) v.n : Nat)) (bvA p (v.lay x y true)) := by
  intro w S h
  have A0 := ((At.refl h).alloc (.cells #[.pointer (some ⟨p, 0, none⟩)] 25)).alloc (.cells #[.int .i64 ((0 : Nat) : Int)] 3)
  rw [World.size_alloc] at A0
  have A1 : At (cA (w.heap.size + 1) w.heap.size p 0 v) w S ((w.alloc (.cells #[.pointer (some ⟨p, 0, none⟩)] 25)).alloc (.cells #[.int .i64 0] 3)) := A0
  have E := each_fill (nb := w.heap.size + 1) (vb := w.heap.size) (p := p) hv x y
  have hmf : ∀ (fn : Fn) (first cap : Array Value) (w : World), (Instr.makeFunc fn first cap).run Tryd.prog w = .ok (.func fn first cap) w := fun _ _ _ _ => rfl
  have hb : cp (offR v.b v.n x y true) v.n ≤ 1048576 := Nat.le_trans (cp_le _ _) hv.n2
  have C := Lib.hid (A1.tri0 E)
  generalize cp (offR v.b v.n x y true) v.n = G at *
  generalize v.lay x y true = v2 at *
  clear h A0 A1 E hv
  go_enter Tryd.func13, Tryd.ntmps13
  go_wp2_with fail
  refine C.out.mono ?_
  rintro e w2 ⟨rfl, hA⟩
  obtain ⟨n0, n1, n2, n3⟩ := cA_cells hA
  have FIN := Lib.hid (cA_end hA)
  clear C hA
  go_wp2_with fail
  go_ret
  exact ⟨rfl, FIN.out⟩

set_option maxRecDepth 100000 in
theorem bv_wipe {p : Nat} {v : Bits} (hv : v.ok) (x y : Int) : Tri1 Tryd.prog 58 #[.pointer (some ⟨p, 0, none⟩), .int .i64 x, .int .i64 y] (bvA p v) (.int .i64 (cp (offR v.b v.n x y false) v.n : Nat)) (bvA p (v.lay x y false)) := by
  intro w S h
  have A0 := ((At.refl h).alloc (.cells #[.pointer (some ⟨p, 0, none⟩)] 25)).alloc (.cells #[.int .i64 ((0 : Nat) : Int)] 3)
  rw [World.size_alloc] at A0
  have A1 : At (cA (w.heap.size + 1) w.heap.size p 0 v) w S ((w.alloc (.cells #[.pointer (some ⟨p, 0, none⟩)] 25)).alloc (.cells #[.int .i64 0] 3)) := A0
  have E := each_wipe (nb := w.heap.size + 1) (vb := w.heap.size) (p := p) hv x y
  have hmf : ∀ (fn : Fn) (first cap : Array Value) (w : World), (Instr.makeFunc fn first cap).run Tryd.prog w = .ok (.func fn first cap) w := fun _ _ _ _ => rfl
  have hb : cp (offR v.b v.n x y false) v.n ≤ 1048576 := Nat.le_trans (cp_le _ _) hv.n2
  have C := Lib.hid (A1.tri0 E)
  generalize cp (offR v.b v.n x y false) v.n = G at *
  generalize v.lay x y false = v2 at *
  clear h A0 A1 E hv
  go_enter Tryd.func58, Tryd.ntmps58
  go_wp2_with fail
  refine C.out.mono ?_
  rintro e w2 ⟨rfl, hA⟩
  obtain ⟨n0, n1, n2, n3⟩ := cA_cells hA
  have FIN := Lib.hid (cA_end hA)
  clear C hA
  go_wp2_with fail
  go_ret
  exact ⟨rfl, FIN.out⟩

set_option maxRecDepth 100000 in
theorem bv_count {p : Nat} {v : Bits} (hv : v.ok) (x y : Int) : Tri1 Tryd.prog 70 #[.pointer (some ⟨p, 0, none⟩), .int .i64 x, .int .i64 y] (bvA p v) (.int .i64 (cp (onR v.b v.n x y) v.n : Nat)) (bvA p v) := by
  intro w S h
  have A0 := ((At.refl h).alloc (.cells #[.pointer (some ⟨p, 0, none⟩)] 25)).alloc (.cells #[.int .i64 ((0 : Nat) : Int)] 3)
  rw [World.size_alloc] at A0
  have A1 : At (cA (w.heap.size + 1) w.heap.size p 0 v) w S ((w.alloc (.cells #[.pointer (some ⟨p, 0, none⟩)] 25)).alloc (.cells #[.int .i64 0] 3)) := A0
  have E := each_count (nb := w.heap.size + 1) (vb := w.heap.size) (p := p) hv x y
  have hmf : ∀ (fn : Fn) (first cap : Array Value) (w : World), (Instr.makeFunc fn first cap).run Tryd.prog w = .ok (.func fn first cap) w := fun _ _ _ _ => rfl
  have hb : cp (onR v.b v.n x y) v.n ≤ 1048576 := Nat.le_trans (cp_le _ _) hv.n2
  have C := Lib.hid (A1.tri0 E)
  generalize cp (onR v.b v.n x y) v.n = G at *
  clear h A0 A1 E hv
  go_enter Tryd.func70, Tryd.ntmps70
  go_wp2_with fail
  refine C.out.mono ?_
  rintro e w2 ⟨rfl, hA⟩
  obtain ⟨n0, n1, n2, n3⟩ := cA_cells hA
  have FIN := Lib.hid (cA_end hA)
  clear C hA
  go_wp2_with fail
  go_ret
  exact ⟨rfl, FIN.out⟩

end Go.Proofs.YtaaapbfhedgnjaaDoor.BV
