/- The laws of the bit vector: one act on the vector and on the reference. -/
import Derived.Test.YtflkbefiopnigacDoorBvS
import Derived.Test.YtflkbefiopnigacDoorBvL
namespace Go.Proofs.YtflkbefiopnigacDoor.BV
open Go.ChangeShapes Go.WideShapes Go.ChangeAt Go.RowKit

/-- vector, reference, and the boxed act -/
def dnA (c q Y : Nat) (v : Bits) (b : Nat → Bool) (f0 f1 f2 : Int) : Asn := bvA c v * (lA q v.n b * blk Y (.cells #[.int .u8 f0, .int .i64 f1, .int .i64 f2] 31 (0, 0)))

section
variable {w0 w : World} {S : Nat → Prop} {c q Y : Nat} {v v' : Bits} {b b' : Nat → Bool} {f0 f1 f2 : Int} {fn : FuncId} {args : Array Value} {r : Value}

theorem dn_bv (T : Tri1 Tryd.prog fn args (bvA c v) r (bvA c v')) (hn : v'.n = v.n) (h : At (dnA c q Y v b f0 f1 f2) w0 S w) : Calls Tryd.prog fn args w fun e w' => e = .returned r ∧ At (dnA c q Y v' b f0 f1 f2) w0 S w' := by
  have := At.tri1 h T
  unfold dnA
  rw [hn]
  exact this

theorem dn_l (T : Tri1 Tryd.prog fn args (lA q v.n b) r (lA q v.n b')) (h : At (dnA c q Y v b f0 f1 f2) w0 S w) : Calls Tryd.prog fn args w fun e w' => e = .returned r ∧ At (dnA c q Y v b' f0 f1 f2) w0 S w' :=
  (At.tri1 (C := bvA c v * blk Y (.cells #[.int .u8 f0, .int .i64 f1, .int .i64 f2] 31 (0, 0))) (h.re (by unfold dnA; ac_rfl)) T).mono fun _ _ ⟨a, b⟩ => ⟨a, b.re (by unfold dnA; ac_rfl)⟩

theorem dn_cells (h : At (dnA c q Y v b f0 f1 f2) w0 S w) : w.cell? ⟨Y, 0, none⟩ = some (.int .u8 f0) ∧ w.cell? ⟨Y, 1, none⟩ = some (.int .i64 f1) ∧ w.cell? ⟨Y, 2, none⟩ = some (.int .i64 f2) :=
  vcells (At.blkIs (A := bvA c v * lA q v.n b) (h.re (by unfold dnA; ac_rfl)))

theorem dn_two (h : At (dnA c q Y v b f0 f1 f2) w0 S w) : w.cell? ⟨Y, 1, none⟩ = some (.int .i64 f1) ∧ w.cell? ⟨Y, 2, none⟩ = some (.int .i64 f2) := (dn_cells h).2

theorem dn_end (h : At (dnA c q Y v b f0 f1 f2) w0 S w) : At (bvA c v * lA q v.n b) w0 S w :=
  At.dropr (C := blk Y (.cells #[.int .u8 f0, .int .i64 f1, .int .i64 f2] 31 (0, 0))) (h.re (by unfold dnA; ac_rfl))
end

set_option maxHeartbeats 4000000 in
set_option maxRecDepth 100000 in
theorem done_fill {c q : Nat} {v : Bits} (hv : v.ok) (f0 f1 f2 : Int) (hk : f0 % 4 = 2) (hb0 : 0 ≤ f0 ∧ f0 ≤ 255) : Tri1 Tryd.prog 12 #[.pointer (some ⟨c, 0, none⟩), .slice (some ⟨q, 0, none⟩) v.n v.n, .agg #[.int .u8 f0, .int .i64 f1, .int .i64 f2]] (bvA c v * lA q v.n v.b) (.bool true) (bvA c (v.lay f1 f2 true) * lA q v.n (v.lay f1 f2 true).b) := by
  intro w S h
  have A0 : At (dnA c q w.heap.size v v.b f0 f1 f2) w S (w.alloc (.cells #[.int .u8 f0, .int .i64 f1, .int .i64 f2] 31)) := ((At.refl h).alloc _).re (by unfold dnA; ac_rfl)
  obtain ⟨y0, y1, y2⟩ := dn_cells A0
  have T1 := bv_fill (p := c) hv f1 f2
  have T2 := r_lay (q := q) (b := v.b) hv.n2 f1 f2 true
  have hG : cp (offR v.b v.n f1 f2 true) v.n ≤ 1048576 := Nat.le_trans (cp_le _ _) hv.n2
  have CF := Lib.hid (fun w' (b : Nat → Bool) (h' : At (dnA c q w.heap.size v b f0 f1 f2) w S w') => dn_bv T1 rfl h')
  have CL1 := Lib.hid (fun w' (h' : At (dnA c q w.heap.size v v.b f0 f1 f2) w S w') => dn_l T2 h')
  have CL2 := Lib.hid (fun w' (h' : At (dnA c q w.heap.size (v.lay f1 f2 true) v.b f0 f1 f2) w S w') => dn_l (v := v.lay f1 f2 true) T2 h')
  have FIN : Hid (∀ w', At (dnA c q w.heap.size (v.lay f1 f2 true) (fun j => if inR v.n f1 f2 j then true else v.b j) f0 f1 f2) w S w' → At (bvA c (v.lay f1 f2 true) * lA q v.n (v.lay f1 f2 true).b) w S w') := Lib.hid fun w' h' => dn_end h'
  have hbx := dn_two A0
  have hp2d := At.drew A0
  obtain ⟨Y, hY⟩ : ∃ Y, w.heap.size = Y := ⟨_, rfl⟩
  rw [hY] at A0 hbx hp2d y0 y1 y2 CF CL1 CL2 FIN
  generalize cp (offR v.b v.n f1 f2 true) v.n = G at *
  have z0 : IntKind.u8.wrap (f0 % 4) = 2 := by rw [hk]; rfl
  have n2 := hv.n2
  clear T1 T2 CL1 h A0 hv
  go_enter Tryd.func12, Tryd.ntmps12
  go_wp2_with fail
  go_region_held3 (fun w' => w'.cell? ⟨Y, 1, none⟩ = some (.int .i64 f1) ∧ w'.cell? ⟨Y, 2, none⟩ = some (.int .i64 f2)) (first | exact hbx | exact dn_two (by assumption)) (first | (go_at_call 25; with_reducible refine (CF.out _ _ hp2d).mono ?_; rintro e w2 ⟨rfl, hp3⟩) | (go_at_call 38; with_reducible refine (CL2.out _ (by assumption)).mono ?_; rintro e w3 ⟨rfl, hp4⟩))
  have FF := Lib.hid (FIN.out _ hp4)
  clear hp2d hp3 hp4 CF CL2 FIN
  go_wp2_with fail
  go_ret
  exact ⟨rfl, FF.out⟩

set_option maxHeartbeats 4000000 in
set_option maxRecDepth 100000 in
theorem done_wipe {c q : Nat} {v : Bits} (hv : v.ok) (f0 f1 f2 : Int) (hk : f0 % 4 = 3) (hb0 : 0 ≤ f0 ∧ f0 ≤ 255) : Tri1 Tryd.prog 12 #[.pointer (some ⟨c, 0, none⟩), .slice (some ⟨q, 0, none⟩) v.n v.n, .agg #[.int .u8 f0, .int .i64 f1, .int .i64 f2]] (bvA c v * lA q v.n v.b) (.bool true) (bvA c (v.lay f1 f2 false) * lA q v.n (v.lay f1 f2 false).b) := by
  intro w S h
  have A0 : At (dnA c q w.heap.size v v.b f0 f1 f2) w S (w.alloc (.cells #[.int .u8 f0, .int .i64 f1, .int .i64 f2] 31)) := ((At.refl h).alloc _).re (by unfold dnA; ac_rfl)
  obtain ⟨y0, y1, y2⟩ := dn_cells A0
  have T1 := bv_wipe (p := c) hv f1 f2
  have T2 := r_lay (q := q) (b := v.b) hv.n2 f1 f2 false
  have hG : cp (offR v.b v.n f1 f2 false) v.n ≤ 1048576 := Nat.le_trans (cp_le _ _) hv.n2
  have CF := Lib.hid (fun w' (b : Nat → Bool) (h' : At (dnA c q w.heap.size v b f0 f1 f2) w S w') => dn_bv T1 rfl h')
  have CL1 := Lib.hid (fun w' (h' : At (dnA c q w.heap.size v v.b f0 f1 f2) w S w') => dn_l T2 h')
  have CL2 := Lib.hid (fun w' (h' : At (dnA c q w.heap.size (v.lay f1 f2 false) v.b f0 f1 f2) w S w') => dn_l (v := v.lay f1 f2 false) T2 h')
  have FIN : Hid (∀ w', At (dnA c q w.heap.size (v.lay f1 f2 false) (fun j => if inR v.n f1 f2 j then false else v.b j) f0 f1 f2) w S w' → At (bvA c (v.lay f1 f2 false) * lA q v.n (v.lay f1 f2 false).b) w S w') := Lib.hid fun w' h' => dn_end h'
  have hbx := dn_two A0
  have hp2d := At.drew A0
  obtain ⟨Y, hY⟩ : ∃ Y, w.heap.size = Y := ⟨_, rfl⟩
  rw [hY] at A0 hbx hp2d y0 y1 y2 CF CL1 CL2 FIN
  generalize cp (offR v.b v.n f1 f2 false) v.n = G at *
  have z0 : IntKind.u8.wrap (f0 % 4) = 3 := by rw [hk]; rfl
  have n2 := hv.n2
  clear T1 T2 CL1 h A0 hv
  go_enter Tryd.func12, Tryd.ntmps12
  go_wp2_with fail
  go_region_held3 (fun w' => w'.cell? ⟨Y, 1, none⟩ = some (.int .i64 f1) ∧ w'.cell? ⟨Y, 2, none⟩ = some (.int .i64 f2)) (first | exact hbx | exact dn_two (by assumption)) (first | (go_at_call 29; with_reducible refine (CF.out _ _ hp2d).mono ?_; rintro e w2 ⟨rfl, hp3⟩) | (go_at_call 38; with_reducible refine (CL2.out _ (by assumption)).mono ?_; rintro e w3 ⟨rfl, hp4⟩))
  have FF := Lib.hid (FIN.out _ hp4)
  clear hp2d hp3 hp4 CF CL2 FIN
  go_wp2_with fail
  go_ret
  exact ⟨rfl, FF.out⟩

theorem lay_one {v : Bits} (k : Nat) (hk : k < v.n) (h2 : v.n ≤ 1048576) (z : Bool) : v.lay (k : Int) (wrap64 ((k : Int) + 1)) z = v.set k z := by
  have e : wrap64 ((k : Int) + 1) = (k : Int) + 1 := by unfold wrap64; omega
  rw [e]
  unfold Bits.lay Bits.set
  congr 1
  funext j
  by_cases h : j = k
  · rw [if_pos h, inR_iff.2 (by omega), if_pos rfl]
  · rw [if_neg h, inR_not (by omega)]; rfl

theorem lay_out {v : Bits} (x : Int) (hx : x < 0 ∨ (v.n : Int) ≤ x) (z : Bool) (hb : -9223372036854775808 ≤ x ∧ x ≤ 9223372036854775807) : v.lay x (wrap64 (x + 1)) z = v := by
  refine lay_none ?_ z
  rcases hx with h | h
  · rw [show wrap64 (x + 1) = x + 1 by unfold wrap64; omega]; omega
  · omega

theorem set_any {c : Nat} {v : Bits} (hv : v.ok) (x : Int) (hb : -9223372036854775808 ≤ x ∧ x ≤ 9223372036854775807) : Tri1 Tryd.prog 28 #[.pointer (some ⟨c, 0, none⟩), .int .i64 x] (bvA c v) (.int .i64 (codeN v.n x)) (bvA c (v.lay x (wrap64 (x + 1)) true)) := by
  unfold codeN
  by_cases h : x < 0 ∨ (v.n : Int) ≤ x
  · rw [if_pos h, lay_out x h true hb]
    exact (bv_set_bad hv x h).tri
  · obtain ⟨k, rfl⟩ := Int.eq_ofNat_of_zero_le (show 0 ≤ x by omega)
    rw [if_neg h, lay_one k (by omega) hv.n2]
    exact bv_set_ok hv k (by omega)

theorem clear_any' {c : Nat} {v : Bits} (hv : v.ok) (x : Int) (hb : -9223372036854775808 ≤ x ∧ x ≤ 9223372036854775807) : Tri1 Tryd.prog 26 #[.pointer (some ⟨c, 0, none⟩), .int .i64 x] (bvA c v) (.int .i64 (codeN v.n x)) (bvA c (v.lay x (wrap64 (x + 1)) false)) := by
  unfold codeN
  by_cases h : x < 0 ∨ (v.n : Int) ≤ x
  · rw [if_pos h, lay_out x h false hb]
    exact (bv_clear_bad hv x h).tri
  · obtain ⟨k, rfl⟩ := Int.eq_ofNat_of_zero_le (show 0 ≤ x by omega)
    rw [if_neg h, lay_one k (by omega) hv.n2]
    exact bv_clear_ok hv k (by omega)

set_option maxHeartbeats 4000000 in
set_option maxRecDepth 100000 in
theorem done_set {c q : Nat} {v : Bits} (hv : v.ok) (f0 f1 f2 : Int) (hk : f0 % 4 = 0) (hb0 : 0 ≤ f0 ∧ f0 ≤ 255) (hb1 : -9223372036854775808 ≤ f1 ∧ f1 ≤ 9223372036854775807) : Tri1 Tryd.prog 12 #[.pointer (some ⟨c, 0, none⟩), .slice (some ⟨q, 0, none⟩) v.n v.n, .agg #[.int .u8 f0, .int .i64 f1, .int .i64 f2]] (bvA c v * lA q v.n v.b) (.bool true) (bvA c (v.lay f1 (wrap64 (f1 + 1)) true) * lA q v.n (v.lay f1 (wrap64 (f1 + 1)) true).b) := by
  intro w S h
  have A0 : At (dnA c q w.heap.size v v.b f0 f1 f2) w S (w.alloc (.cells #[.int .u8 f0, .int .i64 f1, .int .i64 f2] 31)) := ((At.refl h).alloc _).re (by unfold dnA; ac_rfl)
  obtain ⟨y0, y1, y2⟩ := dn_cells A0
  have T1 := set_any (c := c) hv f1 hb1
  have T2 := r_lay (q := q) (b := v.b) hv.n2 f1 (wrap64 (f1 + 1)) true
  have CL := Lib.hid (dn_l T2 A0)
  have CF := Lib.hid (fun w' (b : Nat → Bool) (h' : At (dnA c q w.heap.size v b f0 f1 f2) w S w') => dn_bv T1 rfl h')
  have FIN : Hid (∀ w', At (dnA c q w.heap.size (v.lay f1 (wrap64 (f1 + 1)) true) (fun j => if inR v.n f1 (wrap64 (f1 + 1)) j then true else v.b j) f0 f1 f2) w S w' → At (bvA c (v.lay f1 (wrap64 (f1 + 1)) true) * lA q v.n (v.lay f1 (wrap64 (f1 + 1)) true).b) w S w') := Lib.hid fun w' h' => dn_end h'
  obtain ⟨Y, hY⟩ : ∃ Y, w.heap.size = Y := ⟨_, rfl⟩
  rw [hY] at A0 y0 y1 y2 CF CL FIN
  have CO := Lib.hid (fun w' => code_any v.n f1 w')
  generalize codeN v.n f1 = G at *
  have z0 : IntKind.u8.wrap (f0 % 4) = 0 := by rw [hk]; rfl
  have n2 := hv.n2
  clear T1 T2 h A0 hv
  go_enter Tryd.func12, Tryd.ntmps12
  go_wp2_with fail
  with_reducible refine CL.out.mono ?_
  rintro e w1 ⟨rfl, hA⟩
  have hbx := dn_two hA
  have hp2d := At.drew hA
  clear hA CL y0 y1 y2
  go_wp2_with fail
  go_region_held3 (fun w' => w'.cell? ⟨Y, 1, none⟩ = some (.int .i64 f1) ∧ w'.cell? ⟨Y, 2, none⟩ = some (.int .i64 f2)) (first | exact hbx | exact dn_two (by assumption)) (first | (go_at_call 28; with_reducible refine (CF.out _ _ hp2d).mono ?_; rintro e w2 ⟨rfl, hp3⟩) | (go_at_call 39; with_reducible refine (CO.out _).mono ?_; rintro e w3 ⟨rfl, rfl⟩))
  have FF := Lib.hid (FIN.out _ hp3)
  clear hp2d hp3 CF FIN
  go_wp2_with fail
  go_ret
  exact ⟨rfl, FF.out⟩

set_option maxHeartbeats 4000000 in
set_option maxRecDepth 100000 in
theorem done_clear {c q : Nat} {v : Bits} (hv : v.ok) (f0 f1 f2 : Int) (hk : f0 % 4 = 1) (hb0 : 0 ≤ f0 ∧ f0 ≤ 255) (hb1 : -9223372036854775808 ≤ f1 ∧ f1 ≤ 9223372036854775807) : Tri1 Tryd.prog 12 #[.pointer (some ⟨c, 0, none⟩), .slice (some ⟨q, 0, none⟩) v.n v.n, .agg #[.int .u8 f0, .int .i64 f1, .int .i64 f2]] (bvA c v * lA q v.n v.b) (.bool true) (bvA c (v.lay f1 (wrap64 (f1 + 1)) false) * lA q v.n (v.lay f1 (wrap64 (f1 + 1)) false).b) := by
  intro w S h
  have A0 : At (dnA c q w.heap.size v v.b f0 f1 f2) w S (w.alloc (.cells #[.int .u8 f0, .int .i64 f1, .int .i64 f2] 31)) := ((At.refl h).alloc _).re (by unfold dnA; ac_rfl)
  obtain ⟨y0, y1, y2⟩ := dn_cells A0
  have T1 := clear_any' (c := c) hv f1 hb1
  have T2 := r_lay (q := q) (b := v.b) hv.n2 f1 (wrap64 (f1 + 1)) false
  have CL := Lib.hid (dn_l T2 A0)
  have CF := Lib.hid (fun w' (b : Nat → Bool) (h' : At (dnA c q w.heap.size v b f0 f1 f2) w S w') => dn_bv T1 rfl h')
  have FIN : Hid (∀ w', At (dnA c q w.heap.size (v.lay f1 (wrap64 (f1 + 1)) false) (fun j => if inR v.n f1 (wrap64 (f1 + 1)) j then false else v.b j) f0 f1 f2) w S w' → At (bvA c (v.lay f1 (wrap64 (f1 + 1)) false) * lA q v.n (v.lay f1 (wrap64 (f1 + 1)) false).b) w S w') := Lib.hid fun w' h' => dn_end h'
  obtain ⟨Y, hY⟩ : ∃ Y, w.heap.size = Y := ⟨_, rfl⟩
  rw [hY] at A0 y0 y1 y2 CF CL FIN
  have CO := Lib.hid (fun w' => code_any v.n f1 w')
  generalize codeN v.n f1 = G at *
  have z0 : IntKind.u8.wrap (f0 % 4) = 1 := by rw [hk]; rfl
  have n2 := hv.n2
  clear T1 T2 h A0 hv
  go_enter Tryd.func12, Tryd.ntmps12
  go_wp2_with fail
  with_reducible refine CL.out.mono ?_
  rintro e w1 ⟨rfl, hA⟩
  have hbx := dn_two hA
  have hp2d := At.drew hA
  clear hA CL y0 y1 y2
  go_wp2_with fail
  go_region_held3 (fun w' => w'.cell? ⟨Y, 1, none⟩ = some (.int .i64 f1) ∧ w'.cell? ⟨Y, 2, none⟩ = some (.int .i64 f2)) (first | exact hbx | exact dn_two (by assumption)) (first | (go_at_call 26; with_reducible refine (CF.out _ _ hp2d).mono ?_; rintro e w2 ⟨rfl, hp3⟩) | (go_at_call 39; with_reducible refine (CO.out _).mono ?_; rintro e w3 ⟨rfl, rfl⟩))
  have FF := Lib.hid (FIN.out _ hp3)
  clear hp2d hp3 CF FIN
  go_wp2_with fail
  go_ret
  exact ⟨rfl, FF.out⟩

/-- one act, whichever: the vector and the reference stay alike -/
theorem done_any {c q : Nat} {v : Bits} (hv : v.ok) (f0 f1 f2 : Int) (hb0 : 0 ≤ f0 ∧ f0 ≤ 255) (hb1 : -9223372036854775808 ≤ f1 ∧ f1 ≤ 9223372036854775807) : ∃ v' : Bits, v'.ok ∧ v'.n = v.n ∧ Tri1 Tryd.prog 12 #[.pointer (some ⟨c, 0, none⟩), .slice (some ⟨q, 0, none⟩) v.n v.n, .agg #[.int .u8 f0, .int .i64 f1, .int .i64 f2]] (bvA c v * lA q v.n v.b) (.bool true) (bvA c v' * lA q v'.n v'.b) := by
  have h4 : f0 % 4 = 0 ∨ f0 % 4 = 1 ∨ f0 % 4 = 2 ∨ f0 % 4 = 3 := by omega
  rcases h4 with h | h | h | h
  · exact ⟨_, hv.lay f1 (wrap64 (f1 + 1)) true, rfl, done_set hv f0 f1 f2 h hb0 hb1⟩
  · exact ⟨_, hv.lay f1 (wrap64 (f1 + 1)) false, rfl, done_clear hv f0 f1 f2 h hb0 hb1⟩
  · exact ⟨_, hv.lay f1 f2 true, rfl, done_fill hv f0 f1 f2 h hb0⟩
  · exact ⟨_, hv.lay f1 f2 false, rfl, done_wipe hv f0 f1 f2 h hb0⟩

end Go.Proofs.YtflkbefiopnigacDoor.BV
