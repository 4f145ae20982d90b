/- A vector of bits (layer 11): Copy. -/
import Derived.Test.YtflkbefiopnigacDoorBvB
namespace Go.Proofs.YtflkbefiopnigacDoor.BV
open Go.ChangeShapes Go.WideShapes Go.ChangeAt Go.RowKit

theorem infU64C : ∃ i, Tryd.prog.info? 50 = some i ∧ i.zero = some (.int .u64 0) ∧ i.size = 1 ∧ i.bytes = 8 := by
  obtain ⟨i, hi, hzz⟩ := Option.map_eq_some_iff.1 (show (Tryd.prog.info? 50).map (fun i => (i.zero, i.size, i.bytes)) = some (some (.int .u64 0), 1, 8) by kernel_rfl)
  simp only [Prod.mk.injEq] at hzz
  exact ⟨i, hi, hzz.1, hzz.2.1, hzz.2.2⟩

/-- a new row that an append left -/
theorem At.newrow {A : Asn} {w0 w w' : World} {S0 : Nat → Prop} {e : TypeId} {v : Value} {n : Nat} {f : Nat → Value} (h : At A w0 S0 w) (hb : Below w.heap.size w w') (ho : w'.ownsRow w.heap.size e 1 v n ((List.range n).map f)) (hv : v ≠ .slice none 0 0) :
    ∃ x : Loc, v = .slice (some ⟨x.b, 0, none⟩) n x.cap ∧ At (A * lrow x e n f) w0 S0 w' := by
  rcases ho.2 with ⟨rfl, _⟩ | ⟨g, cap, cur, rfl, hg1, hg, hnc, hcm, hsz, htk⟩
  · exact absurd rfl hv
  refine ⟨⟨g, cap, cap, fun i => cur[i]?.getD (.tuple #[])⟩, rfl, ?_⟩
  refine h.step ?_
  intro S a
  refine ⟨fun k => S k ∨ k = g, ⟨S, fun k => k = g, A.keep a fun k hk => hb.block k (A.lt a k hk), ⟨⟨⟨cur, hg, by simpa using hsz, fun i hi => ?_⟩, hnc⟩, fun _ => Iff.rfl⟩, ?_, fun _ => Iff.rfl⟩, ?_, ?_⟩
  · dsimp only
    rw [Nat.mul_one] at hsz htk
    by_cases hi2 : i < n
    · rw [if_pos hi2]
      have h1 : ((List.range n).map f)[i]? = some (f i) := by simp [hi2]
      rw [← htk, List.getElem?_take, if_pos hi2] at h1
      simpa using h1
    · rw [if_neg hi2]
      have hi' : i < cap := hi
      rw [Array.getElem?_eq_getElem (by omega)]; rfl
  · rintro k hk rfl
    have := A.lt a _ hk; omega
  · rintro k (hk | rfl)
    · exact .inl hk
    · exact .inr hg1
  · exact Fr.ofBelow hb fun k hk _ => hk

theorem clone_u64 {w : World} {b n : Nat} (f : Nat → Nat) (hn : n ≤ 1048576) (c : Nat) (h : ∀ i, i < n → w.cell? ⟨b, i, none⟩ = some (.int .u64 (f i : Nat))) :
    Calls Tryd.prog 52 #[.slice (some ⟨b, 0, none⟩) n c] w fun e w' => ∃ v', e = .returned v' ∧ w'.ownsRow w.heap.size 50 1 v' n ((List.range n).map fun i => .int .u64 (f i : Nat)) ∧ v' ≠ .slice none 0 0 ∧ Below w.heap.size w w' := by
  have q22 : ∀ (w : World) (a : Option Addr) (n c n' c' : Nat), (binOp .eql 61 (.slice a n c) (.slice none n' c')).run Tryd.prog w = .ok (.bool a.isNone) w := fun w a n c n' c' => Lib.run_eql_slice_nil w _ _ a n c n' c' Tryd.underlying61
  obtain ⟨i0, hi0, hz0, hs0, hb0⟩ := infU64C
  have A := Lib.hid h
  clear h
  go_enter Tryd.func52, Tryd.ntmps52
  go_wp2_with (at_builtin; refine wpList_append_own _ rfl _ _ 61 rfl w.heap.size 50 i0 (.int .u64 0) 1 8 Tryd.underlying61 hi0 hz0 hs0 hb0 rfl (by decide) _ _ _ rfl (World.ownsRow_made w #[] 0 (Nat.le_refl _) (Nat.zero_le _) (by simp)) ⟨b, 0, none⟩ n c ((List.range n).map fun i => .int .u64 (f i : Nat)) rfl ?qc1 ?qc2 ?qc3 ?qc4 ?qc5 ?qc6 ?_)
  case qc1 => simp
  case qc2 =>
    intro j u hj
    simp only [List.getElem?_map, Option.map_eq_some_iff, List.getElem?_eq_some_iff, List.length_range, List.getElem_range] at hj
    obtain ⟨k, ⟨hk, rfl⟩, rfl⟩ := hj
    rw [Addr.add_lit, Nat.zero_add]
    exact Lib.cell?_alloc_some _ (A.out _ hk)
  case qc3 => intro u hu; simp only [List.mem_map] at hu; obtain ⟨k, _, rfl⟩ := hu; rfl
  case qc4 => simp only [maxLen]; omega
  case qc5 => omega
  case qc6 => simp
  intro v' w1 hown hgrow hnil
  go_wp2
  go_ret
  refine ⟨v', rfl, by simpa using hown, ?_, ?_⟩
  · exact hnil
  · exact ((Below.refl _ w).alloc (Nat.le_refl _) _).grown hgrow (by simp) (by intro k hk; simp [Value.ownBlock] at hk; omega)

section
variable {w0 w : World} {S : Nat → Prop} {p : Nat} {v : Bits} {bw bu x y : Loc} {C : Asn}

theorem bvX_cells (h : At (bvX p v bw bu * C) w0 S w) : w.cell? ⟨p, 0, none⟩ = some (.slice (some ⟨bw.b, 0, none⟩) v.nw bw.cap) ∧ w.cell? ⟨p, 1, none⟩ = some (.slice (some ⟨bu.b, 0, none⟩) v.nu bu.cap) ∧ w.cell? ⟨p, 2, none⟩ = some (.int .i64 v.n) :=
  have R := bv_read h.dropr
  ⟨R.c0, R.c1, R.c2⟩

theorem clone_w (hn : v.nw ≤ 16384) (h : At (bvX p v bw bu * C) w0 S w) : Calls Tryd.prog 52 #[.slice (some ⟨bw.b, 0, none⟩) v.nw bw.cap] w fun e w' => ∃ x : Loc, e = .returned (.slice (some ⟨x.b, 0, none⟩) v.nw x.cap) ∧ At (bvX p v bw bu * (C * lrow x 50 v.nw (fun i => .int .u64 (wd v.b i : Nat)))) w0 S w' := by
  refine (clone_u64 (wd v.b) (by omega) bw.cap fun i hi => (bv_read h.dropr).rw.cell hi).mono ?_
  rintro e w' ⟨v', rfl, ho, hne, hb⟩
  obtain ⟨x, rfl, hx⟩ := At.newrow h hb ho hne
  exact ⟨x, rfl, hx.re (by ac_rfl)⟩

theorem clone_u (hn : v.nu ≤ 16384) (h : At (bvX p v bw bu * C) w0 S w) : Calls Tryd.prog 52 #[.slice (some ⟨bu.b, 0, none⟩) v.nu bu.cap] w fun e w' => ∃ x : Loc, e = .returned (.slice (some ⟨x.b, 0, none⟩) v.nu x.cap) ∧ At (bvX p v bw bu * (C * lrow x 50 v.nu (fun i => .int .u64 (us v.b i : Nat)))) w0 S w' := by
  refine (clone_u64 (us v.b) (by omega) bu.cap fun i hi => (bv_read h.dropr).ru.cell hi).mono ?_
  rintro e w' ⟨v', rfl, ho, hne, hb⟩
  obtain ⟨x, rfl, hx⟩ := At.newrow h hb ho hne
  exact ⟨x, rfl, hx.re (by ac_rfl)⟩

theorem copy_fin1 (h : At (bvX p v bw bu * (pur True * lrow x 50 v.nw (fun i => .int .u64 (wd v.b i : Nat)) * lrow y 50 v.nu (fun i => .int .u64 (us v.b i : Nat)))) w0 S w) :
    At (bvA p v * bvA w.heap.size v) w0 S (w.alloc (.cells #[.slice (some ⟨x.b, 0, none⟩) v.nw x.cap, .slice (some ⟨y.b, 0, none⟩) v.nu y.cap, .int .i64 v.n] 63)) := by
  have h1 := h.alloc (.cells #[.slice (some ⟨x.b, 0, none⟩) v.nw x.cap, .slice (some ⟨y.b, 0, none⟩) v.nu y.cap, .int .i64 v.n] 63)
  have h2 : At (bvX p v bw bu * (bvX w.heap.size v x y * pur True)) w0 S _ := h1.re (by unfold bvX bvC; ac_rfl)
  have h3 := At.shuts (A := fun z : Loc × Loc => bvX p v z.1 z.2) (bw, bu) h2
  have h4 := At.shuts (A := fun z : Loc × Loc => bvX w.heap.size v z.1 z.2) (B := bvA p v * pur True) (x, y) (h3.re (by unfold bvA; ac_rfl))
  have h5 : At ((bvA p v * bvA w.heap.size v) * pur True) w0 S _ := h4.re (by unfold bvA; ac_rfl)
  exact h5.nounit

theorem copy_fin2 (h : At (bvX p v bw bu * (pur True * lrow y 50 v.nu (fun i => .int .u64 (us v.b i : Nat)) * lrow x 50 v.nw (fun i => .int .u64 (wd v.b i : Nat)))) w0 S w) :
    At (bvA p v * bvA w.heap.size v) w0 S (w.alloc (.cells #[.slice (some ⟨x.b, 0, none⟩) v.nw x.cap, .slice (some ⟨y.b, 0, none⟩) v.nu y.cap, .int .i64 v.n] 63)) :=
  copy_fin1 (h.re (by ac_rfl))
end

set_option maxHeartbeats 2000000 in
set_option maxRecDepth 100000 in
theorem bv_copy {p : Nat} {v : Bits} (hv : v.ok) : Tri Tryd.prog 27 #[.pointer (some ⟨p, 0, none⟩)] (bvA p v) (fun c : Nat => .pointer (some ⟨c, 0, none⟩)) (fun c => bvA p v * bvA c v) := by
  intro w S h
  obtain ⟨bw, bu, hX, R⟩ := bv_open (At.refl h)
  have hz : At (bvX p v bw bu * pur True) w S w.drew := hX.unit.drew
  have c0 := R.c0
  have c1 := R.c1
  have c2 := R.c2
  have hnw : v.nw ≤ 16384 := by have := hv.n2; unfold Bits.nw; omega
  have hnu : v.nu ≤ 16384 := by unfold Bits.nu; omega
  have CW := Lib.hid (fun w' C (h : At (bvX p v bw bu * C) w S w') => clone_w hnw h)
  have CU := Lib.hid (fun w' C (h : At (bvX p v bw bu * C) w S w') => clone_u hnu h)
  have F1 := Lib.hid (fun w' x y => copy_fin1 (w0 := w) (S := S) (w := w') (p := p) (v := v) (bw := bw) (bu := bu) (x := x) (y := y))
  have F2 := Lib.hid (fun w' x y => copy_fin2 (w0 := w) (S := S) (w := w') (p := p) (v := v) (bw := bw) (bu := bu) (x := x) (y := y))
  have CE := Lib.hid (fun w' C (h : At (bvX p v bw bu * C) w S w') => bvX_cells h)
  clear h hX R hv
  go_enter Tryd.func27, Tryd.ntmps27
  go_wp2_with fail
  go_region_with (go_at_call 52; first | (with_reducible refine (CW.out _ _ hz).mono ?_; rintro e w1 ⟨x, rfl, hz⟩; obtain ⟨c0, c1, c2⟩ := CE.out _ _ hz) | (with_reducible refine (CU.out _ _ hz).mono ?_; rintro e w1 ⟨y, rfl, hz⟩; obtain ⟨c0, c1, c2⟩ := CE.out _ _ hz))
  all_goals go_wp2
  all_goals go_ret
  all_goals first | exact ⟨_, rfl, F1.out _ _ _ hz⟩ | exact ⟨_, rfl, F2.out _ _ _ hz⟩

end Go.Proofs.YtflkbefiopnigacDoor.BV
