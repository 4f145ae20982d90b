/- The law BitvecCopies, walked. -/
import Derived.Test.YtflkbefiopnigacDoorBvY
namespace Go.Proofs.YtflkbefiopnigacDoor.BV
open Go.ChangeShapes Go.WideShapes Go.ChangeAt Go.RowKit

theorem app_fin {A : Asn} {w0 w w1 : World} {S : Nat → Prop} {e : TypeId} {o : Obj} {v' : Value} {N : Nat} {f : Nat → Value} (h : At A w0 S w) (hown : w1.ownsRow w.heap.size e 1 v' N ((List.range N).map f)) (hgrow : (w.alloc o).grownBy w1 (Value.slice (some ⟨w.heap.size, 0, none⟩) 0 0).ownBlock)
    (hnil : ¬ v' = .slice none 0 0) : ∃ x : Loc, v' = .slice (some ⟨x.b, 0, none⟩) N x.cap ∧ At (A * lrow x e N f) w0 S w1 := by
  have hb : Below w.heap.size w w1 := ((Below.refl _ w).alloc (Nat.le_refl _) _).grown hgrow (by simp) (by intro k hk; simp [Value.ownBlock] at hk; omega)
  exact At.newrow h hb hown hnil

theorem plA_bool {w0 w : World} {S : Nat → Prop} {c q i : Nat} {v : Bits} {C : Asn} (h : At (plA c q v * C) w0 S w) (hi : i < v.n) : w.cell? ⟨q, i, none⟩ = some (.bool (v.b i)) :=
  (At.rowIs (A := bvA c v * C) (h.re (B := lA q v.n v.b * _) (by unfold plA; ac_rfl))).cell hi

set_option maxRecDepth 100000 in
theorem copies_long (x0 : Int) (a b : Option Addr) (len cap len2 cap2 : Nat) (hl : len ≤ cap) (hc : cap ≤ 9223372036854775807) (hl2 : len2 ≤ cap2) (hc2 : cap2 ≤ 9223372036854775807) (h : 50 < len ∨ 50 < len2) (W : World) (hT : Tab W) :
    Calls Tryd.prog 6 #[.int .u8 x0, .slice a len cap, .slice b len2 cap2] W fun e W' => e = .returned (.bool true) ∧ Below W.heap.size W W' := by
  have L := Lib.hid (blives W hT)
  clear hT
  by_cases h1 : 50 < len
  · have h1I : (50 : Int) < (len : Int) := by omega
    clear h
    go_enter Tryd.func6, Tryd.ntmps6
    go_wp2_with (go_at_call 11; refine L.out.mono ?_; rintro e1 w1 ⟨rfl, hb⟩)
    go_ret
    exact ⟨rfl, hb⟩
  · have h1I : ¬ (50 : Int) < (len : Int) := by omega
    have h2I : (50 : Int) < (len2 : Int) := by omega
    clear h
    go_enter Tryd.func6, Tryd.ntmps6
    go_wp2_with (go_at_call 11; refine L.out.mono ?_; rintro e1 w1 ⟨rfl, hb⟩)
    go_ret
    exact ⟨rfl, hb⟩

set_option maxHeartbeats 8000000 in
set_option maxRecDepth 100000 in
theorem copies_short (n0 : Nat) (hn0 : n0 ≤ 255) (a b : Option Addr) (len cap len2 cap2 : Nat) (F F2 : Nat → Nat → Int) (hl : len ≤ 50) (hl2 : len2 ≤ 50) (W : World) (hT : Tab W) (hrow : RecRow [.u8, .i64, .i64] W a len cap F) (hrow2 : RecRow [.u8, .i64, .i64] W b len2 cap2 F2) :
    Calls Tryd.prog 6 #[.int .u8 n0, .slice a len cap, .slice b len2 cap2] W fun e W' => e = .returned (.bool true) ∧ Below W.heap.size W W' := by
  have hcl : len ≤ cap := hrow.lc
  have hcm : cap ≤ 9223372036854775807 := by have := hrow.cm; unfold maxLen at this; omega
  have hcl2 : len2 ≤ cap2 := hrow2.lc
  have hcm2 : cap2 ≤ 9223372036854775807 := by have := hrow2.cm; unfold maxLen at this; omega
  have cell := Lib.hid (rec_cells hrow)
  have cell2 := Lib.hid (rec_cells hrow2)
  clear hrow hrow2
  obtain ⟨n, hn⟩ : ∃ n, n0 + 1 = n := ⟨_, rfl⟩
  have hnI : (n0 : Int) + 1 = (n : Int) := by omega
  have hn1 : 1 ≤ n := by omega
  have hn2 : n ≤ 256 := by omega
  have hwn : wrap64 ((n0 : Int) + 1) = (n : Int) := by unfold wrap64; omega
  have N := Lib.hid (bv_new_ok n hn1 (by omega) W (fun _ => False) ⟨trivial, fun _ => id⟩)
  have MK := fun w => run_make_row' (P := Tryd.prog) 29 4 (.bool false) 1 Tryd.underlying29 infBool rfl .i64 .i64 n (by omega) (by omega) w
  have START : Hid (∀ c w', At (bvA c (newB n)) W (fun _ => False) w' → ∃ v : Bits, v.ok ∧ v.n = n ∧ At (plA c w'.heap.size v * pur True) W (fun _ => False) (w'.alloc (.cells (madeCells #[.bool false] n) 4))) := Lib.hid fun c w' h => ⟨_, newB_ok n hn1 (by omega), rfl, (lA_made n h).unit⟩
  have HT := Lib.hid hT
  have END := Lib.hid (fun (w : World) (A : Asn) (h : At A W (fun _ => False) w) => blives w (At.tabB hT h))
  obtain ⟨i0, hi0, hz0, hs0, hb0⟩ := infBoolC
  have HI := Lib.hid hi0
  have HZ0 := Lib.hid hz0
  have HZ1 := Lib.hid hs0
  have HZ2 := Lib.hid hb0
  clear hT hi0 hz0 hs0 hb0
  go_enter Tryd.func6, Tryd.ntmps6
  go_wp2_with fail
  try rw [hnI]
  refine N.out.mono ?_
  rintro e w1 ⟨c, rfl, a1⟩
  have A0 := Lib.hid (START.out c _ a1)
  clear a1 N START
  go_wp2_with fail
  obtain ⟨q, hq⟩ : ∃ q, w1.heap.size = q := ⟨_, rfl⟩
  rw [hq] at A0 ⊢
  clear MK hq
  obtain ⟨w2, hw2⟩ : ∃ w2, w1.alloc (.cells (madeCells #[.bool false] n) 4) = w2 := ⟨_, rfl⟩
  rw [hw2] at A0 ⊢
  clear hw2
  go_loopw [41] (fun i wr => ∃ (k : Nat), k ≤ len ∧ i = .int .i64 k ∧ Hid (∃ v : Bits, v.ok ∧ v.n = n ∧ At (plA c q v * pur True) W (fun _ => False) wr)) (fun i _ => len - (intOf i).toNat)
  case atStart => exact ⟨0, Nat.zero_le _, rfl, A0⟩
  case round =>
    clear A0
    obtain ⟨k, hk, rfl, HR⟩ := hrel
    obtain ⟨v, hv, hvn, hA⟩ := HR.out
    clear HR
    by_cases hlt : k < len
    · obtain ⟨d, off, rfl, hc0, hc1, hc2, b0, b1, b2⟩ := cell.out wr hA.below k hlt
      have hltI : (k : Int) < (len : Int) := by omega
      generalize F k 0 = f0 at *
      generalize F k 1 = f1 at *
      generalize F k 2 = f2 at *
      have A2 := box_pair f0 f1 f2 hA
      obtain ⟨Y, hY⟩ : ∃ Y, wr.heap.size = Y := ⟨_, rfl⟩
      rw [hY] at A2
      have y012 := act_cells (A := plA c q v * pur True) (A2.re (by ac_rfl))
      obtain ⟨y0, y1, y2⟩ := y012
      have C1 := Lib.hid (pair_done hv hvn f0 f1 f2 b0 b1 Y A2)
      clear hA A2 hv hvn v
      go_wp2_with fail
      refine C1.out.mono ?_
      rintro e w3 ⟨rfl, hA⟩
      have FF := Lib.hid hA
      clear C1 y0 y1 y2 hA
      go_wp2_with fail
      exact ⟨⟨k + 1, by omega, by go_num, FF⟩, by simp [intOf]; omega⟩
    · obtain rfl : k = len := by omega
      have hltI : ¬ (k : Int) < (k : Int) := by omega
      have CP := Lib.hid (cp_copy hv (At.nounit hA))
      clear cell hA
      go_wp2_with fail
      refine CP.out.mono ?_
      rintro e w3 ⟨d, rfl, hA⟩
      clear CP
      have BC : Hid (∀ i, i < n → w3.cell? ⟨q, i, none⟩ = some (.bool (v.b i))) := Lib.hid fun i hi => plA_bool hA (by omega)
      have HA := Lib.hid hA
      have HV := Lib.hid (And.intro hv hvn)
      clear hA hv hvn
      go_wp2_with (at_builtin; refine wpList_append_own _ rfl _ _ 29 rfl w3.heap.size 4 i0 (.bool false) 1 1 Tryd.underlying29 HI.out HZ0.out HZ1.out HZ2.out rfl (by decide) _ _ _ rfl (World.ownsRow_made w3 #[] 0 (Nat.le_refl _) (Nat.zero_le _) (by simp)) ⟨q, 0, none⟩ n n ((List.range n).map fun i => .bool (v.b i)) rfl ?qc1 ?qc2 ?qc3 ?qc4 ?qc5 ?qc6 ?_)
      case qc1 => simp
      case qc2 =>
        intro j u hj
        simp only [List.getElem?_map, Option.map_eq_some_iff, List.getElem?_eq_some_iff, List.length_range, List.getElem_range] at hj
        obtain ⟨k, ⟨hk, rfl⟩, rfl⟩ := hj
        rw [Addr.add_lit, Nat.zero_add]
        exact Lib.cell?_alloc_some _ (BC.out _ hk)
      case qc3 => intro u hu; simp only [List.mem_map] at hu; obtain ⟨k, _, rfl⟩ := hu; rfl
      case qc4 => simp only [maxLen]; omega
      case qc5 => omega
      case qc6 => simp
      intro v' w4 hown hgrow hnil
      obtain ⟨x, rfl, hx⟩ := app_fin HA.out hown hgrow hnil
      clear hown hgrow hnil BC HA
      obtain ⟨xb, xc, xl, xr⟩ := x
      have hvn := HV.out.2
      have A5 : At (plA c q v * cpA d v ⟨xb, xc, xl, xr⟩) W (fun _ => False) w4 := hx.re (by unfold cpA; rw [hvn]; ac_rfl)
      obtain ⟨LC, LD⟩ := cp_lens hvn hvn A5
      have LC := Lib.hid LC
      have LD := Lib.hid LD
      have A6 : Hid (∃ u : Bits, u.ok ∧ u.n = n ∧ At (plA c q u * cpA d v ⟨xb, xc, xl, xr⟩) W (fun _ => False) w4) := Lib.hid ⟨v, HV.out.1, hvn, A5⟩
      clear hx A5 hvn
      go_wp2_with (first | (go_at_call 23; first | (with_reducible refine LC.out.mono ?_; rintro e1 w5 ⟨rfl, rfl⟩; clear LC) | (with_reducible refine LD.out.mono ?_; rintro e1 w5 ⟨rfl, rfl⟩; clear LD)))
      go_loopw [66] (fun i wr => ∃ (k : Nat), k ≤ len2 ∧ i = .int .i64 k ∧ Hid (∃ u : Bits, u.ok ∧ u.n = n ∧ At (plA c q u * cpA d v ⟨xb, xc, xl, xr⟩) W (fun _ => False) wr)) (fun i _ => len2 - (intOf i).toNat)
      case atStart => exact ⟨0, Nat.zero_le _, rfl, A6⟩
      case round =>
        clear A6
        obtain ⟨k2, hk2, rfl, HR⟩ := hrel
        obtain ⟨u, hu, hun, hA⟩ := HR.out
        clear HR
        by_cases hlt : k2 < len2
        · obtain ⟨d2, off, rfl, hc0, hc1, hc2, b0, b1, b2⟩ := cell2.out wr hA.below k2 hlt
          have hltI : (k2 : Int) < (len2 : Int) := by omega
          generalize F2 k2 0 = f0 at *
          generalize F2 k2 1 = f1 at *
          generalize F2 k2 2 = f2 at *
          have A2 := box_pair f0 f1 f2 hA
          obtain ⟨Y, hY⟩ : ∃ Y, wr.heap.size = Y := ⟨_, rfl⟩
          rw [hY] at A2
          have y012 := act_cells (A := plA c q u * cpA d v ⟨xb, xc, xl, xr⟩) (A2.re (by ac_rfl))
          obtain ⟨y0, y1, y2⟩ := y012
          have C1 := Lib.hid (pair_done hu hun f0 f1 f2 b0 b1 Y A2)
          clear hA A2 hu hun u
          go_wp2_with fail
          refine C1.out.mono ?_
          rintro e w3 ⟨rfl, hA⟩
          have FF := Lib.hid hA
          clear C1 y0 y1 y2 hA
          go_wp2_with fail
          exact ⟨⟨k2 + 1, by omega, by go_num, FF⟩, by simp [intOf]; omega⟩
        · obtain rfl : k2 = len2 := by omega
          have hltI : ¬ (k2 : Int) < (k2 : Int) := by omega
          have A7 := Lib.hid hA
          have QS : Hid (∀ i, i < n → ∃ z1 z2 : Bool, ∀ w, At (plA c q u * cpA d v ⟨xb, xc, xl, xr⟩) W (fun _ => False) w → CQ W (fun _ => False) c q d n u v ⟨xb, xc, xl, xr⟩ i z1 z2 w) := Lib.hid fun i hi => CQ.of hu HV.out.1 hun HV.out.2 i hi
          have HU := Lib.hid (And.intro hu hun)
          clear hA cell2 hu hun
          go_wp2_with fail
          go_loopw [77] (fun i wr => ∃ (k : Nat), k ≤ n ∧ i = .int .i64 k ∧ Hid (At (plA c q u * cpA d v ⟨xb, xc, xl, xr⟩) W (fun _ => False) wr)) (fun i _ => n - (intOf i).toNat)
          case atStart => exact ⟨0, Nat.zero_le _, rfl, A7⟩
          case round =>
            clear A7
            obtain ⟨k3, hk3, rfl, HR⟩ := hrel
            by_cases hlt : k3 < n
            · have hltI : (k3 : Int) < (n : Int) := by omega
              obtain ⟨z1, z2, Q⟩ := QS.out k3 hlt
              have hq := Q wr HR.out
              have cw := hq.cw
              have cm := hq.cm
              have tw : Hid (∀ m, Calls Tryd.prog 21 #[.pointer (some ⟨d, 0, none⟩), .int .i64 k3] (wr.drewN m) fun e w'' => e = .returned (.bool z1) ∧ ∃ k, w'' = wr.drewN k) := Lib.hid fun m => ((Q _ (HR.out.drewN m)).tw).mono fun _ _ ⟨a, b⟩ => ⟨a, m, b.symm⟩
              have tv : Hid (∀ m, Calls Tryd.prog 21 #[.pointer (some ⟨c, 0, none⟩), .int .i64 k3] (wr.drewN m) fun e w'' => e = .returned (.bool z2) ∧ ∃ k, w'' = wr.drewN k) := Lib.hid fun m => ((Q _ (HR.out.drewN m)).tv).mono fun _ _ ⟨a, b⟩ => ⟨a, m, b.symm⟩
              have FF := Lib.hid (fun m => HR.out.drewN m)
              clear hq HR Q
              go_wp2_with fail
              go_quiet (first | with_reducible exact tw.out _ | with_reducible exact tv.out _)
              have GG := Lib.hid (FF.out nq)
              clear FF tw tv
              go_wp2_with fail
              exact ⟨⟨k3 + 1, by omega, by go_num, GG⟩, by simp [intOf]; omega⟩
            · obtain rfl : k3 = n := by omega
              have hltI : ¬ (k3 : Int) < (k3 : Int) := by omega
              have CF := Lib.hid (cp_fill HV.out.1 0 (k3 : Int) HR.out)
              obtain ⟨G, CC⟩ := cp_count (w0 := W) (S := fun _ => False) (c := c) (q := q) HU.out.1 HU.out.2 0 (k3 : Int)
              have CC := Lib.hid CC
              clear HR
              go_wp2_with fail
              refine CF.out.mono ?_
              rintro e w5 ⟨g, rfl, hA⟩
              obtain ⟨C1, _⟩ := CC.out _ hA
              have C1 := Lib.hid C1
              clear hA CF
              go_wp2_with fail
              refine C1.out.mono ?_
              rintro e w6 ⟨rfl, hA⟩
              obtain ⟨_, C2⟩ := CC.out _ hA
              have C2 := Lib.hid C2
              have L0 := Lib.hid (END.out _ _ hA)
              have B := Lib.hid hA.below
              have SZ := Lib.hid hA.size
              clear hA C1 CC END
              go_wp2_with (first | (go_at_call 20; with_reducible refine C2.out.mono ?_; rintro e1 w7 ⟨rfl, rfl⟩) | (go_at_call 11; refine L0.out.mono ?_; rintro e1 w7 ⟨rfl, hb⟩))
              go_ret
              exact ⟨rfl, Below.step B.out hb SZ.out⟩

theorem copies_law (x0 : Int) (h0 : (Lit.int .u8 x0).wf = true) (a b : Option Addr) (len cap len2 cap2 : Nat) (F F2 : Nat → Nat → Int) (W : World) (hT : Tab W) (hrow : RecRow [.u8, .i64, .i64] W a len cap F) (hrow2 : RecRow [.u8, .i64, .i64] W b len2 cap2 F2) :
    Calls Tryd.prog 6 #[.int .u8 x0, .slice a len cap, .slice b len2 cap2] W fun e W' => e = .returned (.bool true) ∧ Below W.heap.size W W' := by
  have hcm : cap ≤ 9223372036854775807 := by have := hrow.cm; unfold maxLen at this; omega
  have hcm2 : cap2 ≤ 9223372036854775807 := by have := hrow2.cm; unfold maxLen at this; omega
  have hb := bounds_u8 h0
  by_cases hl : 50 < len ∨ 50 < len2
  · exact copies_long x0 a b len cap len2 cap2 hrow.lc hcm hrow2.lc hcm2 hl W hT
  · obtain ⟨n, rfl⟩ := Int.eq_ofNat_of_zero_le hb.1
    exact copies_short n (by omega) a b len cap len2 cap2 F F2 (by omega) (by omega) W hT hrow hrow2

end Go.Proofs.YtflkbefiopnigacDoor.BV
