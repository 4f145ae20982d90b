/- The document's list of objects (ullageref13): Drop; Drop and Wipe of the map; Word of a number below 0. -/
import Derived.Test.YtaaapbfhedgnjaaDoorExPt
namespace Go.Proofs.YtaaapbfhedgnjaaDoor.BV
open Go.ChangeShapes Go.WideShapes Go.ChangeAt Go.RowKit

theorem delL_zero (L : List (Nat × Nat)) (s : Int) : delL (L.take 0) s = [] := rfl
theorem delL_out {L : List (Nat × Nat)} {s : Int} {k : Nat} (hk : k < L.length) (h : ((eN L k).1 : Int) = s) : delL (L.take (k + 1)) s = delL (L.take k) s := by
  unfold delL
  rw [List.take_succ_eq_append_getElem hk, List.filter_append, ← eN_get hk, List.filter_cons, if_neg (by rw [decide_eq_true_iff]; exact fun g => g h)]
  simp
theorem delL_on {L : List (Nat × Nat)} {s : Int} {k : Nat} (hk : k < L.length) (h : ((eN L k).1 : Int) ≠ s) : delL (L.take (k + 1)) s = delL (L.take k) s ++ [eN L k] := by
  unfold delL
  rw [List.take_succ_eq_append_getElem hk, List.filter_append, ← eN_get hk, List.filter_cons, if_pos (decide_eq_true h)]
  simp
theorem delL_len (L : List (Nat × Nat)) (s : Int) (k : Nat) : (delL (L.take k) s).length ≤ k := by
  unfold delL
  refine Nat.le_trans (List.length_filter_le _ _) ?_
  rw [List.length_take]; omega

def DropIs (L : List (Nat × Nat)) (s : Int) (Z : Nat) (B : Bool) (k : Nat) (z : Nat) (b : Bool) : Prop := ((∃ j, j < k ∧ ((eN L j).1 : Int) = s) ∧ z = Z ∧ b = B) ∨ ((∀ j, j < k → ((eN L j).1 : Int) ≠ s) ∧ z = 0 ∧ b = false)

def DropPost (L : List (Nat × Nat)) (s : Int) (Z : Nat) (B : Bool) (C : Asn) (w0 : World) (S : Nat → Prop) (e : Ending) (w' : World) : Prop := ∃ (b : Option Addr) (c z : Nat) (y : Bool), e = .returned (.tuple #[.slice b (delL L s).length c, .int .i64 z, .bool y]) ∧ DropIs L s Z B L.length z y ∧ At (oA (.slice b (delL L s).length c) (delL L s) * C) w0 S w'

theorem wdF_lt {n : Nat} {sz : Nat → Nat} (ok : Snd n sz) : ∀ f p k r, wdF sz n f p k = some r → p + k < n
  | 0, p, k, r, h => by unfold wdF at h; cases h
  | f + 1, p, k, r, h => by
    unfold wdF at h
    cases e : nxF (fst' sz) p (n - p) with
    | none => rw [e] at h; cases h
    | some s =>
      rw [e] at h
      obtain ⟨h1, h2, h3, _⟩ := nxF_lt' e
      have hf := ok.fit s (fst_iff.1 h3)
      dsimp only at h
      by_cases hk : k < sz s
      · omega
      · rw [if_neg hk] at h
        have := wdF_lt ok f _ _ r h
        omega

section
variable {w0 w : World} {S : Nat → Prop} {a : Option Addr} {L : List (Nat × Nat)} {cap : Nat} {C : Asn}

set_option maxRecDepth 100000 in
set_option maxHeartbeats 4000000 in
theorem r13_drop (hS : Sm L) (s : Int) (Z : Nat) (B : Bool) (hZ : ∀ k, k < L.length → ((eN L k).1 : Int) = s → (eN L k).2 = Z ∧ B = true) (h : At (oA (.slice a L.length cap) L * C) w0 S w) :
    Calls Tryd.prog 27 #[.slice a L.length cap, .int .i64 s] w (DropPost L s Z B C w0 S) := by
  have hL := hS.1
  have BD := Lib.hid hS.2
  have NEW := Lib.hid (oA_new (L := L) h 0)
  have D1 := Lib.hid (fun k => delL_out (L := L) (s := s) (k := k))
  have D2 := Lib.hid (fun k => delL_on (L := L) (s := s) (k := k))
  have DL := Lib.hid (delL_len L s)
  have HZ := Lib.hid hZ
  obtain ⟨i0, hi, hz0, hz1', hz2⟩ := info_parts infOb
  have HI := Lib.hid hi
  have HZ0 := Lib.hid hz0
  have HZ1 := Lib.hid hz1'
  have HZ2 := Lib.hid hz2
  clear hi hz0 hz1' hz2 hS h hZ
  go_enter Tryd.func27, Tryd.ntmps27
  go_wp2_with fail
  go_loopw [7, 8, 9, 10] (fun ov zv bv iv wr => ∃ (k z : Nat) (y : Bool), iv = .int .i64 k ∧ zv = .int .i64 z ∧ bv = .bool y ∧ k ≤ L.length ∧ Hid (DropIs L s Z B k z y) ∧ Hid (At (oA ov (delL (L.take k) s) * (oA (.slice a L.length cap) L * C)) w0 S wr)) (fun _ _ _ iv _ => L.length - (intOf iv).toNat)
  case atStart => exact ⟨0, 0, false, rfl, rfl, rfl, Nat.zero_le _, Lib.hid (.inr ⟨fun j hj => absurd hj (by omega), rfl, rfl⟩), NEW⟩
  case round =>
    clear NEW
    obtain ⟨k, z, y, rfl, rfl, rfl, hk, HD, HA⟩ := hrel
    obtain ⟨bo, co, rfl, _⟩ := oc_of HA.out
    by_cases hlt : k < L.length
    · have hltI : (k : Int) < (L.length : Int) := by omega
      have HR := HA.out.re (B := oA (.slice a L.length cap) L * (oA (.slice bo (delL (L.take k) s).length co) (delL (L.take k) s) * C)) (by ac_rfl)
      obtain ⟨a', cap', he', hoc⟩ := oc_of HR
      cases he'
      obtain ⟨g, rfl, e0, e1⟩ := hoc k hlt
      obtain ⟨b1, b2⟩ := BD.out k hlt
      have hml := DL.out k
      clear hoc HR
      by_cases heq : ((eN L k).1 : Int) = s
      · have MX := D1.out k hlt heq
        obtain ⟨z1, z2⟩ := HZ.out k hlt heq
        have HD2 : Hid (DropIs L s Z B (k + 1) (eN L k).2 true) := Lib.hid (.inl ⟨⟨k, by omega, heq⟩, z1, z2.symm⟩)
        have A2 : Hid (At (oA (.slice bo (delL (L.take k) s).length co) (delL (L.take (k + 1)) s) * (oA (.slice (some ⟨g, 0, none⟩) L.length cap) L * C)) w0 S wr) := Lib.hid (by rw [MX]; exact HA.out)
        rw [heq] at e0
        clear HA MX z1 z2 HD heq hml
        generalize (eN L k).2 = zz at *
        go_wp2_with fail
        exact ⟨⟨k + 1, zz, true, by go_num, rfl, rfl, by omega, HD2, A2⟩, by simp [intOf]; omega⟩
      · have MX := D2.out k hlt heq
        have HD2 : Hid (DropIs L s Z B (k + 1) z y) := Lib.hid (by
          rcases HD.out with ⟨⟨j, hj, hj2⟩, h2⟩ | ⟨h1, h2⟩
          · exact .inl ⟨⟨j, by omega, hj2⟩, h2⟩
          · refine .inr ⟨fun j hj => ?_, h2⟩
            by_cases e : j = k
            · rw [e]; exact heq
            · exact h1 j (by omega))
        have HO := oA_own HA.out
        have PU := Lib.hid (fun g' cap' w1 => o_push (w1 := w1) (g' := g') (cap' := cap') (eN L k).1 (eN L k).2 HA.out)
        have FIN : Hid (∀ v w, At (oA v (delL (L.take k) s ++ [((eN L k).1, (eN L k).2)]) * (oA (.slice (some ⟨g, 0, none⟩) L.length cap) L * C)) w0 S w → At (oA v (delL (L.take (k + 1)) s) * (oA (.slice (some ⟨g, 0, none⟩) L.length cap) L * C)) w0 S w) := Lib.hid fun v w h => by rw [MX]; exact h
        have HO := Lib.hid HO
        clear HA MX HD
        generalize (eN L k).1 = x at *
        generalize (eN L k).2 = y' at *
        generalize delL (L.take k) s = M at *
        have hml : M.length ≤ 1048577 := by omega
        go_wp2_with (at_builtin; refine wpList_append_sep _ rfl _ _ 51 rfl 0 92 i0 (.agg #[.int .i64 0, .int .i64 0]) 2 16 Tryd.underlying51 HI.out HZ0.out HZ1.out HZ2.out rfl (by decide) _ _ _ rfl (World.ownsRow.alloc HO.out _) ⟨wr.heap.size, 0, none⟩ 1 1 [.int .i64 (x : Nat), .int .i64 (y' : Nat)] rfl rfl ?c1 ?c2 ?c3 ?c4 ?c5 ?c6 ?_)
        try (case c1 => exact ob_nw wr _ _)
        try (case c2 => simp [Value.oneCell'])
        try (case c3 => unfold maxLen; omega)
        try (case c4 => omega)
        try (case c5 => exact Nat.zero_le _)
        try (case c6 => omega)
        intro pg pc pw hown hgrow hwhere
        have A1 := PU.out _ _ _ hown hgrow (by simpa using hwhere)
        clear hown hgrow hwhere
        have A2 := Lib.hid (FIN.out _ _ A1)
        clear A1 FIN PU HO
        go_wp2_with fail
        exact ⟨⟨k + 1, z, y, by go_num, rfl, rfl, by omega, HD2, A2⟩, by simp [intOf]; omega⟩
    · obtain rfl : k = L.length := by omega
      have hltI : ¬ (L.length : Int) < (L.length : Int) := by omega
      have A2 : Hid (At (oA (.slice bo (delL L s).length co) (delL L s) * C) w0 S wr) := Lib.hid (by
        have h := HA.out
        rw [List.take_length] at h
        exact At.dropr (C := oA (.slice a L.length cap) L) (h.re (by ac_rfl)))
      rw [List.take_length]
      clear HA
      obtain ⟨DN, hDN⟩ : ∃ DN, (delL L s).length = DN := ⟨_, rfl⟩
      rw [hDN] at A2 ⊢
      have HDN := Lib.hid hDN
      clear hDN
      go_wp2_with fail
      refine bodyPost_ret (v := .tuple #[.slice bo DN co, .int .i64 z, .bool y]) (by simp [results, Tryd.f27, go_sem]) rfl ⟨bo, co, z, y, by rw [HDN.out], HD.out, by rw [HDN.out]; exact A2.out⟩
end

section
variable {w0 w : World} {S : Nat → Prop} {c p q n : Nat} {sz : Nat → Nat} {k : Int} {C : Asn}

set_option maxRecDepth 100000 in
theorem ex_drop_no (ok : ExOk n sz) (s : Int) (hn : ∀ x, fdI n sz s = some x → (x : Int) ≠ s) (hT : Tab w) (h : At (exX c p q n sz k * C) w0 S w) :
    Calls Tryd.prog 26 #[.pointer (some ⟨c, 0, none⟩), .int .i64 s] w fun e w' => e = .returned (.tuple #[.int .i64 0, .bool false]) ∧ w = w' := by
  have FD := ex_find ok s hT h
  clear h
  cases hf : fdI n sz s with
  | none =>
    rw [hf] at FD
    have FD := Lib.hid FD
    clear hf hn
    go_enter Tryd.func26, Tryd.ntmps26
    go_wp2_with (go_at_call 31; with_reducible refine FD.out.mono ?_; rintro e1 w1 ⟨rfl, rfl⟩; unfold exV)
    go_ret2
    exact ⟨rfl, rfl⟩
  | some x =>
    rw [hf] at FD
    have FD := Lib.hid FD
    have hx : ((x : Int) == s) = false := by simpa using hn x hf
    have hx2 : ((x : Int) != s) = true := by simpa using hn x hf
    have hx3 : ¬ (x : Int) = s := hn x hf
    clear hf hn
    go_enter Tryd.func26, Tryd.ntmps26
    go_wp2_with (go_at_call 31; with_reducible refine FD.out.mono ?_; rintro e1 w1 ⟨rfl, rfl⟩; unfold exV)
    go_ret2
    exact ⟨rfl, rfl⟩

set_option maxRecDepth 100000 in
set_option maxHeartbeats 2000000 in
theorem ex_drop_ok (ok : ExOk n sz) (s : Nat) (h0 : 0 < sz s) (hk : 1 ≤ k ∧ k ≤ 1048576) (hT : Tab w) (h : At (exX c p q n sz k * C) w0 S w) :
    Calls Tryd.prog 26 #[.pointer (some ⟨c, 0, none⟩), .int .i64 s] w fun e w' => e = .returned (.tuple #[.int .i64 (sz s), .bool true]) ∧ ExOk n (putZ sz s 0) ∧ At (exX c p q n (putZ sz s 0) (k - 1) * C) w0 S w' := by
  have hfit := ok.s.fit s h0
  have n2 := ok.n2
  have FD := ex_find ok s hT h
  rw [show fdI n sz (s : Int) = some s by unfold fdI; rw [if_pos (by omega), Int.toNat_natCast, fdF_some ok.s h0 (Nat.le_refl _) (by omega)]] at FD
  have FD := Lib.hid FD
  have ok' : ExOk n (putZ sz s 0) := ⟨ok.n1, ok.n2, ok.s.drop s⟩
  have T1 := bv_clear_ok (p := p) ok.f s (show s < n by omega)
  rw [show (fB n sz).set s false = fB n (putZ sz s 0) by unfold Bits.set fB; dsimp only; rw [fst_drop]] at T1
  have T2 := bv_clear_ok (p := q) ok.l (s + sz s - 1) (show s + sz s - 1 < n by omega)
  rw [show (lB n sz).set (s + sz s - 1) false = lB n (putZ sz s 0) by unfold Bits.set lB; dsimp only; rw [lst_drop ok.s h0], show ((s + sz s - 1 : Nat) : Int) = (s : Int) + (sz s : Int) - 1 by omega] at T2
  have E1 := Lib.hid (fun w' (h' : At (exX c p q n sz k * C) w0 S w') => exM_f T1 (show At (exM c p q (fB n sz) (lB n sz) k * C) w0 S w' from h'))
  have E2 := Lib.hid (fun w' (h' : At (exM c p q (fB n (putZ sz s 0)) (lB n sz) k * C) w0 S w') => exM_l T2 h')
  have OK := Lib.hid ok'
  obtain ⟨c0, c1, c2⟩ := exM_cells (F := fB n sz) (L := lB n sz) h
  have M1 := Lib.hid (E1.out _ h)
  have zb : (sz s : Int) ≤ 1048576 := by omega
  have sb : (s : Int) ≤ 1048576 := by omega
  have zp : (1 : Int) ≤ (sz s : Int) := by omega
  have WM : wrap64 ((s : Int) + (sz s : Int) - 1) = (s : Int) + (sz s : Int) - 1 := by unfold wrap64; omega
  clear h T1 T2 ok ok' h0 E1 hfit
  unfold exV at FD
  go_enter Tryd.func26, Tryd.ntmps26
  go_wp2_with (go_at_call 31; with_reducible refine FD.out.mono ?_; rintro e1 w1 ⟨rfl, rfl⟩)
  refine M1.out.mono ?_
  rintro e w2 ⟨rfl, hA⟩
  clear M1 c0 c1 c2
  obtain ⟨c0, c1, c2⟩ := exM_cells hA
  have M2 := Lib.hid (E2.out _ hA)
  clear hA
  go_wp2_with fail
  refine M2.out.mono ?_
  rintro e w3 ⟨rfl, hA⟩
  clear M2 c0 c1 c2
  obtain ⟨c0, c1, c2⟩ := exM_cells hA
  have f2 := exM_frozen hA
  have FF := Lib.hid (exM_setk hA (k - 1))
  clear hA
  go_wp2_with fail
  go_ret2
  exact ⟨rfl, OK.out, FF.out⟩

theorem exM_words {F L : Bits} (hF : F.n = n) (h : At (exM c p q F L k * C) w0 S w) : Calls Tryd.prog 41 #[.pointer (some ⟨c, 0, none⟩)] w fun e w' => e = .returned (.int .i64 n) ∧ w = w' := by
  obtain ⟨c0, c1, c2⟩ := exM_cells h
  obtain ⟨S1, h1⟩ := At.left (A := bvA p F) (C := blk c (.cells #[.pointer (some ⟨p, 0, none⟩), .pointer (some ⟨q, 0, none⟩), .int .i64 k] 90 (0, 0)) * bvA q L * C) (h.re (by unfold exM; ac_rfl))
  have LN := bv_len (v := F) _ _ h1
  rw [hF] at LN
  have LN := Lib.hid LN
  clear h h1 hF
  go_enter Tryd.func41, Tryd.ntmps41
  go_wp2_with (go_at_call 46; with_reducible refine LN.out.mono ?_; rintro e1 w1 ⟨rfl, rfl⟩)
  go_ret
  exact ⟨rfl, rfl⟩

theorem lay_wipe (n : Nat) (b : Nat → Bool) (hb : ∀ x, n ≤ x → b x = false) : (Bits.mk n b).lay 0 n false = ⟨n, fun _ => false⟩ := by
  unfold Bits.lay
  congr 1
  funext j
  dsimp only
  by_cases h : j < n
  · rw [if_pos (inR_iff.2 ⟨by omega, by omega, h⟩)]
  · rw [inR_not (by omega), hb j (by omega)]; rfl

set_option maxRecDepth 100000 in
set_option maxHeartbeats 4000000 in
theorem ex_wipe (ok : ExOk n sz) (h : At (exX c p q n sz k * C) w0 S w) :
    Calls Tryd.prog 28 #[.pointer (some ⟨c, 0, none⟩)] w fun e w' => e = .returned (.tuple #[]) ∧ At (exX c p q n (fun _ => 0) 0 * C) w0 S w' := by
  have T1 := bv_wipe (p := p) ok.f 0 n
  have T2 := bv_wipe (p := q) ok.l 0 n
  rw [show (fB n sz).lay 0 n false = fB n (fun _ => 0) from lay_wipe n (fst' sz) fun x hx => ok.f.far x hx] at T1
  rw [show (lB n sz).lay 0 n false = lB n (fun _ => 0) from (lay_wipe n (lst sz) fun x hx => ok.l.far x hx).trans (by unfold lB; congr 1; funext j; exact (lst_false fun x hx => absurd hx (by omega)).symm)] at T2
  have E1 := Lib.hid (fun w' (h' : At (exX c p q n sz k * C) w0 S w') => exM_f T1 (show At (exM c p q (fB n sz) (lB n sz) k * C) w0 S w' from h'))
  have E2 := Lib.hid (fun w' (h' : At (exM c p q (fB n (fun _ => 0)) (lB n sz) k * C) w0 S w') => exM_l T2 h')
  have WD := Lib.hid (fun w' (F : Bits) (hF : F.n = n) (h' : At (exM c p q F (lB n sz) k * C) w0 S w') => exM_words (n := n) hF h')
  obtain ⟨c0, c1, c2⟩ := exM_cells (F := fB n sz) (L := lB n sz) h
  have M1 := Lib.hid (E1.out _ h.drew)
  have W1 := Lib.hid (WD.out _ (fB n sz) rfl h.drew)
  clear h T1 T2 ok E1
  go_enter Tryd.func28, Tryd.ntmps28
  go_wp2_with fail
  go_region_with (first | (go_at_call 41; with_reducible refine W1.out.mono ?_; rintro e1 w1 ⟨rfl, rfl⟩) | (go_at_call 58; with_reducible refine M1.out.mono ?_; rintro e w2 ⟨rfl, hA⟩))
  all_goals
    clear M1 W1 c0 c1 c2
    obtain ⟨c0, c1, c2⟩ := exM_cells hA
    have M2 := Lib.hid (E2.out _ hA.drew)
    have W2 := Lib.hid (WD.out _ (fB n (fun _ => 0)) rfl hA.drew)
    clear hA WD E2
    go_wp2_with fail
    go_region_with (first | (go_at_call 41; with_reducible refine W2.out.mono ?_; rintro e1 w1 ⟨rfl, rfl⟩) | (go_at_call 58; with_reducible refine M2.out.mono ?_; rintro e w3 ⟨rfl, hA⟩))
    all_goals
      clear M2 W2 c0 c1 c2
      obtain ⟨c0, c1, c2⟩ := exM_cells hA
      have f2 := exM_frozen hA
      have FF := Lib.hid (exM_setk hA 0)
      clear hA
      go_wp2_with fail
      refine bodyPost_end (results_none rfl _ _ _) rfl ?_
      exact ⟨rfl, FF.out⟩
end

end Go.Proofs.YtaaapbfhedgnjaaDoor.BV
