/- A paged memory (layer 9): Need. -/
import Derived.Test.YtflkbefiopnigabDoorVmE
namespace Go.Proofs.YtflkbefiopnigabDoor.VM
open Go.ChangeShapes Go.WideShapes Go.ChangeAt Go.RowKit
open PT (QS upd pmA newQ)

theorem vm_need_range {p : Nat} {m : MV} (a b : Int) (h0 : a < 0 ∨ (m.words : Int) < b) : Tri1 Tryd.prog 11 #[.pointer (some ⟨p, 0, none⟩), .int .i64 a, .int .i64 b] (memA p m) (.int .i64 11) (memA p m) := by
  intro w S h
  obtain ⟨sh, c, t, s, q, v, e1, e2, hX⟩ := memA_open (At.refl h)
  obtain ⟨c0, c1, c2, c3, c4⟩ := mX_hdr hX
  have plt := World.block_lt_of_cell? w _ c0
  have FIN := Lib.hid (((At.refl h).alloc (.cells #[.pointer (some ⟨p, 0, none⟩)] 26)).re (Asn.star_comm _ _)).dropr
  clear h hX v e1 e2
  by_cases g : a < 0
  · clear h0
    go_enter Tryd.func11, Tryd.ntmps11
    go_wp2
    go_ret
    exact ⟨rfl, FIN.out⟩
  · have g2 : (m.words : Int) < b := by omega
    clear h0
    go_enter Tryd.func11, Tryd.ntmps11
    go_wp2
    go_ret
    exact ⟨rfl, FIN.out⟩

theorem vm_need_none {p : Nat} {m : MV} (a b : Int) (h0 : 0 ≤ a) (h1 : b ≤ (m.words : Int)) (h2 : b ≤ a) : Tri1 Tryd.prog 11 #[.pointer (some ⟨p, 0, none⟩), .int .i64 a, .int .i64 b] (memA p m) (.int .i64 0) (memA p m) := by
  intro w S h
  obtain ⟨sh, c, t, s, q, v, e1, e2, hX⟩ := memA_open (At.refl h)
  obtain ⟨c0, c1, c2, c3, c4⟩ := mX_hdr hX
  have plt := World.block_lt_of_cell? w _ c0
  have FIN := Lib.hid (((At.refl h).alloc (.cells #[.pointer (some ⟨p, 0, none⟩)] 26)).re (Asn.star_comm _ _)).dropr
  clear h hX v e1 e2
  go_enter Tryd.func11, Tryd.ntmps11
  go_wp2
  go_ret
  exact ⟨rfl, FIN.out⟩

def needN (m : MV) (a b : Nat) : Nat := (b - 1) / m.page - a / m.page + 1
def needFits (m : MV) (f n : Nat) : Prop := ∀ j, j < n → (needM m f j).mp (f + j) = true ∨ (needM m f j).used < m.room

theorem nd_push {w0 w w1 : World} {S : Nat → Prop} {p mv av x : Nat} {m : MV} {l : List Nat} {v v2 : Value} (h : At (ndX p mv av m l v) w0 S w)
    (hown : w1.ownsRow 0 3 1 v2 (l.length + 1) (natV l ++ [.int .i64 (x : Nat)])) (hgrow : (w.alloc (.cells #[.int .i64 (x : Nat)] 3)).grownBy w1 v.ownBlock)
    (hwhere : ∀ g, v2.ownBlock = some g → v.ownBlock = some g ∨ (w.alloc (.cells #[.int .i64 (x : Nat)] 3)).heap.size ≤ g) :
    w1.cell? ⟨av, 0, none⟩ = some v ∧ w1.frozen? ⟨av, 0, none⟩ = false ∧ At (ndA p mv av m (l ++ [x])) w0 S (w1.setCell ⟨av, 0, none⟩ v2) := by
  have H2 := (h.alloc (.cells #[.int .i64 (x : Nat)] 3)).re (B := own 3 1 v l.length (natV l) * (blk w.heap.size (.cells #[.int .i64 (x : Nat)] 3) * (blk mv (.cells #[.pointer (some ⟨p, 0, none⟩)] 26 (0, 0)) * (blk av (.cells #[v] 91 (0, 0)) * memA p m)))) (by unfold ndX; ac_rfl)
  have H3 := H2.grow hown hgrow hwhere
  have H4 := (H3.re (B := (blk av (.cells #[v] 91 (0, 0)) * (blk mv (.cells #[.pointer (some ⟨p, 0, none⟩)] 26 (0, 0)) * (own 3 1 v2 (l.length + 1) (natV l ++ [.int .i64 (x : Nat)]) * memA p m))) * blk w.heap.size (.cells #[.int .i64 (x : Nat)] 3)) (by ac_rfl)).dropr
  have hb := H4.blkIs
  refine ⟨by simp [World.cell?, hb], by simp [World.frozen?, hb], ?_⟩
  have H5 := H4.set_blk 0 v2
  refine ndA_of v2 (H5.re ?_)
  unfold ndX
  have e : natV (l ++ [x]) = natV l ++ [.int .i64 (x : Nat)] := by simp [natV]
  rw [e, List.length_append, List.length_singleton]
  show blk av (.cells #[v2] 91 (0, 0)) * _ = _
  ac_rfl

theorem nd_cells {w0 w : World} {S : Nat → Prop} {p mv av : Nat} {m : MV} {l : List Nat} {v : Value} (h : At (ndX p mv av m l v) w0 S w) : w.cell? ⟨av, 0, none⟩ = some v ∧ w.frozen? ⟨av, 0, none⟩ = false ∧ w.cell? ⟨mv, 0, none⟩ = some (.pointer (some ⟨p, 0, none⟩)) ∧ w.ownsRow 0 3 1 v l.length (natV l) := by
  have hm := At.blkIs h
  have ha := At.blkIs (h.re (B := blk av (.cells #[v] 91 (0, 0)) * (blk mv (.cells #[.pointer (some ⟨p, 0, none⟩)] 26 (0, 0)) * (own 3 1 v l.length (natV l) * memA p m))) (by unfold ndX; ac_rfl))
  have oL := At.ownIs (h.re (B := own 3 1 v l.length (natV l) * (blk mv (.cells #[.pointer (some ⟨p, 0, none⟩)] 26 (0, 0)) * (blk av (.cells #[v] 91 (0, 0)) * memA p m))) (by unfold ndX; ac_rfl))
  exact ⟨by simp [World.cell?, ha], by simp [World.frozen?, ha], by simp [World.cell?, hm], oL⟩

theorem one_nwV (wr : World) (x : Value) : ∀ j u, [x][j]? = some u → (wr.alloc (.cells #[x] 3)).cell? ((⟨wr.heap.size, 0, none⟩ : Addr).add j) = some u := by
  intro j u hj
  match j, hj with
  | 0, hj => simp at hj; subst hj; simp [Addr.add]

set_option maxRecDepth 100000 in
set_option maxHeartbeats 4000000 in
theorem vm_need_any {p : Nat} {m : MV} (hm : m.ok) (a b : Nat) (hab : a < b) (hb : b ≤ m.words) (w : World) (S : Nat → Prop) (h : (memA p m).holds w S) :
    Calls Tryd.prog 11 #[.pointer (some ⟨p, 0, none⟩), .int .i64 a, .int .i64 b] w fun e w' =>
      (needFits m (a / m.page) (needN m a b) ∧ e = .returned (.int .i64 0) ∧ At (memA p (needM m (a / m.page) (needN m a b))) w S w') ∨
      (¬ needFits m (a / m.page) (needN m a b) ∧ e = .returned (.int .i64 14) ∧ At (memA p { m with high := m.room }) w S w') := by
  obtain ⟨sh, c, t, s, q, v, e1, e2, hX⟩ := memA_open (At.refl h)
  obtain ⟨c0, c1, c2, c3, c4⟩ := mX_hdr hX
  have plt := World.block_lt_of_cell? w _ c0
  have ep : ((2 : Int) ^ sh) = (m.page : Int) := by rw [e1]; push_cast; rfl
  have s1 : ((a : Nat) : Int) / 2 ^ sh = ((a / m.page : Nat) : Int) := by rw [ep]; rfl
  have s2 : ((b : Nat) : Int) - 1 = ((b - 1 : Nat) : Int) := by omega
  have s3 : ((b - 1 : Nat) : Int) / 2 ^ sh = (((b - 1) / m.page : Nat) : Int) := by rw [ep]; rfl
  have le1 : a / m.page ≤ (b - 1) / m.page := Nat.div_le_div_right (by omega)
  have lt1 : (b - 1) / m.page < m.pages := by
    rw [Nat.div_lt_iff_lt_mul (by have := hm.p1; omega), hm.dv]; omega
  have hn2 := hm.n2
  have hw2 := hm.w2
  unfold needN
  have A0 := Lib.hid ((((At.refl h).alloc (.cells #[.pointer (some ⟨p, 0, none⟩)] 26)).alloc (.cells #[.slice none 0 0] 91)).own_nil 3 1)
  have HM := Lib.hid hm
  obtain ⟨i0, gi, gz0, gz1, gz2⟩ := info_parts infIntF
  have GI := Lib.hid gi
  have GZ0 := Lib.hid gz0
  have GZ1 := Lib.hid gz1
  have GZ2 := Lib.hid gz2
  clear gi gz0 gz1 gz2
  have hmf : ∀ (fn : Fn) (first cap : Array Value) (w : World), (Instr.makeFunc fn first cap).run Tryd.prog w = .ok (.func fn first cap) w := fun _ _ _ _ => rfl
  have hlo : Hid (∀ i, i < (b - 1) / m.page - a / m.page + 1 → a / m.page + i < m.pages) := Lib.hid fun i hi => by omega
  generalize a / m.page = f at *
  generalize (b - 1) / m.page = l at *
  have k1 : f ≤ 524288 := by omega
  have k2 : l ≤ 524288 := by omega
  have HW := Lib.hid (fun (i : Nat) (hi : i ≤ 524288) => (IntWalk.i64_in ((f : Int) + (i : Int)) (by omega) : IntKind.i64.wrap ((f : Int) + (i : Int)) = (f : Int) + (i : Int)))
  clear h hX v ep hm
  go_enter Tryd.func11, Tryd.ntmps11
  go_wp2_with fail
  clear c0 c1 c2 c3 c4 s1 s2 s3
  obtain ⟨mv, hmv⟩ : ∃ mv, w.heap.size = mv := ⟨_, rfl⟩
  rw [World.size_alloc, hmv] at A0
  rw [hmv]
  obtain ⟨av, hav⟩ : ∃ av, mv + 1 = av := ⟨_, rfl⟩
  rw [hav] at A0 ⊢
  have A1 := Lib.hid (ndA_of (l := []) (.slice none 0 0) (A0.out.re (B := ndX p mv av m [] (.slice none 0 0)) (by
    show own 3 1 (.slice none 0 0) 0 [] * _ = blk mv _ * (blk av _ * (own 3 1 (.slice none 0 0) 0 [] * memA p m))
    ac_rfl)))
  clear A0 hmv hav plt
  generalize (w.alloc (.cells #[.pointer (some ⟨p, 0, none⟩)] 26)).alloc (.cells #[.slice none 0 0] 91) = w9 at A1 ⊢
  go_loopw [45] (fun v wr => ∃ i : Nat, v = .int .i64 i ∧ i ≤ l - f + 1 ∧ Hid (At (ndA p mv av (needM m f i) (needL m f i)) w S wr ∧ needFits m f i)) (fun v _ => l - f + 1 - (intOf v).toNat)
  case atStart => exact ⟨0, rfl, Nat.zero_le _, Lib.hid ⟨A1.out, fun j hj => absurd hj (by omega)⟩⟩
  case round =>
    clear A1
    obtain ⟨i, rfl, hi, HA⟩ := hrel
    by_cases hlt : i < l - f + 1
    · have hltI : (i : Int) < (l : Int) - (f : Int) + 1 := by omega
      have hq := hlo.out i hlt
      have hwi := HW.out i (by omega)
      obtain ⟨a1, cap, hX, R⟩ := nd_open HA.out.1
      have cm := R.cm
      have hmo := needM_ok HM.out f i (by omega) HA.out.2
      have N := need_is m f i
      have hpg : f + i < (needM m f i).pages := by show f + i < (needM m f i).words / (needM m f i).page; rw [N.words, N.page]; exact hq
      have eq : ((f + i : Nat) : Int) = (f : Int) + (i : Int) := by omega
      have MP := vm_mapped (p := p) (m := needM m f i) ((f + i : Nat) : Int)
      cases e : (needM m f i).mp (f + i) with
      | true =>
        rw [frE_ok hpg e] at MP
        have MP2 := nd_ask MP hX
        rw [eq] at MP2
        have MPH := Lib.hid MP2
        have n1 : needM m f (i + 1) = needM m f i := by show (if _ then _ else _) = _; rw [if_pos e]
        have n2 : needL m f (i + 1) = needL m f i := by show (if _ then _ else _) = _; rw [if_pos e]
        have FIN : Hid (At (ndA p mv av (needM m f (i + 1)) (needL m f (i + 1))) w S wr ∧ needFits m f (i + 1)) := Lib.hid ⟨by rw [n1, n2]; exact HA.out.1, fun j hj => by
          by_cases ej : j = i
          · rw [ej]; exact .inl e
          · exact HA.out.2 j (by omega)⟩
        clear HA hX R hmo N hpg MP MP2 n1 n2 e
        go_wp2_with (go_at_call 18; with_reducible refine MPH.out.mono ?_; rintro e1 w1 ⟨rfl, rfl⟩)
        exact ⟨⟨i + 1, by go_num, by omega, FIN⟩, by simp [intOf]; omega⟩
      | false =>
        rw [frE_un hpg e] at MP
        have MP2 := nd_ask MP hX
        rw [eq] at MP2
        have MPH := Lib.hid MP2
        by_cases hu : (needM m f i).used < m.room
        · have T := nd_mem (vm_map_ok (p := p) hmo (f + i) hpg e (by rw [N.room]; exact hu)) hX
          rw [eq] at T
          have TH := Lib.hid T
          have n1 : needM m f (i + 1) = (needM m f i).map (f + i) := by show (if _ then _ else _) = _; rw [if_neg (by rw [e]; simp)]
          have n2 : needL m f (i + 1) = needL m f i ++ [f + i] := by show (if _ then _ else _) = _; rw [if_neg (by rw [e]; simp)]
          have FIN : Hid (∀ w', At (ndA p mv av ((needM m f i).map (f + i)) (needL m f i ++ [f + i])) w S w' → At (ndA p mv av (needM m f (i + 1)) (needL m f (i + 1))) w S w' ∧ needFits m f (i + 1)) := Lib.hid fun w' h' => ⟨by rw [n1, n2]; exact h', fun j hj => by
            by_cases ej : j = i
            · rw [ej]; exact .inr hu
            · exact HA.out.2 j (by omega)⟩
          have hll : (needL m f i).length ≤ 524288 := by
            have a := hmo.ur
            have b := N.used
            have c := HM.out.r2
            rw [N.room] at a; omega
          generalize (needM m f i).map (f + i) = m1 at *
          generalize needL m f i = ml at *
          clear HA hX R hmo N hpg MP MP2 n1 n2 e T hu
          go_wp2_with (go_at_call 18; with_reducible refine MPH.out.mono ?_; rintro e1 w1 ⟨rfl, rfl⟩)
          refine TH.out.mono ?_
          rintro e1 w2 ⟨rfl, hA⟩
          obtain ⟨ba, bf, bm, bo⟩ := nd_cells hA
          have BO := Lib.hid bo
          have HA2 := Lib.hid hA
          clear hA bo TH MPH cm
          go_wp2_with (at_builtin; refine wpList_append_sep _ rfl _ _ 91 rfl 0 3 i0 (.int .i64 0) 1 8 Tryd.underlying91 GI.out GZ0.out GZ1.out GZ2.out rfl (by decide) _ _ _ rfl (World.ownsRow.alloc BO.out _) ⟨w2.heap.size, 0, none⟩ 1 1 [.int .i64 ((f : Int) + (i : Int))] rfl rfl ?c1 ?c2 ?c3 ?c4 ?c5 ?c6 ?_)
          case c1 => exact one_nwV w2 _
          case c2 => simp [Value.oneCell']
          case c3 => unfold maxLen; omega
          case c4 => omega
          case c5 => exact Nat.zero_le _
          case c6 => omega
          intro g' cap' w3 hown' hgrow hwhere
          rw [← eq] at hown' hgrow
          obtain ⟨d0, d1, A3⟩ := nd_push HA2.out hown' hgrow (fun q hq => by
            cases hq
            rcases hwhere with h | h
            · exact .inl h
            · exact .inr (by simpa using h))
          have FF := Lib.hid (FIN.out _ A3)
          clear hown' hgrow hwhere A3 BO HA2 ba bf bm FIN
          go_wp2
          exact ⟨⟨i + 1, by go_num, by omega, FF⟩, by simp [intOf]; omega⟩
        · have hue : (needM m f i).used = (needM m f i).room := by
            have a := hmo.ur
            rw [N.room] at a ⊢; omega
          have T := nd_ask (vm_map_full (p := p) (f + i) hpg e hue) hX
          rw [eq] at T
          have TH := Lib.hid T
          have UD := Lib.hid (HA.out.1.tri0 (vm_undo hmo (needL m f i) N.nd (fun x hx => (N.mp x).2 (.inr hx)) (by
            have b := N.used
            have c := HM.out.r2
            rw [N.room] at hue; omega)))
          have NF : Hid (¬ needFits m f (l - f + 1)) := Lib.hid fun hf => by
            rcases hf i hlt with g | g
            · rw [e] at g; cases g
            · exact hu g
          have FIN : Hid (∀ w', At (ndA p mv av (undoM (needM m f i) (needL m f i) (needL m f i).length) (needL m f i)) w S w' → At (memA p { m with high := m.room }) w S w') := Lib.hid fun w' h' => undo_all HM.out hmo (by rw [hue, N.room]) (nd_end h')
          clear HA hX R hmo N hpg MP MP2 e T hu hue
          go_wp2_with (go_at_call 18; with_reducible refine MPH.out.mono ?_; rintro e1 w1 ⟨rfl, rfl⟩)
          refine TH.out.mono ?_
          rintro e1 w2 ⟨rfl, rfl⟩
          go_wp2_with (go_at_call 55; with_reducible refine UD.out.mono ?_; rintro e1 w2 ⟨rfl, hB⟩)
          go_ret
          exact .inr ⟨NF.out, rfl, FIN.out _ hB⟩
    · obtain rfl : i = l - f + 1 := by omega
      have hltI : ¬ ((l - f + 1 : Nat) : Int) < (l : Int) - (f : Int) + 1 := by omega
      go_wp2
      go_ret
      exact .inl ⟨HA.out.2, rfl, nd_end HA.out.1⟩

theorem vm_need_ok {p : Nat} {m : MV} (hm : m.ok) (a b : Nat) (hab : a < b) (hb : b ≤ m.words) (hf : needFits m (a / m.page) (needN m a b)) : Tri1 Tryd.prog 11 #[.pointer (some ⟨p, 0, none⟩), .int .i64 a, .int .i64 b] (memA p m) (.int .i64 0) (memA p (needM m (a / m.page) (needN m a b))) := by
  intro w S h
  refine (vm_need_any hm a b hab hb w S h).mono ?_
  rintro e w' (⟨_, h1, h2⟩ | ⟨h1, _⟩)
  · exact ⟨h1, h2⟩
  · exact absurd hf h1

theorem vm_need_full {p : Nat} {m : MV} (hm : m.ok) (a b : Nat) (hab : a < b) (hb : b ≤ m.words) (hf : ¬ needFits m (a / m.page) (needN m a b)) : Tri1 Tryd.prog 11 #[.pointer (some ⟨p, 0, none⟩), .int .i64 a, .int .i64 b] (memA p m) (.int .i64 14) (memA p { m with high := m.room }) := by
  intro w S h
  refine (vm_need_any hm a b hab hb w S h).mono ?_
  rintro e w' (⟨h1, _⟩ | ⟨_, h1, h2⟩)
  · exact absurd h1 hf
  · exact ⟨h1, h2⟩

end Go.Proofs.YtflkbefiopnigabDoor.VM
