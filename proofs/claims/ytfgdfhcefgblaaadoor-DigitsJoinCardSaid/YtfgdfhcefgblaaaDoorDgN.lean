/- Digits (layer 4): the separators; the iterator over the parts. -/
import Derived.Test.YtfgdfhcefgblaaaDoorDgM
import Derived.Test.YtfgdfhcefgblaaaDoorRfD
import Derived.Stop.RegionWithIn
import Derived.LoopIn
import Derived.OwnWalkIn
import Derived.Maps.OwnIn
namespace Go.Proofs.YtfgdfhcefgblaaaDoor
set_option linter.unusedVariables false
open Go.ChangeShapes Go.WideShapes Go.ChangeAt Go.RowKit Go.Shelf

attribute [local go_sem] Oper.semAt_some

theorem lf_is (c : UInt8) (w : World) : Calls Tryd.prog 38 #[.int .u8 c.toNat] w fun e w' => e = .returned (.bool (lfB c)) ∧ w = w' := by
  have h : Hid (((c.toNat : Int) == 10) = lfB c) := Lib.hid (by rw [Bool.eq_iff_iff, beq_iff_eq]; unfold lfB; rw [decide_eq_true_iff]; omega)
  go_enter Tryd.func38, Tryd.ntmps38
  go_wp2
  go_ret
  exact ⟨congrArg (fun b => Ending.returned (.bool b)) h.out, rfl⟩

theorem sp_is (c : UInt8) (w : World) : Calls Tryd.prog 39 #[.int .u8 c.toNat] w fun e w' => e = .returned (.bool (spB c)) ∧ w = w' := by
  have two : (((c.toNat : Int) == 32) = true ∧ spB c = true) ∨ (((c.toNat : Int) == 32) = false ∧ ((c.toNat : Int) == 9) = spB c) := by
    unfold spB
    by_cases h : c.toNat = 32
    · left; exact ⟨beq_iff_eq.2 (by omega), decide_eq_true (.inl h)⟩
    · right
      refine ⟨beq_eq_false_iff_ne.2 (by omega), ?_⟩
      rw [Bool.eq_iff_iff, beq_iff_eq, decide_eq_true_iff]; omega
  generalize spB c = b at *
  generalize c.toNat = k at *
  rcases two with ⟨h1, rfl⟩ | ⟨h1, h2⟩
  · go_enter Tryd.func39, Tryd.ntmps39
    go_wp2
    go_ret
    exact ⟨rfl, rfl⟩
  · go_enter Tryd.func39, Tryd.ntmps39
    go_wp2
    go_ret
    exact ⟨rfl, rfl⟩

structure PtRd (B1 B2 G : Nat) (s : ByteArray) (w : World) : Prop where
  txt : w.cell? ⟨B1, 0, none⟩ = some (.string s)
  fnc : w.cell? ⟨B2, 0, none⟩ = some (.func (.func G) #[] #[])

def PtOk (p : UInt8 → Bool) (s : ByteArray) (_ : Unit) (pre : List (List UInt8)) (x : List UInt8) : Prop := ∃ rest, ptS p [] s.data.toList = pre ++ x :: rest
def PtDn (p : UInt8 → Bool) (s : ByteArray) (_ : Unit) (pre : List (List UInt8)) : Prop := ptS p [] s.data.toList = pre

def cuS (s : ByteArray) (st i : Nat) : List UInt8 := (s.data.toList.drop st).take (i - st)
def PtI (p : UInt8 → Bool) (s : ByteArray) (pre : List (List UInt8)) (st i : Nat) : Prop := st ≤ i ∧ i ≤ s.size ∧ pre ++ ptS p (cuS s st i) (s.data.toList.drop i) = ptS p [] s.data.toList

theorem cu_ext {s : ByteArray} {st i : Nat} : s.extract st i = bS (cuS s st i) := ext_mid
theorem cu_self {s : ByteArray} {i : Nat} : cuS s i i = [] := by unfold cuS; rw [Nat.sub_self]; rfl
theorem cu_snoc {s : ByteArray} {st i : Nat} (h : st ≤ i) (hi : i < s.size) : cuS s st (i + 1) = cuS s st i ++ [s[i]] := by
  unfold cuS
  have h1 : i - st < (s.data.toList.drop st).length := by rw [List.length_drop]; simp; omega
  rw [show i + 1 - st = i - st + 1 by omega, List.take_succ_eq_append_getElem h1]
  congr 2
  rw [List.getElem_drop]
  simp only [show st + (i - st) = i by omega]
  rfl

section
variable {p : UInt8 → Bool} {s : ByteArray} {pre : List (List UInt8)} {st i : Nat}

theorem PtI.zero : PtI p s [] 0 0 := ⟨Nat.le_refl _, Nat.zero_le _, rfl⟩
theorem PtI.sep (h : PtI p s pre st i) (hi : i < s.size) (hc : p s[i] = true) : PtOk p s () pre (cuS s st i) ∧ PtI p s (pre ++ [cuS s st i]) (i + 1) (i + 1) := by
  obtain ⟨h1, h2, h3⟩ := h
  rw [ext_drop hi] at h3
  have h3 : pre ++ (if p s[i] then cuS s st i :: ptS p [] (s.data.toList.drop (i + 1)) else _) = _ := h3
  rw [if_pos hc] at h3
  refine ⟨⟨_, h3.symm⟩, Nat.le_refl _, hi, ?_⟩
  rw [cu_self, ← h3, List.append_assoc]; rfl
theorem PtI.on (h : PtI p s pre st i) (hi : i < s.size) (hc : p s[i] = false) : PtI p s pre st (i + 1) := by
  obtain ⟨h1, h2, h3⟩ := h
  rw [ext_drop hi] at h3
  have h3 : pre ++ (if p s[i] then _ else ptS p (cuS s st i ++ [s[i]]) (s.data.toList.drop (i + 1))) = _ := h3
  rw [hc] at h3
  exact ⟨by omega, hi, by rw [cu_snoc h1 hi]; exact h3⟩
theorem PtI.fin (h : PtI p s pre st i) (hi : ¬ i < s.size) : PtOk p s () pre (cuS s st s.size) ∧ PtDn p s () (pre ++ [cuS s st s.size]) := by
  obtain ⟨h1, h2, h3⟩ := h
  obtain rfl : i = s.size := by omega
  rw [show s.data.toList.drop s.size = [] from List.drop_eq_nil_of_le (Nat.le_of_eq (by simp))] at h3
  have h3 : pre ++ [cuS s st s.size] = _ := h3
  exact ⟨⟨[], h3.symm⟩, h3.symm⟩
end

theorem PtRd.drew {B1 B2 G : Nat} {s : ByteArray} {w : World} (h : PtRd B1 B2 G s w) : PtRd B1 B2 G s w.drew := ⟨h.txt, h.fnc⟩

set_option maxRecDepth 100000 in
set_option maxHeartbeats 8000000 in
theorem parts_iter {F : Fence} (hW : Wd F) (m B1 B2 G : Nat) (p : UInt8 → Bool) (s : ByteArray) (hs : s.size ≤ 1000000) (hm : 1 ≤ m)
    (hG : ∀ (c : UInt8) w, Calls Tryd.prog G #[.int .u8 c.toNat] w fun e w' => e = .returned (.bool (p c)) ∧ w = w')
    (EN : ∀ args w, (callFunc G args).run Tryd.prog w = .ok (.enter G args) w) :
    IterD F m Tryd.prog 44 #[.pointer (some ⟨B1, 0, none⟩), .pointer (some ⟨B2, 0, none⟩)] (fun x : List UInt8 => #[.string (bS x)]) (fun (_ : Unit) => PtRd B1 B2 G s) (PtOk p s) (PtDn p s) := by
  intro l J Jx s0 W hRd hY hD h0
  have hro := hW.ro
  have hf1 := hW.fn 44
  have hf2 := hW.fn G
  have R0 := hRd _ _ _ h0
  have b1 := R0.txt
  have b2 := R0.fnc
  have GC := Lib.hid (fun c w => hW.cal (n := m - 1) (hG c w))
  refine callsIn_of_wp Tryd.func44 rfl hf1 ?_ hro
  simp only [Tryd.ntmps44, List.size_toArray, List.length_cons, List.length_nil, Nat.reduceAdd, Nat.reduceSub, Array.replicate_succ, Array.replicate_zero, List.push_toArray, List.append_toArray, List.nil_append, List.cons_append]
  clear R0
  gi_wp2_with fail
  clear b1 b2
  gi_loopw [4, 5, 8] (fun u _ v wr => ∃ (pre : List (List UInt8)) (st i : Nat), J () pre wr ∧ u = .int .i64 st ∧ v = .int .i64 i ∧ Hid (PtI p s pre st i)) (fun _ _ v _ => s.size - (intOf v).toNat)
  case atStart => exact ⟨[], 0, 0, h0, rfl, rfl, Lib.hid PtI.zero⟩
  case round =>
    clear h0
    obtain ⟨pre, st, i, hJ, rfl, rfl, HI⟩ := hrel
    obtain ⟨i1, i2, _⟩ := HI.out
    have RD := (hRd _ _ _ hJ).drew
    have b1 := RD.txt
    have b2 := RD.fnc
    by_cases hlt : i < s.size
    · have hltI : (i : Int) < (s.size : Int) := by omega
      have C1 := Lib.hid (GC.out s[i])
      cases hc : p s[i] with
      | true =>
        rw [hc] at C1
        obtain ⟨k1, k2⟩ := HI.out.sep hlt hc
        have HI2 := Lib.hid k2
        have hY1 := hY () pre (cuS s st i) wr.drew (hD _ _ _ hJ) k1
        have X := Lib.hid (cu_ext (s := s) (st := st) (i := i))
        obtain ⟨fn, tmps, assign, body, hy, hR⟩ := hY1
        rw [← X.out] at hy
        clear k1 k2 HI hc RD
        gi_wp2_with fail
        gi_region_with (with_reducible refine (C1.out _).mono ?_; rintro e1 w1 ⟨rfl, rfl⟩)
        all_goals
          gi_wp2_with fail
          refine hR.mono ?_
          rintro e W3 (⟨rfl, s3, hJ3⟩ | ⟨rfl, hJx3⟩)
          · gi_wp2_with fail
            go_roundw
            case rel => exact ⟨pre ++ [cuS s st i], i + 1, i + 1, hJ3, by go_num, by go_num, HI2⟩
            case measure => simp [intOf]; omega
          · gi_wp2
            refine bodyPost_ret (results_none rfl _ _ _) rfl ?_
            exact ⟨⟨_, rfl⟩, .inr hJx3⟩
      | false =>
        rw [hc] at C1
        have HI2 := Lib.hid (HI.out.on hlt hc)
        have JD := hD _ _ _ hJ
        clear HI hc RD
        gi_wp2_with fail
        gi_region_with (with_reducible refine (C1.out _).mono ?_; rintro e1 w1 ⟨rfl, rfl⟩)
        all_goals
          gi_wp2_with fail
          go_roundw
          case rel => exact ⟨pre, st, i + 1, JD, rfl, by go_num, HI2⟩
          case measure => simp [intOf]; omega
    · have hltI : ¬ (i : Int) < (s.size : Int) := by omega
      obtain ⟨k1, k2⟩ := HI.out.fin hlt
      obtain rfl : i = s.size := by omega
      have b3 := (hRd _ _ _ hJ).txt
      have K2 := Lib.hid k2
      have hY1 := hY () pre (cuS s st s.size) wr hJ k1
      have X := Lib.hid (cu_ext (s := s) (st := st) (i := s.size))
      obtain ⟨fn, tmps, assign, body, hy, hR⟩ := hY1
      rw [← X.out] at hy
      clear k1 k2 HI RD b1 b2 GC
      gi_wp2_with fail
      refine hR.mono ?_
      rintro e W3 (⟨rfl, s3, hJ3⟩ | ⟨rfl, hJx3⟩)
      · gi_wp2
        go_end0
        exact ⟨⟨_, rfl⟩, .inl ⟨(), _, hJ3, K2.out⟩⟩
      · gi_wp2
        go_end0
        exact ⟨⟨_, rfl⟩, .inr hJx3⟩

end Go.Proofs.YtfgdfhcefgblaaaDoor
