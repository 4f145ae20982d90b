/- The reference's Kinds of layer 14: the list of the kinds of all fields. -/
import Derived.Test.YtpdnbkibnpkfbabHdrI
namespace Go.Proofs.Ytpdnbkibnpkfbab
open Go.ChangeShapes Go.WideShapes Go.ChangeAt Go.RowKit

theorem infoInt : (Try.prog.info? 3).map (fun i => (i.zero, i.size, i.bytes)) = some (some (.int .i64 0), 1, 8) := by kernel_rfl

/-- the kinds of all fields, in order -/
def kindsL (p f w : Int) : List Int := List.replicate p.toNat 1 ++ List.replicate f.toNat 2 ++ List.replicate w.toNat 3

def KindsPost (p f w : Int) (W : World) (e : Ending) (W' : World) : Prop :=
  ∃ v n, e = .returned v ∧ n = (kindsL p f w).length ∧ W'.ownsRow (W.heap.size + 1) 3 1 v n ((kindsL p f w).map (Value.int .i64)) ∧ Below W.heap.size W W'

theorem kinds_bad (p f w : Int) (h : ¬ Hok p f w) (W : World) :
    Calls Try.prog 36 #[hdr p f w] W (KindsPost 0 0 0 W) := by
  have H := Lib.hid h
  clear h
  go_enter Try.func36, Try.ntmps36
  go_wp2_with (go_at_call 25; refine (may_bad p f w H.out _).mono ?_; rintro e w1 ⟨rfl, hb⟩; obtain ⟨hc, hz⟩ := bcell hb; have hs := hb.size; try simp at hs hc hz)
  go_ret
  exact ⟨_, _, rfl, rfl, World.ownsRow_nil _ _ _ _, (by repeat (first | exact Below.refl _ _ | refine below_drewN ?_ _ | refine Below.drew ?_ | refine Below.alloc ?_ (by first | omega | (simp; done) | (simp; omega)) _ | refine Below.setCell ?_ (by first | omega | (simp; done) | (simp; omega)) _ | refine Below.step ?_ (by assumption) (by first | omega | (simp; done) | (simp; omega))))⟩

theorem one_new (wr : World) (x : Int) : ∀ j u, [Value.int .i64 x][j]? = some u → (wr.alloc (.cells #[.int .i64 x] 3)).cell? ((⟨wr.heap.size, 0, none⟩ : Addr).add j) = some u := by
  intro j u hj
  match j, hj with
  | 0, hj => simp at hj; subst hj; simp [Addr.add]

def kseg (l : List Int) (k : Nat) (x : Int) : List Value := (l ++ List.replicate k x).map (Value.int .i64)

theorem kseg_snoc (l : List Int) (k : Nat) (x : Int) : kseg l k x ++ [.int .i64 x] = kseg l (k + 1) x := by
  unfold kseg
  rw [List.replicate_succ', ← List.append_assoc, List.map_append (l₂ := [x])]; rfl

theorem kseg_full (l : List Int) (k : Nat) (x y : Int) : kseg (l ++ List.replicate k x) 0 y = kseg l k x := by simp [kseg]

set_option maxHeartbeats 1000000 in
theorem kinds_ok (p f w : Int) (hp : 0 ≤ p) (hf : 0 ≤ f) (hw : 0 ≤ w) (h : p + f + w ≤ 255) (W : World) :
    Calls Try.prog 36 #[hdr p f w] W (KindsPost p f w W) := by
  obtain ⟨p, rfl⟩ := Int.eq_ofNat_of_zero_le hp
  obtain ⟨f, rfl⟩ := Int.eq_ofNat_of_zero_le hf
  obtain ⟨w, rfl⟩ := Int.eq_ofNat_of_zero_le hw
  obtain ⟨i0, hi, hz0, hz1, hz2⟩ := info_parts infoInt
  have HI := Lib.hid hi
  have HZ0 := Lib.hid hz0
  have HZ1 := Lib.hid hz1
  have HZ2 := Lib.hid hz2
  clear hi hz0 hz1 hz2
  go_enter Try.func36, Try.ntmps36
  go_wp2_with fail
  refine (may_ok _ _ _ hp hf hw h _).mono ?_
  rintro e w1 ⟨rfl, hb⟩
  obtain ⟨k0, k1, k2, kl, kb⟩ := keep3 (B := W.heap.size) (b := W.heap.size) (W := W) (x := .int .i64 p) (y := .int .i64 f) (z := .int .i64 w) hb ⟨by simp, by simp, by simp, by simp, (Below.refl _ _).alloc (Nat.le_refl _) _⟩ (by simp) (by simp)
  clear hb
  go_wp2
  go_loopw [3, 4] (fun v i wr => ∃ k : Nat, k ≤ p ∧ i = .int .i64 k ∧ wr.ownsRow (W.heap.size + 1) 3 1 v (k) (kseg [] k 1) ∧ Below (W.heap.size + 1) w1 wr) (fun _ i _ => p - (intOf i).toNat)
  case atStart => exact ⟨0, Nat.zero_le _, rfl, World.ownsRow_nil _ _ _ _, Below.refl _ _⟩
  case round =>
    obtain ⟨k, hk, rfl, hown, hb1⟩ := hrel
    have c0 := (hb1.cell (p := ⟨W.heap.size, 0, none⟩) (by simp)).trans k0
    have hs1 := hb1.size
    by_cases hlt : k < p
    · go_wp2_with (at_builtin; refine wpList_append_own _ rfl _ _ 30 rfl (W.heap.size + 1) 3 i0 (.int .i64 0) 1 8 Try.underlying30 HI.out HZ0.out HZ1.out HZ2.out rfl (by decide) _ _ _ rfl (hown.alloc _) ⟨wr.heap.size, 0, none⟩ 1 1 [.int .i64 1] rfl rfl (one_new _ _) (by simp [Value.oneCell']) (by unfold maxLen; omega) (by omega) (by simp; omega) ?_)
      intro v' w' hown' hgrow _
      rw [kseg_snoc] at hown'
      have hb2 : Below (W.heap.size + 1) w1 w' := (hb1.alloc (by omega) _).grown hgrow (by simp; omega) (fun q hq => (hown.lt q hq).1)
      clear hown hb1
      go_wp2
      go_roundw
      case rel => exact ⟨k + 1, by omega, by go_num, hown', hb2⟩
      case measure => simp [intOf]; omega
    · obtain rfl : p = k := by omega
      go_wp2
      clear c0 hlt hs1 hk
      obtain ⟨wo, rfl⟩ : ∃ wo : World, wo = wr := ⟨_, rfl⟩
      go_loopw [3, 5] (fun v i wr => ∃ k : Nat, k ≤ f ∧ i = .int .i64 k ∧ wr.ownsRow (W.heap.size + 1) 3 1 v (p + k) (kseg ([] ++ List.replicate p 1) k 2) ∧ Below (W.heap.size + 1) w1 wr) (fun _ i _ => f - (intOf i).toNat)
      case atStart => exact ⟨0, Nat.zero_le _, rfl, by rw [kseg_full]; exact hown, hb1⟩
      case round =>
        clear hown hb1
        obtain ⟨k, hk, rfl, hown, hb1⟩ := hrel
        have c0 := (hb1.cell (p := ⟨W.heap.size, 1, none⟩) (by simp)).trans k1
        have hs1 := hb1.size
        by_cases hlt : k < f
        · go_wp2_with (at_builtin; refine wpList_append_own _ rfl _ _ 30 rfl (W.heap.size + 1) 3 i0 (.int .i64 0) 1 8 Try.underlying30 HI.out HZ0.out HZ1.out HZ2.out rfl (by decide) _ _ _ rfl (hown.alloc _) ⟨wr.heap.size, 0, none⟩ 1 1 [.int .i64 2] rfl rfl (one_new _ _) (by simp [Value.oneCell']) (by unfold maxLen; omega) (by omega) (by simp; omega) ?_)
          intro v' w' hown' hgrow _
          rw [kseg_snoc, Nat.add_assoc] at hown'
          have hb2 : Below (W.heap.size + 1) w1 w' := (hb1.alloc (by omega) _).grown hgrow (by simp; omega) (fun q hq => (hown.lt q hq).1)
          clear hown hb1
          go_wp2
          go_roundw
          case rel => exact ⟨k + 1, by omega, by go_num, hown', hb2⟩
          case measure => simp [intOf]; omega
        · obtain rfl : f = k := by omega
          go_wp2
          clear c0 hlt hs1 hk
          obtain ⟨wo, rfl⟩ : ∃ wo : World, wo = wr := ⟨_, rfl⟩
          go_loopw [3, 6] (fun v i wr => ∃ k : Nat, k ≤ w ∧ i = .int .i64 k ∧ wr.ownsRow (W.heap.size + 1) 3 1 v (p + f + k) (kseg (([] ++ List.replicate p 1) ++ List.replicate f 2) k 3) ∧ Below (W.heap.size + 1) w1 wr) (fun _ i _ => w - (intOf i).toNat)
          case atStart => exact ⟨0, Nat.zero_le _, rfl, by rw [kseg_full]; exact hown, hb1⟩
          case round =>
            clear hown hb1
            obtain ⟨k, hk, rfl, hown, hb1⟩ := hrel
            have c0 := (hb1.cell (p := ⟨W.heap.size, 2, none⟩) (by simp)).trans k2
            have hs1 := hb1.size
            by_cases hlt : k < w
            · go_wp2_with (at_builtin; refine wpList_append_own _ rfl _ _ 30 rfl (W.heap.size + 1) 3 i0 (.int .i64 0) 1 8 Try.underlying30 HI.out HZ0.out HZ1.out HZ2.out rfl (by decide) _ _ _ rfl (hown.alloc _) ⟨wr.heap.size, 0, none⟩ 1 1 [.int .i64 3] rfl rfl (one_new _ _) (by simp [Value.oneCell']) (by unfold maxLen; omega) (by omega) (by simp; omega) ?_)
              intro v' w' hown' hgrow _
              rw [kseg_snoc, Nat.add_assoc] at hown'
              have hb2 : Below (W.heap.size + 1) w1 w' := (hb1.alloc (by omega) _).grown hgrow (by simp; omega) (fun q hq => (hown.lt q hq).1)
              clear hown hb1
              go_wp2
              go_roundw
              case rel => exact ⟨k + 1, by omega, by go_num, hown', hb2⟩
              case measure => simp [intOf]; omega
            · obtain rfl : w = k := by omega
              go_wp2
              go_ret
              exact ⟨_, p + f + w, rfl, by simp [kindsL]; omega, by simpa [kseg, kindsL] using hown, kb.trans (hb1.mono (by omega))⟩

end Go.Proofs.Ytpdnbkibnpkfbab
