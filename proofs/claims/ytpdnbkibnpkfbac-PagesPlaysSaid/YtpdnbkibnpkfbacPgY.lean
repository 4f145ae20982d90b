/- A page map of any pages (layer 8): Count. -/
import Derived.Test.YtpdnbkibnpkfbacPgX
namespace Go.Proofs.Ytpdnbkibnpkfbac.PT
open Go.ChangeShapes Go.WideShapes Go.ChangeAt Go.RowKit

/-- how many pages below n are mapped -/
def pc (fr : Nat → Nat) (n : Nat) : Nat := cnt (fun q => fr q != 0) n

theorem cnt_add (g : Nat → Bool) (a : Nat) : ∀ n, cnt g (a + n) = cnt g a + cnt (fun j => g (a + j)) n
  | 0 => rfl
  | n + 1 => by
    show cnt g (a + n) + (if g (a + n) then 1 else 0) = cnt g a + (cnt (fun j => g (a + j)) n + (if g (a + n) then 1 else 0))
    rw [cnt_add g a n]; omega

theorem pc_table (fr : Nat → Nat) (i : Nat) : pc fr (i * 512 + 512) = pc fr (i * 512) + cntN fr i := cnt_add _ _ _

theorem pc_succ (fr : Nat → Nat) (n : Nat) : pc fr (n + 1) = pc fr n + (if fr n ≠ 0 then 1 else 0) := by
  show pc fr n + (if (fr n != 0) = true then 1 else 0) = _
  by_cases h : fr n = 0 <;> simp [h]

theorem pc_zero (fr : Nat → Nat) (a : Nat) : ∀ n, (∀ q, a ≤ q → q < a + n → fr q = 0) → pc fr (a + n) = pc fr a
  | 0, _ => rfl
  | n + 1, h => by
    rw [← Nat.add_assoc, pc_succ, pc_zero fr a n (fun q h1 h2 => h q h1 (by omega)), h (a + n) (by omega) (by omega)]
    simp

theorem pc_le (fr : Nat → Nat) (n : Nat) : pc fr n ≤ n := cnt_le _ _

set_option maxHeartbeats 2000000 in
theorem pm_count1 {c : Nat} {s : QS} (hs : s.ok) (f t : Int) (hf : f ≤ 9223372036854775807) (ht : -9223372036854775808 ≤ t) (h1 : (s.pages : Int) < t) (h2 : f < 0) (L H : Nat) (hL : (L : Int) = (0 : Int)) (hcmp : ∀ r : Nat, (r : Int) < (s.pages : Int) ↔ r < H) (hH : H ≤ s.pages) :
    Look Try.prog 32 #[.pointer (some ⟨c, 0, none⟩), .int .i64 f, .int .i64 t] (pmA c s) (.int .i64 ((pc s.fr H - pc s.fr (min L H) : Nat) : Int)) := by
  intro w S h
  obtain ⟨b, ad, hX⟩ := pm_open (At.refl h)
  obtain ⟨hh, hr⟩ := pm_hdr hX
  obtain ⟨c0, c1, c2, f0, f1, f2⟩ := pcells hh
  have SL := Lib.hid (pm_slot hX)
  have MP := Lib.hid (fun n k hk => pm_mapped hs k hk (w.drewN n) S ((pmA c s).keep (w' := w.drewN n) h (fun _ _ => rfl)))
  have ntl := nt_le hs
  have hp2 := hs.p2
  have HCMP := Lib.hid hcmp
  have HIJ := Lib.hid (ij s)
  have HP1 := Lib.hid (pc_le s.fr)
  have HPS := Lib.hid (pc_succ s.fr)
  have HPZ := Lib.hid (pc_zero s.fr)
  have HPT := Lib.hid (pc_table s.fr)
  have HCZ := Lib.hid (fun i => cntN_zero (fr := s.fr) (i := i))
  have HCL := Lib.hid (cntN_le s.fr)
  clear h hX hh hr hs hcmp
  go_enter Try.func32, Try.ntmps32
  go_wp2
  go_quiet (fail)
  go_wp2
  go_loop [7, 8, 9] (fun nv v _ => ∃ r n : Nat, v = .int .i64 r ∧ nv = .int .i64 n ∧ L ≤ r ∧ r ≤ 524288 + L ∧ Hid (n + pc s.fr (min L H) = pc s.fr (min r H))) (fun _ v _ => H - (intOf v).toNat)
  case atStart => exact ⟨L, 0, by rw [hL], rfl, Nat.le_refl _, by omega, Lib.hid (by simp)⟩
  case round =>
    obtain ⟨r, n, rfl, rfl, hLr, hrb, HR⟩ := hrel
    by_cases hlt : r < H
    · have hltX : (r : Int) < (s.pages : Int) := (HCMP.out r).2 hlt
      obtain ⟨i, j, hij, hj, hi⟩ := HIJ.out r (by omega)
      obtain ⟨b0, n0, n1⟩ := SL.out i hi
      have M := MP.out nq r (by omega)
      have eo := or511 i j hj (by omega)
      rw [← hij] at eo
      have e1 : (r : Int) / 512 = i := by omega
      have e2 : (r : Int) % 512 = j := by omega
      have h512 := HCMP.out (r + 511)
      have hRR := HR.out
      rw [Nat.min_eq_left (by omega : r ≤ H)] at hRR
      have hnb : n ≤ 524288 := by have := HP1.out r; omega
      have hp1 := HPS.out r
      have hi0 : i < s.nt := hi
      have hrr1 : r + 512 < 2000000 := by omega
      cases had : ad i with
      | none =>
        have z := n0 had
        rw [had] at b0
        have b1 : w.cell? ⟨b, i, none⟩ = some (.pointer none) := b0
        have HR2 : Hid (n + pc s.fr (min L H) = pc s.fr (min (i * 512 + 512) H)) := Lib.hid (by
          have := HPZ.out r (min (i * 512 + 512) H - r) (fun q ha hb => by
            have := HCZ.out i z (q - i * 512) (by omega)
            rw [show i * 512 + (q - i * 512) = q by omega] at this
            exact this)
          rw [show r + (min (i * 512 + 512) H - r) = min (i * 512 + 512) H by omega] at this
          rw [this]; exact hRR)
        have hnx : r < i * 512 + 512 := by omega
        have hLx : L ≤ i * 512 + 512 := by omega
        have hBx : i * 512 + 512 ≤ 524288 + L := by omega
        have HRR := Lib.hid (Int.toNat_natCast r)
        have HX := Lib.hid hltX
        clear b0 n0 n1 z had M hRR hp1 h512 HR hij e2
        generalize hrr : (r : Int) = rr at *
        have HQ := Lib.hid hrr
        clear hrr
        have hr0 : 0 ≤ rr := by have := HQ.out; omega
        go_wp2
        go_round
        case rel => exact ⟨i * 512 + 512, n, by (first | go_num | (congr 1; omega)), rfl, hLx, hBx, HR2⟩
        case measure => have := HQ.out; simp [intOf]; omega
      | some T =>
        have t5 := n1 T had
        rw [had] at b0
        have b1 : w.cell? ⟨b, i, none⟩ = some (.pointer (some ⟨T, 0, none⟩)) := b0
        by_cases hfull : j = 0 ∧ r + 512 ≤ H
        · have hXf : (512 : Int) ≤ (s.pages : Int) - r := by have := h512.2 (by omega); omega
          have hct := HCL.out i
          have HR2 : Hid ((n + cntN s.fr i) + pc s.fr (min L H) = pc s.fr (min (i * 512 + 512) H)) := Lib.hid (by
            have := HPT.out i
            rw [Nat.min_eq_left (by omega : i * 512 + 512 ≤ H), this, show i * 512 = r by omega]; omega)
          have hLx : L ≤ i * 512 + 512 := by omega
          have hBx : i * 512 + 512 ≤ 524288 + L := by omega
          have hnx : r < i * 512 + 512 := by omega
          have e3 : (r : Int) % 512 = 0 := by omega
          generalize hcn : cntN s.fr i = cn at *
          have HCN := Lib.hid hcn
          clear b0 n0 n1 had M hRR hp1 h512 HR hij e2 hfull hcn
          generalize hrr : (r : Int) = rr at *
          have HQ := Lib.hid hrr
          clear hrr
          have hr0 : 0 ≤ rr := by have := HQ.out; omega
          go_wp2
          go_round
          case rel => exact ⟨i * 512 + 512, n + cn, by (first | go_num | (congr 1; omega)), by (first | go_num | (congr 1; omega)), hLx, hBx, HR2⟩
          case measure => have := HQ.out; simp [intOf]; omega
        · have HR3 : Hid (s.fr r ≠ 0 → (n + 1) + pc s.fr (min L H) = pc s.fr (min (r + 1) H)) := Lib.hid (fun hz => by
            rw [Nat.min_eq_left (by omega : r + 1 ≤ H), hp1, if_pos hz]; omega)
          have HR4 : Hid (s.fr r = 0 → n + pc s.fr (min L H) = pc s.fr (min (r + 1) H)) := Lib.hid (fun hz => by
            rw [Nat.min_eq_left (by omega : r + 1 ≤ H), hp1, if_neg (by omega)]; omega)
          have hg : (¬ (j : Int) = 0) ∨ ((j : Int) = 0 ∧ ¬ (512 : Int) ≤ (s.pages : Int) - r) := by
            by_cases j0 : j = 0
            · refine .inr ⟨by omega, fun e => hfull ⟨j0, ?_⟩⟩
              have := h512.1 (by omega); omega
            · exact .inl (by omega)
          clear b0 n0 n1 had hRR hp1 h512 HR hij hfull t5
          generalize hrr : (r : Int) = rr at *
          have HQ := Lib.hid hrr
          clear hrr
          have hr0 : 0 ≤ rr := by have := HQ.out; omega
          by_cases hz : s.fr r = 0
          · rw [hz] at M
            have M := Lib.hid M
            have HR5 := Lib.hid (HR4.out hz)
            clear hz HR3 HR4
            rcases hg with g | ⟨g, g2⟩
            · go_wp2_with (go_at_call 39; refine M.out.mono ?_; rintro e1 w1 ⟨rfl, rfl⟩)
              go_round
              case rel => exact ⟨r + 1, n, by (have := HQ.out; first | go_num | (congr 1; omega)), rfl, by omega, by omega, HR5⟩
              case measure => have := HQ.out; simp [intOf]; omega
            · rw [g] at e2
              go_wp2_with (go_at_call 39; refine M.out.mono ?_; rintro e1 w1 ⟨rfl, rfl⟩)
              go_round
              case rel => exact ⟨r + 1, n, by (have := HQ.out; first | go_num | (congr 1; omega)), rfl, by omega, by omega, HR5⟩
              case measure => have := HQ.out; simp [intOf]; omega
          · rw [show (s.fr r != 0) = true by simpa using hz] at M
            have M := Lib.hid M
            have HR5 := Lib.hid (HR3.out hz)
            clear hz HR3 HR4
            rcases hg with g | ⟨g, g2⟩
            · go_wp2_with (go_at_call 39; refine M.out.mono ?_; rintro e1 w1 ⟨rfl, rfl⟩)
              go_round
              case rel => exact ⟨r + 1, n + 1, by (have := HQ.out; first | go_num | (congr 1; omega)), by (first | go_num | (congr 1; omega)), by omega, by omega, HR5⟩
              case measure => have := HQ.out; simp [intOf]; omega
            · rw [g] at e2
              go_wp2_with (go_at_call 39; refine M.out.mono ?_; rintro e1 w1 ⟨rfl, rfl⟩)
              go_round
              case rel => exact ⟨r + 1, n + 1, by (have := HQ.out; first | go_num | (congr 1; omega)), by (first | go_num | (congr 1; omega)), by omega, by omega, HR5⟩
              case measure => have := HQ.out; simp [intOf]; omega
    · have hltX : ¬ (r : Int) < (s.pages : Int) := fun e => hlt ((HCMP.out r).1 e)
      have e1 := HR.out
      rw [Nat.min_eq_right (by omega : H ≤ r)] at e1
      have HE : Hid ((n : Int) = ((pc s.fr H - pc s.fr (min L H) : Nat) : Int)) := Lib.hid (by omega)
      clear e1
      go_wp2
      go_ret
      exact ⟨by rw [← HE.out]; rfl, nq, rfl⟩

set_option maxHeartbeats 2000000 in
theorem pm_count2 {c : Nat} {s : QS} (hs : s.ok) (f t : Int) (hf : f ≤ 9223372036854775807) (ht : -9223372036854775808 ≤ t) (h1 : (s.pages : Int) < t) (h2 : ¬ f < 0) (L H : Nat) (hL : (L : Int) = f) (hcmp : ∀ r : Nat, (r : Int) < (s.pages : Int) ↔ r < H) (hH : H ≤ s.pages) :
    Look Try.prog 32 #[.pointer (some ⟨c, 0, none⟩), .int .i64 f, .int .i64 t] (pmA c s) (.int .i64 ((pc s.fr H - pc s.fr (min L H) : Nat) : Int)) := by
  intro w S h
  obtain ⟨b, ad, hX⟩ := pm_open (At.refl h)
  obtain ⟨hh, hr⟩ := pm_hdr hX
  obtain ⟨c0, c1, c2, f0, f1, f2⟩ := pcells hh
  have SL := Lib.hid (pm_slot hX)
  have MP := Lib.hid (fun n k hk => pm_mapped hs k hk (w.drewN n) S ((pmA c s).keep (w' := w.drewN n) h (fun _ _ => rfl)))
  have ntl := nt_le hs
  have hp2 := hs.p2
  have HCMP := Lib.hid hcmp
  have HIJ := Lib.hid (ij s)
  have HP1 := Lib.hid (pc_le s.fr)
  have HPS := Lib.hid (pc_succ s.fr)
  have HPZ := Lib.hid (pc_zero s.fr)
  have HPT := Lib.hid (pc_table s.fr)
  have HCZ := Lib.hid (fun i => cntN_zero (fr := s.fr) (i := i))
  have HCL := Lib.hid (cntN_le s.fr)
  clear h hX hh hr hs hcmp
  go_enter Try.func32, Try.ntmps32
  go_wp2
  go_quiet (fail)
  go_wp2
  go_loop [7, 8, 9] (fun nv v _ => ∃ r n : Nat, v = .int .i64 r ∧ nv = .int .i64 n ∧ L ≤ r ∧ r ≤ 524288 + L ∧ Hid (n + pc s.fr (min L H) = pc s.fr (min r H))) (fun _ v _ => H - (intOf v).toNat)
  case atStart => exact ⟨L, 0, by rw [hL], rfl, Nat.le_refl _, by omega, Lib.hid (by simp)⟩
  case round =>
    obtain ⟨r, n, rfl, rfl, hLr, hrb, HR⟩ := hrel
    by_cases hlt : r < H
    · have hltX : (r : Int) < (s.pages : Int) := (HCMP.out r).2 hlt
      obtain ⟨i, j, hij, hj, hi⟩ := HIJ.out r (by omega)
      obtain ⟨b0, n0, n1⟩ := SL.out i hi
      have M := MP.out nq r (by omega)
      have eo := or511 i j hj (by omega)
      rw [← hij] at eo
      have e1 : (r : Int) / 512 = i := by omega
      have e2 : (r : Int) % 512 = j := by omega
      have h512 := HCMP.out (r + 511)
      have hRR := HR.out
      rw [Nat.min_eq_left (by omega : r ≤ H)] at hRR
      have hnb : n ≤ 524288 := by have := HP1.out r; omega
      have hp1 := HPS.out r
      have hi0 : i < s.nt := hi
      have hrr1 : r + 512 < 2000000 := by omega
      cases had : ad i with
      | none =>
        have z := n0 had
        rw [had] at b0
        have b1 : w.cell? ⟨b, i, none⟩ = some (.pointer none) := b0
        have HR2 : Hid (n + pc s.fr (min L H) = pc s.fr (min (i * 512 + 512) H)) := Lib.hid (by
          have := HPZ.out r (min (i * 512 + 512) H - r) (fun q ha hb => by
            have := HCZ.out i z (q - i * 512) (by omega)
            rw [show i * 512 + (q - i * 512) = q by omega] at this
            exact this)
          rw [show r + (min (i * 512 + 512) H - r) = min (i * 512 + 512) H by omega] at this
          rw [this]; exact hRR)
        have hnx : r < i * 512 + 512 := by omega
        have hLx : L ≤ i * 512 + 512 := by omega
        have hBx : i * 512 + 512 ≤ 524288 + L := by omega
        have HRR := Lib.hid (Int.toNat_natCast r)
        have HX := Lib.hid hltX
        clear b0 n0 n1 z had M hRR hp1 h512 HR hij e2
        generalize hrr : (r : Int) = rr at *
        have HQ := Lib.hid hrr
        clear hrr
        have hr0 : 0 ≤ rr := by have := HQ.out; omega
        go_wp2
        go_round
        case rel => exact ⟨i * 512 + 512, n, by (first | go_num | (congr 1; omega)), rfl, hLx, hBx, HR2⟩
        case measure => have := HQ.out; simp [intOf]; omega
      | some T =>
        have t5 := n1 T had
        rw [had] at b0
        have b1 : w.cell? ⟨b, i, none⟩ = some (.pointer (some ⟨T, 0, none⟩)) := b0
        by_cases hfull : j = 0 ∧ r + 512 ≤ H
        · have hXf : (512 : Int) ≤ (s.pages : Int) - r := by have := h512.2 (by omega); omega
          have hct := HCL.out i
          have HR2 : Hid ((n + cntN s.fr i) + pc s.fr (min L H) = pc s.fr (min (i * 512 + 512) H)) := Lib.hid (by
            have := HPT.out i
            rw [Nat.min_eq_left (by omega : i * 512 + 512 ≤ H), this, show i * 512 = r by omega]; omega)
          have hLx : L ≤ i * 512 + 512 := by omega
          have hBx : i * 512 + 512 ≤ 524288 + L := by omega
          have hnx : r < i * 512 + 512 := by omega
          have e3 : (r : Int) % 512 = 0 := by omega
          generalize hcn : cntN s.fr i = cn at *
          have HCN := Lib.hid hcn
          clear b0 n0 n1 had M hRR hp1 h512 HR hij e2 hfull hcn
          generalize hrr : (r : Int) = rr at *
          have HQ := Lib.hid hrr
          clear hrr
          have hr0 : 0 ≤ rr := by have := HQ.out; omega
          go_wp2
          go_round
          case rel => exact ⟨i * 512 + 512, n + cn, by (first | go_num | (congr 1; omega)), by (first | go_num | (congr 1; omega)), hLx, hBx, HR2⟩
          case measure => have := HQ.out; simp [intOf]; omega
        · have HR3 : Hid (s.fr r ≠ 0 → (n + 1) + pc s.fr (min L H) = pc s.fr (min (r + 1) H)) := Lib.hid (fun hz => by
            rw [Nat.min_eq_left (by omega : r + 1 ≤ H), hp1, if_pos hz]; omega)
          have HR4 : Hid (s.fr r = 0 → n + pc s.fr (min L H) = pc s.fr (min (r + 1) H)) := Lib.hid (fun hz => by
            rw [Nat.min_eq_left (by omega : r + 1 ≤ H), hp1, if_neg (by omega)]; omega)
          have hg : (¬ (j : Int) = 0) ∨ ((j : Int) = 0 ∧ ¬ (512 : Int) ≤ (s.pages : Int) - r) := by
            by_cases j0 : j = 0
            · refine .inr ⟨by omega, fun e => hfull ⟨j0, ?_⟩⟩
              have := h512.1 (by omega); omega
            · exact .inl (by omega)
          clear b0 n0 n1 had hRR hp1 h512 HR hij hfull t5
          generalize hrr : (r : Int) = rr at *
          have HQ := Lib.hid hrr
          clear hrr
          have hr0 : 0 ≤ rr := by have := HQ.out; omega
          by_cases hz : s.fr r = 0
          · rw [hz] at M
            have M := Lib.hid M
            have HR5 := Lib.hid (HR4.out hz)
            clear hz HR3 HR4
            rcases hg with g | ⟨g, g2⟩
            · go_wp2_with (go_at_call 39; refine M.out.mono ?_; rintro e1 w1 ⟨rfl, rfl⟩)
              go_round
              case rel => exact ⟨r + 1, n, by (have := HQ.out; first | go_num | (congr 1; omega)), rfl, by omega, by omega, HR5⟩
              case measure => have := HQ.out; simp [intOf]; omega
            · rw [g] at e2
              go_wp2_with (go_at_call 39; refine M.out.mono ?_; rintro e1 w1 ⟨rfl, rfl⟩)
              go_round
              case rel => exact ⟨r + 1, n, by (have := HQ.out; first | go_num | (congr 1; omega)), rfl, by omega, by omega, HR5⟩
              case measure => have := HQ.out; simp [intOf]; omega
          · rw [show (s.fr r != 0) = true by simpa using hz] at M
            have M := Lib.hid M
            have HR5 := Lib.hid (HR3.out hz)
            clear hz HR3 HR4
            rcases hg with g | ⟨g, g2⟩
            · go_wp2_with (go_at_call 39; refine M.out.mono ?_; rintro e1 w1 ⟨rfl, rfl⟩)
              go_round
              case rel => exact ⟨r + 1, n + 1, by (have := HQ.out; first | go_num | (congr 1; omega)), by (first | go_num | (congr 1; omega)), by omega, by omega, HR5⟩
              case measure => have := HQ.out; simp [intOf]; omega
            · rw [g] at e2
              go_wp2_with (go_at_call 39; refine M.out.mono ?_; rintro e1 w1 ⟨rfl, rfl⟩)
              go_round
              case rel => exact ⟨r + 1, n + 1, by (have := HQ.out; first | go_num | (congr 1; omega)), by (first | go_num | (congr 1; omega)), by omega, by omega, HR5⟩
              case measure => have := HQ.out; simp [intOf]; omega
    · have hltX : ¬ (r : Int) < (s.pages : Int) := fun e => hlt ((HCMP.out r).1 e)
      have e1 := HR.out
      rw [Nat.min_eq_right (by omega : H ≤ r)] at e1
      have HE : Hid ((n : Int) = ((pc s.fr H - pc s.fr (min L H) : Nat) : Int)) := Lib.hid (by omega)
      clear e1
      go_wp2
      go_ret
      exact ⟨by rw [← HE.out]; rfl, nq, rfl⟩

set_option maxHeartbeats 2000000 in
theorem pm_count3 {c : Nat} {s : QS} (hs : s.ok) (f t : Int) (hf : f ≤ 9223372036854775807) (ht : -9223372036854775808 ≤ t) (h1 : ¬ (s.pages : Int) < t) (h2 : f < 0) (L H : Nat) (hL : (L : Int) = (0 : Int)) (hcmp : ∀ r : Nat, (r : Int) < t ↔ r < H) (hH : H ≤ s.pages) :
    Look Try.prog 32 #[.pointer (some ⟨c, 0, none⟩), .int .i64 f, .int .i64 t] (pmA c s) (.int .i64 ((pc s.fr H - pc s.fr (min L H) : Nat) : Int)) := by
  intro w S h
  obtain ⟨b, ad, hX⟩ := pm_open (At.refl h)
  obtain ⟨hh, hr⟩ := pm_hdr hX
  obtain ⟨c0, c1, c2, f0, f1, f2⟩ := pcells hh
  have SL := Lib.hid (pm_slot hX)
  have MP := Lib.hid (fun n k hk => pm_mapped hs k hk (w.drewN n) S ((pmA c s).keep (w' := w.drewN n) h (fun _ _ => rfl)))
  have ntl := nt_le hs
  have hp2 := hs.p2
  have HCMP := Lib.hid hcmp
  have HIJ := Lib.hid (ij s)
  have HP1 := Lib.hid (pc_le s.fr)
  have HPS := Lib.hid (pc_succ s.fr)
  have HPZ := Lib.hid (pc_zero s.fr)
  have HPT := Lib.hid (pc_table s.fr)
  have HCZ := Lib.hid (fun i => cntN_zero (fr := s.fr) (i := i))
  have HCL := Lib.hid (cntN_le s.fr)
  clear h hX hh hr hs hcmp
  go_enter Try.func32, Try.ntmps32
  go_wp2
  go_quiet (fail)
  go_wp2
  go_loop [7, 8, 9] (fun nv v _ => ∃ r n : Nat, v = .int .i64 r ∧ nv = .int .i64 n ∧ L ≤ r ∧ r ≤ 524288 + L ∧ Hid (n + pc s.fr (min L H) = pc s.fr (min r H))) (fun _ v _ => H - (intOf v).toNat)
  case atStart => exact ⟨L, 0, by rw [hL], rfl, Nat.le_refl _, by omega, Lib.hid (by simp)⟩
  case round =>
    obtain ⟨r, n, rfl, rfl, hLr, hrb, HR⟩ := hrel
    by_cases hlt : r < H
    · have hltX : (r : Int) < t := (HCMP.out r).2 hlt
      obtain ⟨i, j, hij, hj, hi⟩ := HIJ.out r (by omega)
      obtain ⟨b0, n0, n1⟩ := SL.out i hi
      have M := MP.out nq r (by omega)
      have eo := or511 i j hj (by omega)
      rw [← hij] at eo
      have e1 : (r : Int) / 512 = i := by omega
      have e2 : (r : Int) % 512 = j := by omega
      have h512 := HCMP.out (r + 511)
      have hRR := HR.out
      rw [Nat.min_eq_left (by omega : r ≤ H)] at hRR
      have hnb : n ≤ 524288 := by have := HP1.out r; omega
      have hp1 := HPS.out r
      have hi0 : i < s.nt := hi
      have hrr1 : r + 512 < 2000000 := by omega
      cases had : ad i with
      | none =>
        have z := n0 had
        rw [had] at b0
        have b1 : w.cell? ⟨b, i, none⟩ = some (.pointer none) := b0
        have HR2 : Hid (n + pc s.fr (min L H) = pc s.fr (min (i * 512 + 512) H)) := Lib.hid (by
          have := HPZ.out r (min (i * 512 + 512) H - r) (fun q ha hb => by
            have := HCZ.out i z (q - i * 512) (by omega)
            rw [show i * 512 + (q - i * 512) = q by omega] at this
            exact this)
          rw [show r + (min (i * 512 + 512) H - r) = min (i * 512 + 512) H by omega] at this
          rw [this]; exact hRR)
        have hnx : r < i * 512 + 512 := by omega
        have hLx : L ≤ i * 512 + 512 := by omega
        have hBx : i * 512 + 512 ≤ 524288 + L := by omega
        have HRR := Lib.hid (Int.toNat_natCast r)
        have HX := Lib.hid hltX
        clear b0 n0 n1 z had M hRR hp1 h512 HR hij e2
        generalize hrr : (r : Int) = rr at *
        have HQ := Lib.hid hrr
        clear hrr
        have hr0 : 0 ≤ rr := by have := HQ.out; omega
        go_wp2
        go_round
        case rel => exact ⟨i * 512 + 512, n, by (first | go_num | (congr 1; omega)), rfl, hLx, hBx, HR2⟩
        case measure => have := HQ.out; simp [intOf]; omega
      | some T =>
        have t5 := n1 T had
        rw [had] at b0
        have b1 : w.cell? ⟨b, i, none⟩ = some (.pointer (some ⟨T, 0, none⟩)) := b0
        by_cases hfull : j = 0 ∧ r + 512 ≤ H
        · have hXf : (512 : Int) ≤ t - r := by have := h512.2 (by omega); omega
          have hct := HCL.out i
          have HR2 : Hid ((n + cntN s.fr i) + pc s.fr (min L H) = pc s.fr (min (i * 512 + 512) H)) := Lib.hid (by
            have := HPT.out i
            rw [Nat.min_eq_left (by omega : i * 512 + 512 ≤ H), this, show i * 512 = r by omega]; omega)
          have hLx : L ≤ i * 512 + 512 := by omega
          have hBx : i * 512 + 512 ≤ 524288 + L := by omega
          have hnx : r < i * 512 + 512 := by omega
          have e3 : (r : Int) % 512 = 0 := by omega
          generalize hcn : cntN s.fr i = cn at *
          have HCN := Lib.hid hcn
          clear b0 n0 n1 had M hRR hp1 h512 HR hij e2 hfull hcn
          generalize hrr : (r : Int) = rr at *
          have HQ := Lib.hid hrr
          clear hrr
          have hr0 : 0 ≤ rr := by have := HQ.out; omega
          go_wp2
          go_round
          case rel => exact ⟨i * 512 + 512, n + cn, by (first | go_num | (congr 1; omega)), by (first | go_num | (congr 1; omega)), hLx, hBx, HR2⟩
          case measure => have := HQ.out; simp [intOf]; omega
        · have HR3 : Hid (s.fr r ≠ 0 → (n + 1) + pc s.fr (min L H) = pc s.fr (min (r + 1) H)) := Lib.hid (fun hz => by
            rw [Nat.min_eq_left (by omega : r + 1 ≤ H), hp1, if_pos hz]; omega)
          have HR4 : Hid (s.fr r = 0 → n + pc s.fr (min L H) = pc s.fr (min (r + 1) H)) := Lib.hid (fun hz => by
            rw [Nat.min_eq_left (by omega : r + 1 ≤ H), hp1, if_neg (by omega)]; omega)
          have hg : (¬ (j : Int) = 0) ∨ ((j : Int) = 0 ∧ ¬ (512 : Int) ≤ t - r) := by
            by_cases j0 : j = 0
            · refine .inr ⟨by omega, fun e => hfull ⟨j0, ?_⟩⟩
              have := h512.1 (by omega); omega
            · exact .inl (by omega)
          clear b0 n0 n1 had hRR hp1 h512 HR hij hfull t5
          generalize hrr : (r : Int) = rr at *
          have HQ := Lib.hid hrr
          clear hrr
          have hr0 : 0 ≤ rr := by have := HQ.out; omega
          by_cases hz : s.fr r = 0
          · rw [hz] at M
            have M := Lib.hid M
            have HR5 := Lib.hid (HR4.out hz)
            clear hz HR3 HR4
            rcases hg with g | ⟨g, g2⟩
            · go_wp2_with (go_at_call 39; refine M.out.mono ?_; rintro e1 w1 ⟨rfl, rfl⟩)
              go_round
              case rel => exact ⟨r + 1, n, by (have := HQ.out; first | go_num | (congr 1; omega)), rfl, by omega, by omega, HR5⟩
              case measure => have := HQ.out; simp [intOf]; omega
            · rw [g] at e2
              go_wp2_with (go_at_call 39; refine M.out.mono ?_; rintro e1 w1 ⟨rfl, rfl⟩)
              go_round
              case rel => exact ⟨r + 1, n, by (have := HQ.out; first | go_num | (congr 1; omega)), rfl, by omega, by omega, HR5⟩
              case measure => have := HQ.out; simp [intOf]; omega
          · rw [show (s.fr r != 0) = true by simpa using hz] at M
            have M := Lib.hid M
            have HR5 := Lib.hid (HR3.out hz)
            clear hz HR3 HR4
            rcases hg with g | ⟨g, g2⟩
            · go_wp2_with (go_at_call 39; refine M.out.mono ?_; rintro e1 w1 ⟨rfl, rfl⟩)
              go_round
              case rel => exact ⟨r + 1, n + 1, by (have := HQ.out; first | go_num | (congr 1; omega)), by (first | go_num | (congr 1; omega)), by omega, by omega, HR5⟩
              case measure => have := HQ.out; simp [intOf]; omega
            · rw [g] at e2
              go_wp2_with (go_at_call 39; refine M.out.mono ?_; rintro e1 w1 ⟨rfl, rfl⟩)
              go_round
              case rel => exact ⟨r + 1, n + 1, by (have := HQ.out; first | go_num | (congr 1; omega)), by (first | go_num | (congr 1; omega)), by omega, by omega, HR5⟩
              case measure => have := HQ.out; simp [intOf]; omega
    · have hltX : ¬ (r : Int) < t := fun e => hlt ((HCMP.out r).1 e)
      have e1 := HR.out
      rw [Nat.min_eq_right (by omega : H ≤ r)] at e1
      have HE : Hid ((n : Int) = ((pc s.fr H - pc s.fr (min L H) : Nat) : Int)) := Lib.hid (by omega)
      clear e1
      go_wp2
      go_ret
      exact ⟨by rw [← HE.out]; rfl, nq, rfl⟩

set_option maxHeartbeats 2000000 in
theorem pm_count4 {c : Nat} {s : QS} (hs : s.ok) (f t : Int) (hf : f ≤ 9223372036854775807) (ht : -9223372036854775808 ≤ t) (h1 : ¬ (s.pages : Int) < t) (h2 : ¬ f < 0) (L H : Nat) (hL : (L : Int) = f) (hcmp : ∀ r : Nat, (r : Int) < t ↔ r < H) (hH : H ≤ s.pages) :
    Look Try.prog 32 #[.pointer (some ⟨c, 0, none⟩), .int .i64 f, .int .i64 t] (pmA c s) (.int .i64 ((pc s.fr H - pc s.fr (min L H) : Nat) : Int)) := by
  intro w S h
  obtain ⟨b, ad, hX⟩ := pm_open (At.refl h)
  obtain ⟨hh, hr⟩ := pm_hdr hX
  obtain ⟨c0, c1, c2, f0, f1, f2⟩ := pcells hh
  have SL := Lib.hid (pm_slot hX)
  have MP := Lib.hid (fun n k hk => pm_mapped hs k hk (w.drewN n) S ((pmA c s).keep (w' := w.drewN n) h (fun _ _ => rfl)))
  have ntl := nt_le hs
  have hp2 := hs.p2
  have HCMP := Lib.hid hcmp
  have HIJ := Lib.hid (ij s)
  have HP1 := Lib.hid (pc_le s.fr)
  have HPS := Lib.hid (pc_succ s.fr)
  have HPZ := Lib.hid (pc_zero s.fr)
  have HPT := Lib.hid (pc_table s.fr)
  have HCZ := Lib.hid (fun i => cntN_zero (fr := s.fr) (i := i))
  have HCL := Lib.hid (cntN_le s.fr)
  clear h hX hh hr hs hcmp
  go_enter Try.func32, Try.ntmps32
  go_wp2
  go_quiet (fail)
  go_wp2
  go_loop [7, 8, 9] (fun nv v _ => ∃ r n : Nat, v = .int .i64 r ∧ nv = .int .i64 n ∧ L ≤ r ∧ r ≤ 524288 + L ∧ Hid (n + pc s.fr (min L H) = pc s.fr (min r H))) (fun _ v _ => H - (intOf v).toNat)
  case atStart => exact ⟨L, 0, by rw [hL], rfl, Nat.le_refl _, by omega, Lib.hid (by simp)⟩
  case round =>
    obtain ⟨r, n, rfl, rfl, hLr, hrb, HR⟩ := hrel
    by_cases hlt : r < H
    · have hltX : (r : Int) < t := (HCMP.out r).2 hlt
      obtain ⟨i, j, hij, hj, hi⟩ := HIJ.out r (by omega)
      obtain ⟨b0, n0, n1⟩ := SL.out i hi
      have M := MP.out nq r (by omega)
      have eo := or511 i j hj (by omega)
      rw [← hij] at eo
      have e1 : (r : Int) / 512 = i := by omega
      have e2 : (r : Int) % 512 = j := by omega
      have h512 := HCMP.out (r + 511)
      have hRR := HR.out
      rw [Nat.min_eq_left (by omega : r ≤ H)] at hRR
      have hnb : n ≤ 524288 := by have := HP1.out r; omega
      have hp1 := HPS.out r
      have hi0 : i < s.nt := hi
      have hrr1 : r + 512 < 2000000 := by omega
      cases had : ad i with
      | none =>
        have z := n0 had
        rw [had] at b0
        have b1 : w.cell? ⟨b, i, none⟩ = some (.pointer none) := b0
        have HR2 : Hid (n + pc s.fr (min L H) = pc s.fr (min (i * 512 + 512) H)) := Lib.hid (by
          have := HPZ.out r (min (i * 512 + 512) H - r) (fun q ha hb => by
            have := HCZ.out i z (q - i * 512) (by omega)
            rw [show i * 512 + (q - i * 512) = q by omega] at this
            exact this)
          rw [show r + (min (i * 512 + 512) H - r) = min (i * 512 + 512) H by omega] at this
          rw [this]; exact hRR)
        have hnx : r < i * 512 + 512 := by omega
        have hLx : L ≤ i * 512 + 512 := by omega
        have hBx : i * 512 + 512 ≤ 524288 + L := by omega
        have HRR := Lib.hid (Int.toNat_natCast r)
        have HX := Lib.hid hltX
        clear b0 n0 n1 z had M hRR hp1 h512 HR hij e2
        generalize hrr : (r : Int) = rr at *
        have HQ := Lib.hid hrr
        clear hrr
        have hr0 : 0 ≤ rr := by have := HQ.out; omega
        go_wp2
        go_round
        case rel => exact ⟨i * 512 + 512, n, by (first | go_num | (congr 1; omega)), rfl, hLx, hBx, HR2⟩
        case measure => have := HQ.out; simp [intOf]; omega
      | some T =>
        have t5 := n1 T had
        rw [had] at b0
        have b1 : w.cell? ⟨b, i, none⟩ = some (.pointer (some ⟨T, 0, none⟩)) := b0
        by_cases hfull : j = 0 ∧ r + 512 ≤ H
        · have hXf : (512 : Int) ≤ t - r := by have := h512.2 (by omega); omega
          have hct := HCL.out i
          have HR2 : Hid ((n + cntN s.fr i) + pc s.fr (min L H) = pc s.fr (min (i * 512 + 512) H)) := Lib.hid (by
            have := HPT.out i
            rw [Nat.min_eq_left (by omega : i * 512 + 512 ≤ H), this, show i * 512 = r by omega]; omega)
          have hLx : L ≤ i * 512 + 512 := by omega
          have hBx : i * 512 + 512 ≤ 524288 + L := by omega
          have hnx : r < i * 512 + 512 := by omega
          have e3 : (r : Int) % 512 = 0 := by omega
          generalize hcn : cntN s.fr i = cn at *
          have HCN := Lib.hid hcn
          clear b0 n0 n1 had M hRR hp1 h512 HR hij e2 hfull hcn
          generalize hrr : (r : Int) = rr at *
          have HQ := Lib.hid hrr
          clear hrr
          have hr0 : 0 ≤ rr := by have := HQ.out; omega
          go_wp2
          go_round
          case rel => exact ⟨i * 512 + 512, n + cn, by (first | go_num | (congr 1; omega)), by (first | go_num | (congr 1; omega)), hLx, hBx, HR2⟩
          case measure => have := HQ.out; simp [intOf]; omega
        · have HR3 : Hid (s.fr r ≠ 0 → (n + 1) + pc s.fr (min L H) = pc s.fr (min (r + 1) H)) := Lib.hid (fun hz => by
            rw [Nat.min_eq_left (by omega : r + 1 ≤ H), hp1, if_pos hz]; omega)
          have HR4 : Hid (s.fr r = 0 → n + pc s.fr (min L H) = pc s.fr (min (r + 1) H)) := Lib.hid (fun hz => by
            rw [Nat.min_eq_left (by omega : r + 1 ≤ H), hp1, if_neg (by omega)]; omega)
          have hg : (¬ (j : Int) = 0) ∨ ((j : Int) = 0 ∧ ¬ (512 : Int) ≤ t - r) := by
            by_cases j0 : j = 0
            · refine .inr ⟨by omega, fun e => hfull ⟨j0, ?_⟩⟩
              have := h512.1 (by omega); omega
            · exact .inl (by omega)
          clear b0 n0 n1 had hRR hp1 h512 HR hij hfull t5
          generalize hrr : (r : Int) = rr at *
          have HQ := Lib.hid hrr
          clear hrr
          have hr0 : 0 ≤ rr := by have := HQ.out; omega
          by_cases hz : s.fr r = 0
          · rw [hz] at M
            have M := Lib.hid M
            have HR5 := Lib.hid (HR4.out hz)
            clear hz HR3 HR4
            rcases hg with g | ⟨g, g2⟩
            · go_wp2_with (go_at_call 39; refine M.out.mono ?_; rintro e1 w1 ⟨rfl, rfl⟩)
              go_round
              case rel => exact ⟨r + 1, n, by (have := HQ.out; first | go_num | (congr 1; omega)), rfl, by omega, by omega, HR5⟩
              case measure => have := HQ.out; simp [intOf]; omega
            · rw [g] at e2
              go_wp2_with (go_at_call 39; refine M.out.mono ?_; rintro e1 w1 ⟨rfl, rfl⟩)
              go_round
              case rel => exact ⟨r + 1, n, by (have := HQ.out; first | go_num | (congr 1; omega)), rfl, by omega, by omega, HR5⟩
              case measure => have := HQ.out; simp [intOf]; omega
          · rw [show (s.fr r != 0) = true by simpa using hz] at M
            have M := Lib.hid M
            have HR5 := Lib.hid (HR3.out hz)
            clear hz HR3 HR4
            rcases hg with g | ⟨g, g2⟩
            · go_wp2_with (go_at_call 39; refine M.out.mono ?_; rintro e1 w1 ⟨rfl, rfl⟩)
              go_round
              case rel => exact ⟨r + 1, n + 1, by (have := HQ.out; first | go_num | (congr 1; omega)), by (first | go_num | (congr 1; omega)), by omega, by omega, HR5⟩
              case measure => have := HQ.out; simp [intOf]; omega
            · rw [g] at e2
              go_wp2_with (go_at_call 39; refine M.out.mono ?_; rintro e1 w1 ⟨rfl, rfl⟩)
              go_round
              case rel => exact ⟨r + 1, n + 1, by (have := HQ.out; first | go_num | (congr 1; omega)), by (first | go_num | (congr 1; omega)), by omega, by omega, HR5⟩
              case measure => have := HQ.out; simp [intOf]; omega
    · have hltX : ¬ (r : Int) < t := fun e => hlt ((HCMP.out r).1 e)
      have e1 := HR.out
      rw [Nat.min_eq_right (by omega : H ≤ r)] at e1
      have HE : Hid ((n : Int) = ((pc s.fr H - pc s.fr (min L H) : Nat) : Int)) := Lib.hid (by omega)
      clear e1
      go_wp2
      go_ret
      exact ⟨by rw [← HE.out]; rfl, nq, rfl⟩

/-- how many of the pages from f up to t -/
def cntFT (s : QS) (f t : Int) : Nat := pc s.fr (min t s.pages).toNat - pc s.fr (min f.toNat (min t s.pages).toNat)

theorem pm_count {c : Nat} {s : QS} (hs : s.ok) (f t : Int) (hf : f ≤ 9223372036854775807) (ht : -9223372036854775808 ≤ t) :
    Look Try.prog 32 #[.pointer (some ⟨c, 0, none⟩), .int .i64 f, .int .i64 t] (pmA c s) (.int .i64 (cntFT s f t : Nat)) := by
  unfold cntFT
  by_cases h1 : (s.pages : Int) < t
  · by_cases h2 : f < 0
    · exact pm_count1 hs f t hf ht h1 h2 _ _ (by omega) (fun r => by omega) (by omega)
    · exact pm_count2 hs f t hf ht h1 h2 _ _ (by omega) (fun r => by omega) (by omega)
  · by_cases h2 : f < 0
    · exact pm_count3 hs f t hf ht h1 h2 _ _ (by omega) (fun r => by omega) (by omega)
    · exact pm_count4 hs f t hf ht h1 h2 _ _ (by omega) (fun r => by omega) (by omega)

end Go.Proofs.Ytpdnbkibnpkfbac.PT
