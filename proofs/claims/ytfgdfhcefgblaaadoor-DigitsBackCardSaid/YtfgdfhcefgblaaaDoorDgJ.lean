/- Digits (layer 4): Put, PutInt, PutHex of both. -/
import Derived.Test.YtfgdfhcefgblaaaDoorDgI
import Derived.Lib.ItoaMem
namespace Go.Proofs.YtfgdfhcefgblaaaDoor
open Go.ChangeShapes Go.WideShapes Go.ChangeAt Go.RowKit Go.Sort Go.Lib Go.Shelf

theorem holds_zero0 (w : World) (T : TypeId) (nd : Nat) (hs : nd ≤ 24) : Holds (fun (b : UInt8) => Value.int .u8 (b.toNat : Int)) (w.alloc (.cells Lib.zeros24 T)) w.heap.size 0 (Array.replicate nd (0 : UInt8)) := fun j hj => by
  have hj' : j < nd := by simpa using hj
  refine ⟨?_, World.frozen?_alloc_new _ _ _ _⟩
  rw [World.cell?_alloc_new, Lib.zeros24_at _ (by omega), getElem!_pos _ j hj]
  simp

set_option maxHeartbeats 3200000 in
set_option maxRecDepth 100000 in
theorem fmt_big (u : Nat) (h1 : 100 ≤ u) (hu64 : u < 18446744073709551616) (w : World) (htab : PowTab w) : Calls Tryd.prog 42 #[.int .u64 u, .int .i64 10] w fun e w' => e = .returned (.string ⟨(Lib.decDigits u).toArray⟩) ∧ Below w.heap.size w w' := by
  have hu1 : 1 ≤ u := by omega
  have hnd20 : Lib.nDigits u ≤ 20 := by have := Lib.numDigits_eq u hu1 hu64; split at this <;> omega
  have hal : (Tryd.prog).arrayLen 57 = 24 := by kernel_rfl
  have hsl : ∀ W, (Instr.sliceAt 57 (.pointer (some ⟨w.heap.size, 0, none⟩)) none (some (.int .i64 (Lib.nDigits u : Int))) none).run Tryd.prog W = .ok (.slice (some ⟨w.heap.size, 0, none⟩) (Lib.nDigits u) 24) W := fun W => by
    rw [run_sliceAt_array_h W 57 ⟨w.heap.size, 0, none⟩ (by kernel_rfl) .i64 (Lib.nDigits u : Int) (by omega) (by rw [hal]; omega)]
    go_simp
  have hH0 := holds_zero0 w 57 (Lib.nDigits u) (by omega)
  have hfmt := Tryd.internal_strconv_formatBase10 w.heap.size 0 24 u (Array.replicate (Lib.nDigits u) 0) (w.alloc (.cells Lib.zeros24 57)) hH0 (by rw [Array.size_replicate]; exact Lib.lt_pow_nDigits u) hu64 (by rw [Array.size_replicate]; omega)
  rw [Array.size_replicate] at hfmt
  have HH0 := Lib.hid hH0
  have HFM := Lib.hid hfmt
  have ND := Lib.hid (fun w' ht => Tryd.internal_strconv_numDigits u hu1 hu64 w' ht)
  have HT := Lib.hid htab
  have hlt : decide (u < 100) = false := decide_eq_false (by omega)
  clear hH0 hal hfmt htab
  go_enter Tryd.func42, Tryd.ntmps42
  go_wp2_with (first
    | (go_at_call 48; refine (ND.out _ (Lib.tabIs_alloc HT.out _)).mono ?_; rintro e w' ⟨rfl, rfl⟩))
  refine (HFM.out).mono ?_
  rintro e w' ⟨rfl, k, v', dk, rfl, hF⟩
  have hcv : (convert 60 9 (.slice (some ⟨w.heap.size, 0, none⟩) (Lib.nDigits u) 24)).run Tryd.prog ((putRow (fun (b : UInt8) => Value.int .u8 (b.toNat : Int)) (w.alloc (.cells Lib.zeros24 57)) w.heap.size 0 dk).drewN k) = .ok (.string ⟨(Lib.decDigits u).toArray⟩) ((putRow (fun (b : UInt8) => Value.int .u8 (b.toNat : Int)) (w.alloc (.cells Lib.zeros24 57)) w.heap.size 0 dk).drewN k) := by
    have h := run_convert_bytes_back (P := Tryd.prog) ((putRow (fun (b : UInt8) => Value.int .u8 (b.toNat : Int)) (w.alloc (.cells Lib.zeros24 57)) w.heap.size 0 dk).drewN k) 60 9 5 ⟨w.heap.size, 0, none⟩ 24 (Lib.decDigits u) Tryd.underlying60 Tryd.underlying5 Tryd.underlying9 (fun j hj => by
      rw [Lib.row_is_numeral hF j hj, Lib.add_plain, World.cell?_drewN]
      exact cell?_putRow (fun (b : UInt8) => Value.int .u8 (b.toNat : Int)) _ w.heap.size 0 _ dk HH0.out (by rw [hF.size, Array.size_replicate]) j (by rw [hF.size]; rw [Lib.decDigits_length] at hj; exact hj))
    rw [Lib.decDigits_length] at h
    exact h
  go_wp2
  go_ret
  refine ⟨rfl, ?_⟩
  have e := alloc_eq_grow (w := w) (o := .cells Lib.zeros24 57)
  rw [e]
  obtain ⟨os', _, e2⟩ := putRow_grow_new (fun (b : UInt8) => Value.int .u8 (b.toNat : Int)) w #[.cells Lib.zeros24 57] w.heap.size 0 dk (Nat.le_refl _)
  rw [e2]
  exact below_grow os' k

theorem fmt_pub (u : Nat) (h1 : 100 ≤ u) (hu64 : u < 18446744073709551616) (w : World) (htab : PowTab w) : Calls Tryd.prog 33 #[.int .u64 u, .int .i64 10] w fun e w' => e = .returned (.string ⟨(Lib.decDigits u).toArray⟩) ∧ Below w.heap.size w w' := by
  have F := Lib.hid (fmt_big u h1 hu64 w htab)
  clear htab
  go_enter Tryd.func33, Tryd.ntmps33
  go_wp2_with (go_at_call 42; refine (F.out).mono ?_; rintro e1 w1 ⟨rfl, hb⟩)
  go_ret
  exact ⟨rfl, hb⟩


theorem dec_pD : ∀ u, Lib.decDigits u = pD 10 u := by
  intro u
  induction u using Nat.strongRecOn with
  | ind u ih =>
    rw [Lib.decDigits]
    by_cases h : u < 10
    · rw [dif_pos h, pD_small h]; unfold hc; rw [if_pos h]
    · rw [dif_neg h, ih (u / 10) (by omega), pD_big (by omega) h]; unfold hc; rw [if_pos (Nat.mod_lt _ (by omega))]

theorem fmt_low (u : Nat) (h1 : u < 100) (w : World) : Calls Tryd.prog 33 #[.int .u64 u, .int .i64 10] w fun e w' => e = .returned (.string ⟨(Lib.decDigits u).toArray⟩) ∧ w = w' := by
  have S := Lib.hid (Tryd.internal_strconv_small u h1 w)
  have F : Calls Tryd.prog 42 #[.int .u64 u, .int .i64 10] w fun e w' => e = .returned (.string ⟨(Lib.decDigits u).toArray⟩) ∧ w = w' := by
    have hlt : decide (u < 100) = true := decide_eq_true h1
    have hI : (u : Int) < 100 := by omega
    go_enter Tryd.func42, Tryd.ntmps42
    go_wp2_with (go_at_call 47; with_reducible refine S.out.mono ?_; rintro e1 w1 ⟨rfl, rfl⟩)
    go_ret
    exact ⟨rfl, rfl⟩
  have F := Lib.hid F
  go_enter Tryd.func33, Tryd.ntmps33
  go_wp2_with (go_at_call 42; with_reducible refine F.out.mono ?_; rintro e1 w1 ⟨rfl, rfl⟩)
  go_ret
  exact ⟨rfl, rfl⟩

theorem dg_put (u : Nat) (hu : u < 18446744073709551616) (w : World) (hT : PowTab w) : Calls Tryd.prog 14 #[.int .u64 u] w fun e w' => e = .returned (.string ⟨(pD 10 u).toArray⟩) ∧ Below w.heap.size w w' := by
  have F : Calls Tryd.prog 33 #[.int .u64 u, .int .i64 10] w fun e w' => e = .returned (.string ⟨(pD 10 u).toArray⟩) ∧ Below w.heap.size w w' := by
    rw [← dec_pD]
    by_cases h : u < 100
    · refine (fmt_low u h w).mono ?_
      rintro e w' ⟨h1, rfl⟩
      exact ⟨h1, Below.refl _ _⟩
    · exact fmt_pub u (by omega) hu w hT
  have F := Lib.hid F
  clear hT
  go_enter Tryd.func14, Tryd.ntmps14
  go_wp2_with (go_at_call 33; with_reducible refine F.out.mono ?_; rintro e1 w1 ⟨rfl, hb⟩)
  go_ret
  exact ⟨rfl, hb⟩

theorem dg_puthex (u : Nat) (hu : u < 18446744073709551616) (w : World) (hT : DbTab w) : Calls Tryd.prog 16 #[.int .u64 u] w fun e w' => e = .returned (.string ⟨(pD 16 u).toArray⟩) ∧ Below w.heap.size w w' := by
  have F := fmt_hex u hu w hT
  rw [hexD_pD] at F
  have F := Lib.hid F
  clear hT
  go_enter Tryd.func16, Tryd.ntmps16
  go_wp2_with (go_at_call 33; with_reducible refine F.out.mono ?_; rintro e1 w1 ⟨rfl, hb⟩)
  go_ret
  exact ⟨rfl, hb⟩

/-- the reference's alphabet -/
def al : ByteArray := ⟨#[48, 49, 50, 51, 52, 53, 54, 55, 56, 57, 97, 98, 99, 100, 101, 102]⟩

theorem ext_at {n : Nat} (h : n < 16) : al.extract n (n + 1) = ⟨#[hc n]⟩ := by
  have : ∀ d : Fin 16, al.extract d.val (d.val + 1) = ⟨#[hc d.val]⟩ := by decide +kernel
  exact this ⟨n, h⟩

theorem cons_ba (c : UInt8) (l : List UInt8) : (⟨#[c]⟩ : ByteArray) ++ ⟨l.toArray⟩ = ⟨(c :: l).toArray⟩ := by
  apply ByteArray.ext
  rw [ByteArray.data_append]
  simp

theorem pD_bits {B : Nat} (h2 : 2 ≤ B) : ∀ (k n : Nat), n < 2 ^ (k + 1) → (pD B n).length ≤ k + 1
  | 0, n, h => by rw [pD_small (by simp at h; omega)]; simp
  | k + 1, n, h => by
    by_cases hn : n < B
    · rw [pD_small hn]; simp
    · rw [pD_big h2 hn, List.length_append]
      have hd : n / B ≤ n / 2 := Nat.div_le_div_left h2 (by omega)
      have := pD_bits h2 k (n / B) (by rw [Nat.pow_succ] at h; omega)
      simp; omega

theorem pD_len {B m u : Nat} {suf : List UInt8} (h2 : 2 ≤ B) (h : pD B m ++ suf = pD B u) (hu : u < 18446744073709551616) : suf.length ≤ 64 := by
  have h1 := congrArg List.length h
  rw [List.length_append] at h1
  have := pD_bits h2 63 u (by have : (2 : Nat) ^ (63 + 1) = 18446744073709551616 := by decide
                              omega)
  omega

set_option maxRecDepth 100000 in
set_option maxHeartbeats 2000000 in
theorem r4_put10 (u : Nat) (hu : u < 18446744073709551616) (w : World) :
    Calls Tryd.prog 35 #[.int .u64 u, .int .u64 10] w fun e w' => e = .returned (.string ⟨(pD 10 u).toArray⟩) ∧ w = w' := by
  have PL := Lib.hid (fun m suf (h : pD 10 m ++ suf = pD 10 u) => pD_len (B := 10) (by decide) h hu)
  obtain ⟨all, hall⟩ : ∃ all, pD 10 u = all := ⟨_, rfl⟩
  rw [hall] at PL ⊢
  have P0 : Hid (pD 10 u ++ [] = all) := Lib.hid (by rw [List.append_nil]; exact hall)
  clear hall
  go_enter Tryd.func35, Tryd.ntmps35
  go_wp2
  go_loop [0, 6, 7] (fun nw sw _ => ∃ (m : Nat) (suf : List UInt8), nw = .int .u64 m ∧ sw = .string ⟨suf.toArray⟩ ∧ m ≤ u ∧ Hid (pD 10 m ++ suf = all)) (fun nw _ _ => (RowKit.intOf nw).toNat)
  case atStart => exact ⟨u, [], rfl, rfl, Nat.le_refl _, P0⟩
  case round =>
    clear P0
    obtain ⟨m, suf, rfl, rfl, hm, HP⟩ := hrel
    have hl := PL.out m suf HP.out
    by_cases hb : m < 10
    · have hbI : ¬ (10 : Int) ≤ (m : Int) := by omega
      have X := Lib.hid (ext_at (n := m) (by omega))
      have E := HP.out
      rw [pD_small hb] at E
      have E := Lib.hid E
      have hsz : (⟨suf.toArray⟩ : ByteArray).size ≤ 64 := by show suf.toArray.size ≤ 64; simpa using hl
      obtain ⟨t, ht⟩ : ∃ t : ByteArray, t = ⟨suf.toArray⟩ := ⟨_, rfl⟩
      rw [← ht] at hsz ⊢
      have HT := Lib.hid ht
      have FIN : Hid (al.extract m (m + 1) ++ t = ⟨all.toArray⟩) := Lib.hid (by rw [X.out, HT.out, cons_ba, ← E.out]; rfl)
      clear HP hl hb ht X
      unfold al at FIN
      go_wp2
      go_ret
      exact ⟨congrArg (fun x => Ending.returned (.string x)) FIN.out, rfl⟩
    · have hbI : (10 : Int) ≤ (m : Int) := by omega
      have hd : m % 10 < 10 := Nat.mod_lt _ (by omega)
      have X := Lib.hid (ext_at (n := m % 10) (by omega))
      have E := HP.out
      rw [pD_big (by omega) hb] at E
      have E := Lib.hid E
      have hsz : (⟨suf.toArray⟩ : ByteArray).size ≤ 64 := by show suf.toArray.size ≤ 64; simpa using hl
      obtain ⟨t, ht⟩ : ∃ t : ByteArray, t = ⟨suf.toArray⟩ := ⟨_, rfl⟩
      rw [← ht] at hsz ⊢
      have HT := Lib.hid ht
      obtain ⟨d, hdd⟩ : ∃ d, m % 10 = d := ⟨_, rfl⟩
      have hdI : (m : Int) % 10 = (d : Int) := by omega
      rw [hdd] at X E hd
      have FIN : Hid (al.extract d (d + 1) ++ t = ⟨(hc d :: suf).toArray⟩) := Lib.hid (by rw [X.out, HT.out, cons_ba])
      clear HP hl hb hdd ht X
      unfold al at FIN
      go_wp2
      refine ⟨⟨m / 10, hc d :: suf, by push_cast; rfl, ?_, by omega, Lib.hid (by rw [← E.out, List.append_assoc]; rfl)⟩, by simp [RowKit.intOf]; omega⟩
      exact congrArg Value.string FIN.out

set_option maxRecDepth 100000 in
set_option maxHeartbeats 2000000 in
theorem r4_put16 (u : Nat) (hu : u < 18446744073709551616) (w : World) :
    Calls Tryd.prog 35 #[.int .u64 u, .int .u64 16] w fun e w' => e = .returned (.string ⟨(pD 16 u).toArray⟩) ∧ w = w' := by
  have PL := Lib.hid (fun m suf (h : pD 16 m ++ suf = pD 16 u) => pD_len (B := 16) (by decide) h hu)
  obtain ⟨all, hall⟩ : ∃ all, pD 16 u = all := ⟨_, rfl⟩
  rw [hall] at PL ⊢
  have P0 : Hid (pD 16 u ++ [] = all) := Lib.hid (by rw [List.append_nil]; exact hall)
  clear hall
  go_enter Tryd.func35, Tryd.ntmps35
  go_wp2
  go_loop [0, 6, 7] (fun nw sw _ => ∃ (m : Nat) (suf : List UInt8), nw = .int .u64 m ∧ sw = .string ⟨suf.toArray⟩ ∧ m ≤ u ∧ Hid (pD 16 m ++ suf = all)) (fun nw _ _ => (RowKit.intOf nw).toNat)
  case atStart => exact ⟨u, [], rfl, rfl, Nat.le_refl _, P0⟩
  case round =>
    clear P0
    obtain ⟨m, suf, rfl, rfl, hm, HP⟩ := hrel
    have hl := PL.out m suf HP.out
    by_cases hb : m < 16
    · have hbI : ¬ (16 : Int) ≤ (m : Int) := by omega
      have X := Lib.hid (ext_at (n := m) (by omega))
      have E := HP.out
      rw [pD_small hb] at E
      have E := Lib.hid E
      have hsz : (⟨suf.toArray⟩ : ByteArray).size ≤ 64 := by show suf.toArray.size ≤ 64; simpa using hl
      obtain ⟨t, ht⟩ : ∃ t : ByteArray, t = ⟨suf.toArray⟩ := ⟨_, rfl⟩
      rw [← ht] at hsz ⊢
      have HT := Lib.hid ht
      have FIN : Hid (al.extract m (m + 1) ++ t = ⟨all.toArray⟩) := Lib.hid (by rw [X.out, HT.out, cons_ba, ← E.out]; rfl)
      clear HP hl hb ht X
      unfold al at FIN
      go_wp2
      go_ret
      exact ⟨congrArg (fun x => Ending.returned (.string x)) FIN.out, rfl⟩
    · have hbI : (16 : Int) ≤ (m : Int) := by omega
      have hd : m % 16 < 16 := Nat.mod_lt _ (by omega)
      have X := Lib.hid (ext_at (n := m % 16) (by omega))
      have E := HP.out
      rw [pD_big (by omega) hb] at E
      have E := Lib.hid E
      have hsz : (⟨suf.toArray⟩ : ByteArray).size ≤ 64 := by show suf.toArray.size ≤ 64; simpa using hl
      obtain ⟨t, ht⟩ : ∃ t : ByteArray, t = ⟨suf.toArray⟩ := ⟨_, rfl⟩
      rw [← ht] at hsz ⊢
      have HT := Lib.hid ht
      obtain ⟨d, hdd⟩ : ∃ d, m % 16 = d := ⟨_, rfl⟩
      have hdI : (m : Int) % 16 = (d : Int) := by omega
      rw [hdd] at X E hd
      have FIN : Hid (al.extract d (d + 1) ++ t = ⟨(hc d :: suf).toArray⟩) := Lib.hid (by rw [X.out, HT.out, cons_ba])
      clear HP hl hb hdd ht X
      unfold al at FIN
      go_wp2
      refine ⟨⟨m / 16, hc d :: suf, by push_cast; rfl, ?_, by omega, Lib.hid (by rw [← E.out, List.append_assoc]; rfl)⟩, by simp [RowKit.intOf]; omega⟩
      exact congrArg Value.string FIN.out

theorem r4_Put (u : Nat) (hu : u < 18446744073709551616) (w : World) : Calls Tryd.prog 17 #[.int .u64 u] w fun e w' => e = .returned (.string ⟨(pD 10 u).toArray⟩) ∧ w = w' := by
  have F := Lib.hid (r4_put10 u hu w)
  go_enter Tryd.func17, Tryd.ntmps17
  go_wp2_with (go_at_call 35; with_reducible refine F.out.mono ?_; rintro e1 w1 ⟨rfl, rfl⟩)
  go_ret
  exact ⟨rfl, rfl⟩

theorem r4_PutHex (u : Nat) (hu : u < 18446744073709551616) (w : World) : Calls Tryd.prog 19 #[.int .u64 u] w fun e w' => e = .returned (.string ⟨(pD 16 u).toArray⟩) ∧ w = w' := by
  have F := Lib.hid (r4_put16 u hu w)
  go_enter Tryd.func19, Tryd.ntmps19
  go_wp2_with (go_at_call 35; with_reducible refine F.out.mono ?_; rintro e1 w1 ⟨rfl, rfl⟩)
  go_ret
  exact ⟨rfl, rfl⟩

theorem hsz0 {l : List UInt8} (h : l.length ≤ 64) : (⟨l.toArray⟩ : ByteArray).size ≤ 64 := by show l.toArray.size ≤ 64; simpa using h

/-- the int's text -/
def pI (n : Int) : List UInt8 := if n < 0 then 45 :: pD 10 n.natAbs else pD 10 n.toNat
theorem itoa_pI (n : Int) : Lib.itoa n = pI n := by unfold Lib.itoa pI; rw [dec_pD, dec_pD]

set_option maxRecDepth 100000 in
theorem r4_putint (n : Int) (h0 : -9223372036854775808 ≤ n) (h1 : n ≤ 9223372036854775807) (w : World) : Calls Tryd.prog 18 #[.int .i64 n] w fun e w' => e = .returned (.string ⟨(pI n).toArray⟩) ∧ w = w' := by
  by_cases h : n < 0
  · have F := r4_put10 n.natAbs (by omega) w
    have hn : IntKind.u64.wrap (-(IntKind.u64.wrap n)) = (n.natAbs : Int) := by rw [IntKind.wrap_u64, IntKind.wrap_u64]; omega
    have hl : (pD 10 n.natAbs).length ≤ 64 := pD_bits (by decide) 63 _ (by have : (2 : Nat) ^ (63 + 1) = 18446744073709551616 := by decide
                                                                           omega)
    have hsz : (⟨(pD 10 n.natAbs).toArray⟩ : ByteArray).size ≤ 64 := hsz0 hl
    have FIN : Hid ((⟨#[45]⟩ : ByteArray) ++ ⟨(pD 10 n.natAbs).toArray⟩ = ⟨(pI n).toArray⟩) := Lib.hid (by rw [cons_ba]; unfold pI; rw [if_pos h])
    obtain ⟨t, ht⟩ : ∃ t : ByteArray, t = ⟨(pD 10 n.natAbs).toArray⟩ := ⟨_, rfl⟩
    rw [← ht] at hsz FIN F
    have F := Lib.hid F
    have hn := Lib.hid hn
    clear ht hl
    go_enter Tryd.func18, Tryd.ntmps18
    go_wp2_with (first | rw [hn.out] | (go_at_call 35; refine F.out.mono ?_; rintro e1 w1 ⟨rfl, rfl⟩))
    go_ret
    exact ⟨congrArg (fun x => Ending.returned (.string x)) FIN.out, rfl⟩
  · obtain ⟨k, rfl⟩ := Int.eq_ofNat_of_zero_le (show 0 ≤ n by omega)
    have F := r4_put10 k (by omega) w
    have hI : ¬ (k : Int) < 0 := by omega
    have FIN : Hid (pD 10 k = pI (k : Int)) := Lib.hid (by unfold pI; rw [if_neg h]; rfl)
    rw [FIN.out] at F
    have F := Lib.hid F
    go_enter Tryd.func18, Tryd.ntmps18
    go_wp2_with (go_at_call 35; with_reducible refine F.out.mono ?_; rintro e1 w1 ⟨rfl, rfl⟩)
    go_ret
    exact ⟨rfl, rfl⟩

end Go.Proofs.YtfgdfhcefgblaaaDoor
