/- The reader (layer 5): text; the document's float and text. -/
import Derived.Test.YtfgdfhcefgblaaaRdF
namespace Go.Proofs.Ytfgdfhcefgblaaa
open Go.ChangeShapes Go.WideShapes Go.ChangeAt Go.RowKit

theorem r5_float_short (t : ByteArray) (h8 : t.size < 8) (w : World) : Calls Try.prog 13 #[.string t] w fun e w' => e = .returned (.tuple #[.int .u64 0, .int .i64 0, .int .i64 1]) ∧ w = w' := by
  have h8I : (t.size : Int) < 8 := by omega
  go_enter Try.func13, Try.ntmps13
  go_wp2
  refine bodyPost_ret (v := .tuple #[.int .u64 0, .int .i64 0, .int .i64 1]) (by simp [results, Try.f13, go_sem]) rfl ⟨rfl, rfl⟩

theorem leV_drop {L : List UInt8} {j : Nat} (h : j < L.length) : leV (L.drop j) = L[j].toNat + 256 * leV (L.drop (j + 1)) := by
  rw [List.drop_eq_getElem_cons h]; rfl

set_option maxRecDepth 100000 in
theorem r5_float (t : ByteArray) (h8 : 8 ≤ t.size) (hs : t.size ≤ 1000000000) (w : World) : Calls Try.prog 13 #[.string t] w fun e w' => e = .returned (.tuple #[.int .u64 (leV (t.data.toList.take 8) : Nat), .int .i64 8, .int .i64 0]) ∧ w = w' := by
  have h8I : ¬ (t.size : Int) < 8 := by omega
  obtain ⟨L, hL⟩ : ∃ L, t.data.toList.take 8 = L := ⟨_, rfl⟩
  have hlen : L.length = 8 := by rw [← hL, List.length_take]; show min 8 t.size = 8; omega
  have NX : Hid (∀ j, (hj : j < 8) → leV (L.drop j) = (t[j]'(by omega)).toNat + 256 * leV (L.drop (j + 1))) := Lib.hid fun j hj => by
    rw [leV_drop (by omega)]
    congr 2
    subst hL
    rw [List.getElem_take]; rfl
  have E0 : Hid (leV (L.drop 8) = 0) := Lib.hid (by rw [List.drop_eq_nil_of_le (by omega)]; rfl)
  have E1 : Hid (leV (L.drop 0) = leV L) := Lib.hid (by rw [List.drop_zero])
  have BD : Hid (∀ k, 1 ≤ k → k ≤ 8 → leV (L.drop k) < 72057594037927936) := Lib.hid fun k h1 h2 => by
    have := leV_lt (L.drop k)
    rw [List.length_drop, hlen] at this
    have h2 : 256 ^ (8 - k) ≤ 256 ^ 7 := Nat.pow_le_pow_right (by omega) (by omega)
    have h3 : (256 : Nat) ^ 7 = 72057594037927936 := by decide
    omega
  rw [hL]
  clear hL hlen
  obtain ⟨G, hG⟩ : ∃ G : Nat → Nat, G = fun k => leV (L.drop k) := ⟨_, rfl⟩
  have NX : Hid (∀ j, (hj : j < 8) → G j = (t[j]'(by omega)).toNat + 256 * G (j + 1)) := Lib.hid (by rw [hG]; exact NX.out)
  have E0 : Hid (G 8 = 0) := Lib.hid (by rw [hG]; exact E0.out)
  have E1 : Hid (G 0 = leV L) := Lib.hid (by rw [hG]; exact E1.out)
  have BD : Hid (∀ k, 1 ≤ k → k ≤ 8 → G k < 72057594037927936) := Lib.hid (by rw [hG]; exact BD.out)
  clear hG
  go_enter Try.func13, Try.ntmps13
  go_wp2
  go_loop [5, 6] (fun nv iv => ∃ k : Nat, nv = .int .u64 (G k : Nat) ∧ iv = .int .i64 ((k : Int) - 1) ∧ k ≤ 8) (fun _ iv => (intOf iv + 1).toNat)
  case atStart => exact ⟨8, by rw [E0.out]; rfl, by rfl, Nat.le_refl _⟩
  case round =>
    obtain ⟨k, rfl, rfl, hk⟩ := hrel
    rcases (show k = 0 ∨ ∃ j, k = j + 1 by cases k with | zero => exact .inl rfl | succ j => exact .inr ⟨j, rfl⟩) with rfl | ⟨j, rfl⟩
    · rw [show ((0 : Nat) : Int) - 1 = -1 from rfl]
      rw [E1.out]
      clear hk
      go_wp2
      refine bodyPost_ret (v := .tuple #[.int .u64 (leV L : Nat), .int .i64 8, .int .i64 0]) (by simp [results, Try.f13, go_sem]) rfl ⟨rfl, rfl⟩
    · rw [show ((j + 1 : Nat) : Int) - 1 = (j : Int) by omega]
      have hj : j < t.size := by omega
      have hjI : (j : Int) < (t.size : Int) := by omega
      have hj8 : (j : Int) ≤ 7 := by omega
      have nx := NX.out j (by omega)
      have bd := BD.out (j + 1) (by omega) hk
      obtain ⟨x, hx⟩ : ∃ x, t[j].toNat = x := ⟨_, rfl⟩
      have hxb : (x : Int) ≤ 255 := by have := t[j].toNat_lt; omega
      rw [hx] at nx
      obtain ⟨v, hv⟩ : ∃ v, G (j + 1) = v := ⟨_, rfl⟩
      rw [hv] at nx bd ⊢
      have VAL : Hid (IntKind.u64.wrap (IntKind.u64.wrap ((v : Int) * 256) + (x : Int)) = ((G j : Nat) : Int)) := Lib.hid (by
        rw [wrap64r ((v : Int) * 256) (by omega) (by omega), wrap64r _ (by omega) (by omega)]
        omega)
      clear nx bd hv
      go_wp2
      exact ⟨⟨j, by rw [VAL.out], by go_num, by omega⟩, by simp [intOf]⟩

/-- the text that is read: the error, the bytes, how many were looked at -/
def txR (l : List UInt8) : Nat × List UInt8 × Nat :=
  let r := nmR 0 0 l
  if r.1 ≠ 0 then (r.1, [], 0) else if 65535 < r.2.1 then (3, [], 0) else if l.length < r.2.2 + r.2.1 then (1, [], 0) else (0, (l.drop r.2.2).take r.2.1, r.2.2 + r.2.1)

theorem cut_mid (s : ByteArray) (a b : Nat) : s.extract a b = ⟨((s.data.toList.drop a).take (b - a)).toArray⟩ := by
  apply ByteArray.ext
  rw [ByteArray.data_extract]
  apply Array.ext'
  rw [Array.toList_extract]

set_option maxRecDepth 100000 in
theorem r5_text (t : ByteArray) (hs : t.size ≤ 1000000000) (w : World) : Calls Try.prog 15 #[.string t] w fun e w' => e = .returned (.tuple #[.string ⟨(txR t.data.toList).2.1.toArray⟩, .int .i64 ((txR t.data.toList).2.2 : Nat), .int .i64 ((txR t.data.toList).1 : Nat)]) ∧ w = w' := by
  obtain ⟨E, N, K, hR⟩ : ∃ E N K, nmR 0 0 t.data.toList = (E, N, K) := ⟨_, _, _, rfl⟩
  have T1 := r5_num t hs hR w
  obtain ⟨hN, hE, hK, _⟩ := nm_lt hR
  have hX : txR t.data.toList = if E ≠ 0 then (E, [], 0) else if 65535 < N then (3, [], 0) else if t.data.toList.length < K + N then (1, [], 0) else (0, (t.data.toList.drop K).take N, K + N) := by unfold txR; rw [hR]
  have hlen : t.data.toList.length = t.size := rfl
  rw [hlen] at hX hK
  by_cases hE0 : E = 0
  · subst hE0
    rw [if_pos rfl] at T1
    rw [if_neg (by omega)] at hX
    have T1 := Lib.hid T1
    by_cases hb : 65535 < N
    · rw [if_pos hb] at hX
      rw [hX]
      have hbI : (65535 : Int) < (N : Int) := by omega
      clear hX hR hb hlen
      go_enter Try.func15, Try.ntmps15
      go_wp2_with (go_at_call 8; with_reducible refine T1.out.mono ?_; rintro e1 w1 ⟨rfl, rfl⟩)
      refine bodyPost_ret (v := .tuple #[.string ⟨#[]⟩, .int .i64 0, .int .i64 3]) (by simp [results, Try.f15, go_sem]) rfl ⟨rfl, rfl⟩
    · rw [if_neg hb] at hX
      have hbI : ¬ (65535 : Int) < (N : Int) := by omega
      have hKI : (K : Int) ≤ 1000000000 := by omega
      by_cases hc : t.size < K + N
      · rw [if_pos hc] at hX
        rw [hX]
        have hcI : (t.size : Int) < (K : Int) + (N : Int) := by omega
        clear hX hR hb hlen
        go_enter Try.func15, Try.ntmps15
        go_wp2_with (go_at_call 8; with_reducible refine T1.out.mono ?_; rintro e1 w1 ⟨rfl, rfl⟩)
        refine bodyPost_ret (v := .tuple #[.string ⟨#[]⟩, .int .i64 0, .int .i64 1]) (by simp [results, Try.f15, go_sem]) rfl ⟨rfl, rfl⟩
      · rw [if_neg hc] at hX
        rw [hX]
        have hcI : ¬ (t.size : Int) < (K : Int) + (N : Int) := by omega
        have CM := cut_mid t K (K + N)
        rw [Nat.add_sub_cancel_left] at CM
        have CM := Lib.hid CM
        clear hX hR hb hlen
        go_enter Try.func15, Try.ntmps15
        go_wp2_with (go_at_call 8; with_reducible refine T1.out.mono ?_; rintro e1 w1 ⟨rfl, rfl⟩)
        refine bodyPost_ret (v := .tuple #[.string (t.extract K (K + N)), .int .i64 ((K : Int) + (N : Int)), .int .i64 0]) (by simp [results, Try.f15, go_sem]) rfl ⟨by rw [CM.out]; push_cast; rfl, rfl⟩
  · rw [if_neg hE0] at T1
    rw [if_pos hE0] at hX
    rw [hX]
    have T1 := Lib.hid T1
    have hz : ((E : Int) != 0) = true := by simp; omega
    have hz2 : ((E : Int) == 0) = false := by simp; omega
    clear hX hR hE0 hlen
    go_enter Try.func15, Try.ntmps15
    go_wp2_with (go_at_call 8; with_reducible refine T1.out.mono ?_; rintro e1 w1 ⟨rfl, rfl⟩)
    refine bodyPost_ret (v := .tuple #[.string ⟨#[]⟩, .int .i64 0, .int .i64 E]) (by simp [results, Try.f15, go_sem]) rfl ⟨rfl, rfl⟩

set_option maxRecDepth 100000 in
set_option maxHeartbeats 1000000 in
theorem rd_text {p q : Nat} {s : ByteArray} (hs : s.size ≤ 1000000000) (hq : q ≤ s.size) : ∃ K, ((txR (s.data.toList.drop q)).1 = 0 → K = (txR (s.data.toList.drop q)).2.2) ∧
    Tri1 Try.prog 31 #[.pointer (some ⟨p, 0, none⟩)] (rdA p s q 0) (.tuple #[.string ⟨(txR (s.data.toList.drop q)).2.1.toArray⟩, .int .i64 ((txR (s.data.toList.drop q)).1 : Nat)]) (rdA p s (q + K) 0) := by
  obtain ⟨E, N, K, hR⟩ : ∃ E N K, nmR 0 0 (s.data.toList.drop q) = (E, N, K) := ⟨_, _, _, rfl⟩
  obtain ⟨hN, hE, hK, _⟩ := nm_lt hR
  have hlen : (s.data.toList.drop q).length = s.size - q := by rw [List.length_drop]; rfl
  have hX : txR (s.data.toList.drop q) = if E ≠ 0 then (E, [], 0) else if 65535 < N then (3, [], 0) else if s.size - q < K + N then (1, [], 0) else (0, ((s.data.toList.drop q).drop K).take N, K + N) := by unfold txR; rw [hR, hlen]
  rw [hlen] at hK
  have T0 := rd_num (p := p) hs hq hR
  by_cases hE0 : E = 0
  · subst hE0
    rw [if_neg (by omega)] at hX
    by_cases hb : 65535 < N
    · rw [if_pos hb] at hX
      rw [hX]
      refine ⟨K, fun h => by simp at h, ?_⟩
      intro w S h
      have T1 := Lib.hid (T0 w S h)
      have hbI : (65535 : Int) < (N : Int) := by omega
      clear hX hR hb hlen T0 h
      go_enter Try.func31, Try.ntmps31
      go_wp2_with (go_at_call 24; with_reducible refine T1.out.mono ?_; rintro e1 w1 ⟨rfl, hA⟩; have HA := Lib.hid hA; clear hA)
      go_ret2
      exact ⟨rfl, HA.out⟩
    · rw [if_neg hb] at hX
      have hbI : ¬ (65535 : Int) < (N : Int) := by omega
      have LF := Lib.hid (fun w w0 S (h : At (rdA p s (q + K) 0) w0 S w) => rd_left hs (show q + K ≤ s.size by omega) h.unit)
      obtain ⟨d, hd⟩ : ∃ d, s.size - (q + K) = d := ⟨_, rfl⟩
      rw [hd] at LF
      by_cases hc : s.size - q < K + N
      · rw [if_pos hc] at hX
        rw [hX]
        refine ⟨K, fun h => by simp at h, ?_⟩
        intro w S h
        have T1 := Lib.hid (T0 w S h)
        have hcI : (d : Int) < (N : Int) := by omega
        clear hX hR hb hlen T0 h hd hc
        go_enter Try.func31, Try.ntmps31
        go_wp2_with (go_at_call 24; with_reducible refine T1.out.mono ?_; rintro e1 w1 ⟨rfl, hA⟩; have L1 := Lib.hid (LF.out _ _ _ hA); have HA := Lib.hid (fun m => At.drewN hA m); clear hA)
        refine L1.out.mono ?_
        rintro e1 w2 ⟨rfl, m, rfl⟩
        go_wp2_with fail
        go_ret2
        exact ⟨rfl, HA.out m⟩
      · rw [if_neg hc] at hX
        rw [hX]
        refine ⟨K + N, fun _ => rfl, ?_⟩
        intro w S h
        have T1 := Lib.hid (T0 w S h)
        have hcI : ¬ (d : Int) < (N : Int) := by omega
        have CM := cut_mid s (q + K) (q + K + N)
        rw [Nat.add_sub_cancel_left] at CM
        have CM := Lib.hid (show s.extract (q + K) (q + K + N) = ⟨(((s.data.toList.drop q).drop K).take N).toArray⟩ by rw [CM, List.drop_drop])
        have h9 : ((q + K : Nat) : Int) + (N : Int) ≤ 1000000000 := by omega
        have SZ := Lib.hid (show q + K + N ≤ s.size by omega)
        clear hX hR hb hlen T0 h hd hc
        obtain ⟨r, hr⟩ : ∃ r, q + K = r := ⟨_, rfl⟩
        have HRE := Lib.hid (show q + (K + N) = r + N by omega)
        rw [hr] at LF CM h9 SZ T1
        clear hr
        go_enter Try.func31, Try.ntmps31
        go_wp2_with (go_at_call 24; with_reducible refine T1.out.mono ?_; rintro e1 w1 ⟨rfl, hA⟩; have L1 := Lib.hid (LF.out _ _ _ hA); have HA := Lib.hid (fun m => At.drewN hA m); clear hA)
        refine L1.out.mono ?_
        rintro e1 w2 ⟨rfl, m, rfl⟩
        have A1 := HA.out m
        obtain ⟨wz, hwz⟩ : ∃ wz, w1.drewN m = wz := ⟨_, rfl⟩
        rw [hwz] at A1 ⊢
        clear hwz L1 LF HA
        obtain ⟨c0, c1, c2, cf⟩ := rd_un A1
        have A2 := At.nounit (rd_set1 A1.unit (r + N))
        obtain ⟨d0, d1, d2, df⟩ := rd_un A2
        push_cast at A2 d0 d1 d2 df
        have W1 : IntKind.i64.wrap ((r : Int) + (N : Int) - (N : Int)) = (r : Int) := by rw [show (r : Int) + (N : Int) - (N : Int) = (r : Int) by omega]; exact IntWalk.i64_in _ (by omega)
        have n1 : (0 : Int) ≤ (r : Int) + (N : Int) := by omega
        have n2 : ((r : Int) + (N : Int)).toNat = r + N := by omega
        have n3 : (r : Int) + (N : Int) ≤ (s.size : Int) := by have := SZ.out; omega
        have n4 : (r : Int) ≤ (r : Int) + (N : Int) := by omega
        have FIN := Lib.hid (fun m => At.drewN A2 m)
        clear A1 A2
        go_wp2_with fail
        obtain ⟨wy, hwy⟩ : ∃ wy, wz.setCell ⟨p, 1, none⟩ (.int .i64 ((r : Int) + (N : Int))) = wy := ⟨_, rfl⟩
        rw [hwy] at FIN d0 d1 d2 df ⊢
        clear hwy c0 c1 c2 cf
        go_quiet (fail)
        go_wp2_with fail
        go_ret2
        exact ⟨by rw [← CM.out]; rfl, by rw [HRE.out]; exact FIN.out _⟩
  · rw [if_pos hE0] at hX
    rw [hX]
    refine ⟨K, fun h => absurd h hE0, ?_⟩
    intro w S h
    have T1 := Lib.hid (T0 w S h)
    have hz : ((E : Int) != 0) = true := by simp; omega
    have hz2 : ((E : Int) == 0) = false := by simp; omega
    clear hX hR hE0 hlen T0 h
    go_enter Try.func31, Try.ntmps31
    go_wp2_with (go_at_call 24; with_reducible refine T1.out.mono ?_; rintro e1 w1 ⟨rfl, hA⟩; have HA := Lib.hid hA; clear hA)
    go_ret2
    exact ⟨rfl, HA.out⟩

end Go.Proofs.Ytfgdfhcefgblaaa
