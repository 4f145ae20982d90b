/- The law WireReads: one reading, of both. -/
import Derived.Test.YtfgdfhcefgblaaaRdG
namespace Go.Proofs.Ytfgdfhcefgblaaa
open Go.ChangeShapes Go.WideShapes Go.ChangeAt Go.RowKit

theorem ext_list (s : ByteArray) (q : Nat) : (s.extract q s.size).data.toList = s.data.toList.drop q := by
  rw [cut_mid]
  show (s.data.toList.drop q).take (s.size - q) = _
  exact List.take_of_length_le (by rw [List.length_drop]; exact Nat.le_refl _)

theorem ext_size (s : ByteArray) (q : Nat) : (s.extract q s.size).size = s.size - q := by
  have := congrArg List.length (ext_list s q)
  rw [List.length_drop] at this
  exact this

/-- what became of the place -/
def Stood (E q q' st size : Nat) (same none : Prop) : Prop := (E = 0 ∧ same ∧ q' = q + st ∧ q' ≤ size) ∨ ((E = 1 ∨ E = 2 ∨ E = 3) ∧ none ∧ q' = q)

theorem Stood.imp {E q q' st size : Nat} {a b c d : Prop} (h : Stood E q q' st size a b) (f : a → c) (g : b → d) : Stood E q q' st size c d := by
  rcases h with ⟨h1, h2, h3⟩ | ⟨h1, h2, h3⟩
  · exact .inl ⟨h1, f h2, h3⟩
  · exact .inr ⟨h1, g h2, h3⟩

theorem a_num {p q : Nat} {s : ByteArray} (hs : s.size ≤ 1000000000) (hq : q ≤ s.size) : ∃ x x' st E q' : Nat, E ≤ 3 ∧ st ≤ 1000000000 ∧
    (∀ w, Calls Try.prog 8 #[.string (s.extract q s.size)] w fun e w' => e = .returned (.tuple #[.int .u64 x', .int .i64 st, .int .i64 E]) ∧ w = w') ∧
    Tri1 Try.prog 7 #[.pointer (some ⟨p, 0, none⟩)] (rdA p s q 0) (.int .u64 x) (rdA p s q' E) ∧ Stood E q q' st s.size (x = x') (x = 0) := by
  obtain ⟨E, N, K, hR⟩ : ∃ E N K, nmR 0 0 (s.data.toList.drop q) = (E, N, K) := ⟨_, _, _, rfl⟩
  obtain ⟨hN, hE, hK, hz⟩ := nm_lt hR
  have hK' : K ≤ s.size - q := by rw [List.length_drop] at hK; exact hK
  have T0 := rd_num (p := p) hs hq hR
  have R0 := fun w => r5_num (E := E) (N := N) (K := K) (s.extract q s.size) (by rw [ext_size]; omega) (by rw [ext_list, hR]) w
  by_cases hE0 : E = 0
  · subst hE0
    rw [if_pos rfl] at R0
    exact ⟨N, N, K, 0, q + K, by omega, by omega, R0, tp_num_ok T0, .inl ⟨rfl, rfl, rfl, by omega⟩⟩
  · rw [if_neg hE0] at R0
    exact ⟨0, N, 0, E, q, by omega, by omega, R0, tp_num_bad (by omega) T0, .inr ⟨by omega, rfl, rfl⟩⟩

theorem a_int {p q : Nat} {s : ByteArray} (hs : s.size ≤ 1000000000) (hq : q ≤ s.size) : ∃ (x x' : Int) (st E q' : Nat), E ≤ 3 ∧ st ≤ 1000000000 ∧
    (∀ w, Calls Try.prog 10 #[.string (s.extract q s.size)] w fun e w' => e = .returned (.tuple #[.int .i64 x', .int .i64 st, .int .i64 E]) ∧ w = w') ∧
    Tri1 Try.prog 9 #[.pointer (some ⟨p, 0, none⟩)] (rdA p s q 0) (.int .i64 x) (rdA p s q' E) ∧ Stood E q q' st s.size (x = x') (x = 0) := by
  obtain ⟨E, N, K, hR⟩ : ∃ E N K, nmR 0 0 (s.data.toList.drop q) = (E, N, K) := ⟨_, _, _, rfl⟩
  obtain ⟨hN, hE, hK, hz⟩ := nm_lt hR
  have hK' : K ≤ s.size - q := by rw [List.length_drop] at hK; exact hK
  have T0 := rd_int (p := p) hs hq hR
  have R0 := fun w => r5_int (E := E) (N := N) (K := K) (s.extract q s.size) (by rw [ext_size]; omega) (by rw [ext_list, hR]) w
  by_cases hE0 : E = 0
  · subst hE0
    rw [if_pos rfl] at R0
    exact ⟨zzI N, zzI N, K, 0, q + K, by omega, by omega, R0, tp_int_ok T0, .inl ⟨rfl, rfl, rfl, by omega⟩⟩
  · rw [if_neg hE0] at R0
    exact ⟨0, zzI N, 0, E, q, by omega, by omega, R0, tp_int_bad (by omega) T0, .inr ⟨by omega, rfl, rfl⟩⟩

theorem a_flt {p q : Nat} {s : ByteArray} (hs : s.size ≤ 1000000000) (hq : q ≤ s.size) : ∃ x x' st E q' : Nat, E ≤ 3 ∧ st ≤ 1000000000 ∧
    (∀ w, Calls Try.prog 13 #[.string (s.extract q s.size)] w fun e w' => e = .returned (.tuple #[.int .u64 x', .int .i64 st, .int .i64 E]) ∧ w = w') ∧
    Tri1 Try.prog 12 #[.pointer (some ⟨p, 0, none⟩)] (rdA p s q 0) (.float .f64 x) (rdA p s q' E) ∧ Stood E q q' st s.size (x = x') (x = 0) := by
  have hz := ext_size s q
  by_cases h8 : s.size - q < 8
  · exact ⟨0, 0, 0, 1, q, by omega, by omega, fun w => r5_float_short _ (by omega) w, tp_flt_bad (.inl rfl) (rd_float_short hs hq h8), .inr ⟨.inl rfl, rfl, rfl⟩⟩
  · have R0 := fun w => r5_float (s.extract q s.size) (by omega) (by omega) w
    rw [ext_list] at R0
    exact ⟨leV (byK s q 8), leV (byK s q 8), 8, 0, q + 8, by omega, by omega, R0, tp_flt_ok (rd_float hs (by omega)), .inl ⟨rfl, rfl, rfl, by omega⟩⟩

theorem txR_le (l : List UInt8) : (txR l).1 ≤ 3 ∧ ((txR l).1 = 0 → (txR l).2.2 ≤ l.length) ∧ ((txR l).1 ≠ 0 → (txR l).2.2 = 0 ∧ (txR l).2.1 = []) := by
  have := nmR_fits l 0 0 (by omega) (by decide)
  unfold txR
  dsimp only
  by_cases h1 : (nmR 0 0 l).1 ≠ 0
  · rw [if_pos h1]; exact ⟨by dsimp only; omega, fun h => absurd h h1, fun _ => ⟨rfl, rfl⟩⟩
  · rw [if_neg h1]
    by_cases h2 : 65535 < (nmR 0 0 l).2.1
    · rw [if_pos h2]; exact ⟨by dsimp only; omega, fun h => absurd h (by dsimp only; omega), fun _ => ⟨rfl, rfl⟩⟩
    · rw [if_neg h2]
      by_cases h3 : l.length < (nmR 0 0 l).2.2 + (nmR 0 0 l).2.1
      · rw [if_pos h3]; exact ⟨by dsimp only; omega, fun h => absurd h (by dsimp only; omega), fun _ => ⟨rfl, rfl⟩⟩
      · rw [if_neg h3]; exact ⟨by dsimp only; omega, fun _ => by dsimp only; omega, fun h => absurd rfl h⟩

theorem a_txt {p q : Nat} {s : ByteArray} (hs : s.size ≤ 1000000000) (hq : q ≤ s.size) : ∃ (x x' : ByteArray) (st E q' : Nat), E ≤ 3 ∧ st ≤ 1000000000 ∧
    (∀ w, Calls Try.prog 15 #[.string (s.extract q s.size)] w fun e w' => e = .returned (.tuple #[.string x', .int .i64 st, .int .i64 E]) ∧ w = w') ∧
    Tri1 Try.prog 14 #[.pointer (some ⟨p, 0, none⟩)] (rdA p s q 0) (.string x) (rdA p s q' E) ∧ Stood E q q' st s.size (x = x') (x = ⟨#[]⟩) := by
  obtain ⟨K, hK, T0⟩ := rd_text (p := p) hs hq
  obtain ⟨h1, h2, h3⟩ := txR_le (s.data.toList.drop q)
  have R0 := fun w => r5_text (s.extract q s.size) (by rw [ext_size]; omega) w
  rw [ext_list] at R0
  have hlen : (s.data.toList.drop q).length = s.size - q := by rw [List.length_drop]; rfl
  rw [hlen] at h2
  by_cases hE0 : (txR (s.data.toList.drop q)).1 = 0
  · have hk := hK hE0
    have := h2 hE0
    rw [hE0] at T0 R0
    refine ⟨⟨(txR (s.data.toList.drop q)).2.1.toArray⟩, _, (txR (s.data.toList.drop q)).2.2, 0, q + K, by omega, by omega, R0, tp_txt_ok T0, .inl ⟨rfl, rfl, by rw [hk], by omega⟩⟩
  · obtain ⟨h4, h5⟩ := h3 hE0
    exact ⟨⟨#[]⟩, _, (txR (s.data.toList.drop q)).2.2, (txR (s.data.toList.drop q)).1, q, h1, by omega, R0, tp_txt_bad (by omega) T0, .inr ⟨by omega, rfl, rfl⟩⟩

end Go.Proofs.Ytfgdfhcefgblaaa
