/- Layer 6: Seal, the program's and the document's. -/
import Derived.Test.YtpdnbkibnpkfbacSeP
namespace Go.Proofs.Ytpdnbkibnpkfbac
open Go.ChangeShapes Go.WideShapes Go.ChangeAt Go.RowKit

theorem own_f {w : World} {B n z : Nat} {e : TypeId} {v : Value} {xs : List Value} (h : w.ownsRow B e z v n xs) : ∃ a cap, v = .slice a n cap := by
  rcases h.2 with ⟨rfl, rfl⟩ | ⟨g, cap, cur, rfl, _⟩
  · exact ⟨_, _, rfl⟩
  · exact ⟨_, _, rfl⟩

def byV (l : List UInt8) : List Value := l.map fun b => Value.int .u8 b.toNat

theorem u8_toNat (n : Nat) : (n.toUInt8.toNat : Int) = ((n % 256 : Nat) : Int) := by simp

theorem one_nw8 (wr : World) (x : Value) : ∀ j u, [x][j]? = some u → (wr.alloc (.cells #[x] 5)).cell? ((⟨wr.heap.size, 0, none⟩ : Addr).add j) = some u := by
  intro j u hj
  match j, hj with
  | 0, hj => simp at hj; subst hj; simp [Addr.add]

theorem own_str {w : World} {B n cap : Nat} {e : TypeId} {a : Option Addr} {l : List UInt8} (hn : 0 < n) (hl : l.length = n) (h : w.ownsRow B e 1 (.slice a n cap) n (byV l)) (src dst : TypeId) {P : Program} (hs : P.underlying src = some (.slice e)) (he : P.underlying e = some (.int .u8)) (hd : P.underlying dst = some .string) :
    (convert src dst (.slice a n cap)).run P w = .ok (.string ⟨l.toArray⟩) w := by
  subst hl
  rcases h.2 with ⟨hv, hx⟩ | ⟨g, cap', cur, hv, _⟩
  · simp only [Value.slice.injEq] at hv; omega
  · simp only [Value.slice.injEq, true_and] at hv
    obtain ⟨rfl, rfl⟩ := hv
    exact run_convert_bytes_back w src dst e ⟨g, 0, none⟩ cap l hs he hd (bytes_of_row h)

theorem le4_take (n k : Nat) (h : k < 4) : (le4 n).take (k + 1) = (le4 n).take k ++ [(n / 256 ^ k).toUInt8] := by
  match k, h with
  | 0, _ => simp [le4]
  | 1, _ => simp [le4]
  | 2, _ => simp [le4]
  | 3, _ => simp [le4]

theorem byV_append (a b : List UInt8) : byV (a ++ b) = byV a ++ byV b := by simp [byV]

set_option maxHeartbeats 4000000 in
theorem s_seal (s : ByteArray) (hs : s.size ≤ 100000) (w : World) : Calls Try.prog 16 #[.string s] w fun e w' => e = .returned (.string ⟨(sealL s.data.toList).toArray⟩) ∧ Below w.heap.size w w' := by
  obtain ⟨i0, hi, hz0, hz1, hz2⟩ := info_parts infU8
  have HI := Lib.hid hi
  have HZ0 := Lib.hid hz0
  have HZ1 := Lib.hid hz1
  have HZ2 := Lib.hid hz2
  clear hi hz0 hz1 hz2
  have C := s_of [s] (some ⟨w.heap.size, 0, none⟩) 1 (by simp) (fun j => by match j with | 0 => unfold maxLen; simpa using (by omega : s.size ≤ 9223372036854775807) | (n + 1) => exact Nat.zero_le _) _ (one_row w s)
  rw [show catB [s] = s.data.toList by simp [catB]] at C
  have hsum : 4294967295 - Crc.run 4294967295 s.data.toList < 4294967296 := by omega
  have HL : Hid (sealL s.data.toList = s.data.toList ++ le4 (4294967295 - Crc.run 4294967295 s.data.toList)) := Lib.hid rfl
  have C0 : Calls Try.prog 12 #[.slice (some ⟨w.heap.size, 0, none⟩) 1 1] (w.alloc (.cells #[.string s] 9)) fun e w' => e = .returned (.int .u32 ((4294967295 - Crc.run 4294967295 s.data.toList : Nat) : Int)) ∧ Below (w.heap.size + 1) (w.alloc (.cells #[.string s] 9)) w' := by simpa using C
  generalize 4294967295 - Crc.run 4294967295 s.data.toList = sum at *
  have CH := Lib.hid C0
  clear C C0
  go_enter Try.func16, Try.ntmps16
  go_wp2_with fail
  refine CH.out.mono ?_
  rintro e w1 ⟨rfl, hb⟩
  have sz := hb.size
  simp only [World.size_alloc] at sz
  have BB : Hid (Below w.heap.size w w1) := Lib.hid (((Below.refl _ w).alloc (Nat.le_refl _) _).trans (hb.mono (by omega)))
  clear hb CH
  go_wp2_with (at_make; refine wpList_make_own _ rfl _ _ 67 rfl w.heap.size 5 i0 (.int .u8 0) 1 Try.underlying67 HI.out HZ0.out HZ1.out _ _ _ (s.size + 4) rfl rfl ?b1 ?b2 ?b3 (by omega) ?_)
  case b1 => omega
  case b2 => rw [HZ2.out]; omega
  case b3 => unfold maxLen; omega
  intro w2 own2 grow2
  have B2 : Hid (Below w.heap.size w w2) := Lib.hid (BB.out.grown grow2 (by omega) (fun k hk => by cases hk))
  have sz2 := grow2.size
  clear grow2 BB
  go_wp2_with (at_builtin; (refine Lib.wpList_append_own_string _ rfl _ _ 67 9 rfl w.heap.size 5 i0 Try.underlying67 Try.underlying9 HI.out HZ0.out HZ1.out HZ2.out _ _ _ rfl own2 s rfl ?c1 ?c2 (by omega) ?_))
  case c1 => unfold maxLen; omega
  case c2 => omega
  intro v3 w3 own3 grow3 _
  have B3 : Hid (Below w.heap.size w w3) := Lib.hid (B2.out.grown grow3 (by omega) (fun k hk => by simp [Value.ownBlock] at hk; omega))
  have sz3 := grow3.size
  have O3 : w3.ownsRow w.heap.size 5 1 v3 (s.size + 0) (byV (s.data.toList ++ (le4 sum).take 0)) := by
    have : byV (s.data.toList ++ (le4 sum).take 0) = [] ++ Lib.strCells s := by simp [byV, Lib.strCells]
    rw [this]; simpa using own3
  have H3 := Lib.hid O3
  clear own2 own3 grow3 O3 B2
  go_wp2
  go_loopw [4, 16] (fun v i wr => ∃ k : Nat, k ≤ 4 ∧ i = .int .i64 k ∧ wr.ownsRow w.heap.size 5 1 v (s.size + k) (byV (s.data.toList ++ (le4 sum).take k)) ∧ Below w.heap.size w wr) (fun _ i _ => 4 - (intOf i).toNat)
  case atStart => exact ⟨0, by omega, rfl, H3.out, B3.out⟩
  case round =>
    obtain ⟨k, hk, rfl, hown, hbel⟩ := hrel
    have szr := hbel.size
    by_cases hlt : k < 4
    · have HT := Lib.hid (le4_take sum k hlt)
      obtain ⟨a4, c4, rfl⟩ := own_f hown
      have hk4 : k = 0 ∨ k = 1 ∨ k = 2 ∨ k = 3 := by omega
      clear hk hlt
      have HOWN := Lib.hid hown
      have HBEL := Lib.hid hbel
      clear hown hbel
      rcases hk4 with rfl | rfl | rfl | rfl
      · have HV : Hid (([Value.int .u8 ((sum : Int) % 256)] : List Value) = byV [(sum / 256 ^ 0).toUInt8]) := Lib.hid (by simp [byV])
        go_wp2_with (at_builtin; refine wpList_append_own _ rfl _ _ 67 rfl w.heap.size 5 i0 (.int .u8 0) 1 1 Try.underlying67 HI.out HZ0.out HZ1.out HZ2.out rfl (by decide) _ _ _ rfl (World.ownsRow.alloc HOWN.out _) ⟨wr.heap.size, 0, none⟩ 1 1 [.int .u8 ((sum : Int) % 256)] rfl rfl ?c1 ?c2 ?c3 ?c4 ?c5 ?_)
        case c1 => exact one_nw8 wr _
        case c2 => simp [Value.oneCell']
        case c3 => unfold maxLen; omega
        case c4 => omega
        case c5 => simp; omega
        intro v5 w5 own5 grow5 _
        have REL : Hid (w5.ownsRow w.heap.size 5 1 v5 (s.size + (0 + 1)) (byV (s.data.toList ++ (le4 sum).take (0 + 1)))) := by
          rw [HT.out, ← List.append_assoc, byV_append, ← HV.out]
          first | exact Lib.hid own5 | exact Lib.hid (by simpa using own5)
        have BEL : Hid (Below w.heap.size w w5) := by
          have h := HOWN.out.lt
          exact Lib.hid ((HBEL.out.alloc szr _).grown grow5 (by simp; omega) (fun k hk => (h k hk).1))
        clear own5 grow5 HOWN HBEL
        go_wp2
        go_roundw
        case rel => exact ⟨0 + 1, by omega, by rfl, REL.out, BEL.out⟩
        case measure => simp [intOf]
      · have HV : Hid (([Value.int .u8 ((sum : Int) / 256 % 256)] : List Value) = byV [(sum / 256 ^ 1).toUInt8]) := Lib.hid (by simp [byV])
        go_wp2_with (at_builtin; refine wpList_append_own _ rfl _ _ 67 rfl w.heap.size 5 i0 (.int .u8 0) 1 1 Try.underlying67 HI.out HZ0.out HZ1.out HZ2.out rfl (by decide) _ _ _ rfl (World.ownsRow.alloc HOWN.out _) ⟨wr.heap.size, 0, none⟩ 1 1 [.int .u8 ((sum : Int) / 256 % 256)] rfl rfl ?c1 ?c2 ?c3 ?c4 ?c5 ?_)
        case c1 => exact one_nw8 wr _
        case c2 => simp [Value.oneCell']
        case c3 => unfold maxLen; omega
        case c4 => omega
        case c5 => simp; omega
        intro v5 w5 own5 grow5 _
        have REL : Hid (w5.ownsRow w.heap.size 5 1 v5 (s.size + (1 + 1)) (byV (s.data.toList ++ (le4 sum).take (1 + 1)))) := by
          rw [HT.out, ← List.append_assoc, byV_append, ← HV.out]
          first | exact Lib.hid own5 | exact Lib.hid (by simpa using own5)
        have BEL : Hid (Below w.heap.size w w5) := by
          have h := HOWN.out.lt
          exact Lib.hid ((HBEL.out.alloc szr _).grown grow5 (by simp; omega) (fun k hk => (h k hk).1))
        clear own5 grow5 HOWN HBEL
        go_wp2
        go_roundw
        case rel => exact ⟨1 + 1, by omega, by rfl, REL.out, BEL.out⟩
        case measure => simp [intOf]
      · have HV : Hid (([Value.int .u8 ((sum : Int) / 65536 % 256)] : List Value) = byV [(sum / 256 ^ 2).toUInt8]) := Lib.hid (by simp [byV])
        go_wp2_with (at_builtin; refine wpList_append_own _ rfl _ _ 67 rfl w.heap.size 5 i0 (.int .u8 0) 1 1 Try.underlying67 HI.out HZ0.out HZ1.out HZ2.out rfl (by decide) _ _ _ rfl (World.ownsRow.alloc HOWN.out _) ⟨wr.heap.size, 0, none⟩ 1 1 [.int .u8 ((sum : Int) / 65536 % 256)] rfl rfl ?c1 ?c2 ?c3 ?c4 ?c5 ?_)
        case c1 => exact one_nw8 wr _
        case c2 => simp [Value.oneCell']
        case c3 => unfold maxLen; omega
        case c4 => omega
        case c5 => simp; omega
        intro v5 w5 own5 grow5 _
        have REL : Hid (w5.ownsRow w.heap.size 5 1 v5 (s.size + (2 + 1)) (byV (s.data.toList ++ (le4 sum).take (2 + 1)))) := by
          rw [HT.out, ← List.append_assoc, byV_append, ← HV.out]
          first | exact Lib.hid own5 | exact Lib.hid (by simpa using own5)
        have BEL : Hid (Below w.heap.size w w5) := by
          have h := HOWN.out.lt
          exact Lib.hid ((HBEL.out.alloc szr _).grown grow5 (by simp; omega) (fun k hk => (h k hk).1))
        clear own5 grow5 HOWN HBEL
        go_wp2
        go_roundw
        case rel => exact ⟨2 + 1, by omega, by rfl, REL.out, BEL.out⟩
        case measure => simp [intOf]
      · have HV : Hid (([Value.int .u8 ((sum : Int) / 16777216)] : List Value) = byV [(sum / 256 ^ 3).toUInt8]) := Lib.hid (by simp [byV]; omega)
        go_wp2_with (at_builtin; refine wpList_append_own _ rfl _ _ 67 rfl w.heap.size 5 i0 (.int .u8 0) 1 1 Try.underlying67 HI.out HZ0.out HZ1.out HZ2.out rfl (by decide) _ _ _ rfl (World.ownsRow.alloc HOWN.out _) ⟨wr.heap.size, 0, none⟩ 1 1 [.int .u8 ((sum : Int) / 16777216)] rfl rfl ?c1 ?c2 ?c3 ?c4 ?c5 ?_)
        case c1 => exact one_nw8 wr _
        case c2 => simp [Value.oneCell']
        case c3 => unfold maxLen; omega
        case c4 => omega
        case c5 => simp; omega
        intro v5 w5 own5 grow5 _
        have REL : Hid (w5.ownsRow w.heap.size 5 1 v5 (s.size + (3 + 1)) (byV (s.data.toList ++ (le4 sum).take (3 + 1)))) := by
          rw [HT.out, ← List.append_assoc, byV_append, ← HV.out]
          first | exact Lib.hid own5 | exact Lib.hid (by simpa using own5)
        have BEL : Hid (Below w.heap.size w w5) := by
          have h := HOWN.out.lt
          exact Lib.hid ((HBEL.out.alloc szr _).grown grow5 (by simp; omega) (fun k hk => (h k hk).1))
        clear own5 grow5 HOWN HBEL
        go_wp2
        go_roundw
        case rel => exact ⟨3 + 1, by omega, by rfl, REL.out, BEL.out⟩
        case measure => simp [intOf]
    · obtain rfl : k = 4 := by omega
      obtain ⟨a4, c4, rfl⟩ := own_f hown
      have hcv := own_str (by omega) (by simp [le4]) hown 67 9 (P := Try.prog) Try.underlying67 Try.underlying5 Try.underlying9
      rw [show (le4 sum).take 4 = le4 sum by simp [le4]] at hcv
      rw [← HL.out] at hcv
      have HBEL := Lib.hid hbel
      clear hown hbel
      go_wp2
      go_ret
      exact ⟨rfl, HBEL.out⟩

end Go.Proofs.Ytpdnbkibnpkfbac
