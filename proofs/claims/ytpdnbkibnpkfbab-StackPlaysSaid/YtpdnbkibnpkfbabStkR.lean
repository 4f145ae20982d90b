/- The law StackPlays: the loop. -/
import Derived.Test.YtpdnbkibnpkfbabStkQ
namespace Go.Proofs.Ytpdnbkibnpkfbab
open Go.ChangeShapes Go.WideShapes Go.ChangeAt Go.RowKit

set_option maxHeartbeats 8000000 in
set_option maxRecDepth 100000 in
theorem plays_short (room : Nat) (h1 : 1 ≤ room) (h2 : room ≤ 4096) (a : Option Addr) (len cap : Nat) (F : Nat → Nat → Int) (hl : len ≤ 300) (W : World) (hrow : RecRow [.u8, .i64] W a len cap F) :
    Calls Try.prog 3 #[.int .i64 room, .slice a len cap] W fun e W' => e = .returned (.bool true) ∧ Below W.heap.size W W' := by
  have hd : decide (1 ≤ (room : Int) ∧ (room : Int) ≤ 4096) = true := by simp; omega
  have NB := Lib.hid (new_ok room h1 h2)
  have M := may19 room
  rw [hd] at M
  have M' := Lib.hid M
  have hcl : len ≤ cap := hrow.lc
  have hcm : cap ≤ 9223372036854775807 := by have := hrow.cm; unfold maxLen at this; omega
  have cell : Hid (∀ wr, Below W.heap.size W wr → ∀ j, j < len → ∃ q off, a = some ⟨q, off, none⟩ ∧ wr.cell? ⟨q, off + j * 2, none⟩ = some (.int .u8 (F j 0)) ∧ wr.cell? ⟨q, off + j * 2 + 1, none⟩ = some (.int .i64 (F j 1)) ∧ 0 ≤ F j 0 ∧ F j 0 ≤ 255) := by
    intro wr hb j hj
    obtain ⟨q, off, ha, hq, hc⟩ := hrow.at_ j hj
    exact ⟨q, off, ha, (hb.cell (p := ⟨q, _, none⟩) hq).trans (hc 0 _ rfl), (hb.cell (p := ⟨q, _, none⟩) hq).trans (hc 1 _ rfl), bounds_u8 (hrow.wf j hj 0 _ rfl)⟩
  clear hd M hrow
  go_enter Try.func3, Try.ntmps3
  go_wp2_with (first | (go_at_call 9; refine (NB.out _).mono ?_; rintro e w1 ⟨b, g, rfl, hs, hb, hg, hf⟩) | (go_at_call 10; refine (M'.out _).mono ?_; rintro e w2 ⟨rfl, rfl⟩))
  have start : PR W (w1.alloc (.cells #[.slice none 0 0, .int .i64 room, .int .i64 0, .bool false] 32)) b w1.heap.size 0 none [] [] room 0 0 false false := by
    have fa : Fr (fun _ => False) w1 (w1.alloc (.cells #[.slice none 0 0, .int .i64 room, .int .i64 0, .bool false] 32)) := (Fr.refl _ w1).alloc _
    have b1 := hs.glt
    exact ⟨some g, none, hs.fr fa (fun h => h) (fun _ _ h => h), ⟨_, heap_alloc_new _ _, World.ownsRow_nil _ _ _ _, rfl, by simp⟩, by omega, (fun h => by have := b1.2 _ h; omega), by simp, by simp, (fun _ h => by cases h), ⟨hb, hf.size, (fun k hk => by cases hk; exact hg), (fun k hk => by cases hk)⟩, hf.alloc _⟩
  clear hs hb hg hf NB M'
  go_wp2
  go_loopw [53] (fun i wr => ∃ (k : Nat) (xs : List Int) (high : Int) (lost : Bool), k ≤ len ∧ i = .int .i64 k ∧ xs.length ≤ k ∧ xs.length ≤ room ∧ 0 ≤ high ∧ high ≤ k ∧ PR W wr b w1.heap.size 0 none xs xs room high high lost lost) (fun i _ => len - (intOf i).toNat)
  case atStart => exact ⟨0, [], 0, false, Nat.zero_le _, rfl, Nat.le_refl _, Nat.zero_le _, Int.le_refl _, Int.le_refl _, start⟩
  case round =>
    clear start
    obtain ⟨k, xs, high, lost, hk, rfl, hxk, hxr, hh0, hhk, hp⟩ := hrel
    have hbel := hp.below
    by_cases hlt : k < len
    · obtain ⟨q, off, rfl, hc0, hc1, hK0, hK1⟩ := cell.out wr hbel k hlt
      have hltI : (k : Int) < (len : Int) := by omega
      have hp2 := hp.alloc (.cells #[.int .u8 (F k 0), .int .i64 (F k 1)] 34)
      clear hp
      have h8 : F k 0 % 8 = 4 ∨ F k 0 % 8 = 5 ∨ F k 0 % 8 = 6 ∨ F k 0 % 8 = 7 ∨ (F k 0 % 8 < 4 ∧ 0 ≤ F k 0 % 8) := by omega
      rcases h8 with h8 | h8 | h8 | h8 | ⟨h8, h80⟩
      · rcases snoc_or xs with rfl | ⟨ys, z, rfl⟩
        · obtain ⟨gs, gr, s1, s2, _⟩ := hp2.ex
          have S1 := Lib.hid s1
          have S2 := Lib.hid s2
          clear s1 s2
          go_wp2_with (first | (go_at_call 12; refine (pop_none S1.out).mono ?_; rintro e w2 ⟨rfl, rfl⟩) | (go_at_call 13; refine (rpop_none S2.out).mono ?_; rintro e w3 ⟨rfl, rfl⟩))
          have hp4 := hp2.drop 0
          clear hp2 S1 S2
          obtain ⟨a5, cap5, c0, c2, c3, f3⟩ := hp4.cells
          have HP := Lib.hid hp4
          clear hp4
          go_quiet ((first | (go_at_call 17; exact Calls.quiet_of_same (HP.out.drewN _).len) | (go_at_call 18; exact Calls.quiet_of_same (HP.out.drewN _).high) | (go_at_call 19; exact Calls.quiet_of_same (HP.out.drewN _).lost)))
          go_wp2
          go_roundw
          case rel => exact ⟨k + 1, [], high, lost, by omega, by go_num, by simp, by simp, hh0, by omega, HP.out.drewN _⟩
          case measure => simp [intOf]; omega
        · have hy : ys.length + 1 ≤ k := by simpa using hxk
          have hyr : ys.length + 1 ≤ room := by simpa using hxr
          have C1 := Lib.hid (hp2.s (fun gs h => (pop_some (g := gs) (ys := ys) h (by omega)).mono fun _ _ h => h.op))
          have C2 : Hid (∀ w', PR W w' b w1.heap.size wr.heap.size (some (.cells #[.int .u8 (F k 0), .int .i64 (F k 1)] 34)) ys (ys ++ [z]) room high high lost lost → _) := fun w' h => h.r (fun gr h => (rpop_some (g := gr) (ys := ys) h (by omega)).mono fun _ _ h => h.op)
          clear hp2
          go_wp2_with (first | (go_at_call 12; refine (C1.out).mono ?_; rintro e w2 ⟨rfl, hp3⟩) | (go_at_call 13; refine (C2.out _ hp3).mono ?_; rintro e w3 ⟨rfl, hp4'⟩))
          have hp4 := hp4'.drop 0
          clear hp4' hp3 C1 C2
          obtain ⟨a5, cap5, c0, c2, c3, f3⟩ := hp4.cells
          have HP := Lib.hid hp4
          clear hp4
          go_quiet ((first | (go_at_call 17; exact Calls.quiet_of_same (HP.out.drewN _).len) | (go_at_call 18; exact Calls.quiet_of_same (HP.out.drewN _).high) | (go_at_call 19; exact Calls.quiet_of_same (HP.out.drewN _).lost)))
          go_wp2
          go_roundw
          case rel => exact ⟨k + 1, ys, high, lost, by omega, by go_num, by omega, by omega, hh0, by omega, HP.out.drewN _⟩
          case measure => simp [intOf]; omega
      · rcases snoc_or xs with rfl | ⟨ys, z, rfl⟩
        · obtain ⟨gs, gr, s1, s2, _⟩ := hp2.ex
          have S1 := Lib.hid s1
          have S2 := Lib.hid s2
          clear s1 s2
          go_wp2_with (first | (go_at_call 12; refine (pop_none S1.out).mono ?_; rintro e w2 ⟨rfl, rfl⟩) | (go_at_call 13; refine (rpop_none S2.out).mono ?_; rintro e w3 ⟨rfl, rfl⟩))
          have hp4 := hp2.drop 0
          clear hp2 S1 S2
          obtain ⟨a5, cap5, c0, c2, c3, f3⟩ := hp4.cells
          have HP := Lib.hid hp4
          clear hp4
          go_quiet ((first | (go_at_call 17; exact Calls.quiet_of_same (HP.out.drewN _).len) | (go_at_call 18; exact Calls.quiet_of_same (HP.out.drewN _).high) | (go_at_call 19; exact Calls.quiet_of_same (HP.out.drewN _).lost)))
          go_wp2
          go_roundw
          case rel => exact ⟨k + 1, [], high, lost, by omega, by go_num, by simp, by simp, hh0, by omega, HP.out.drewN _⟩
          case measure => simp [intOf]; omega
        · have hy : ys.length + 1 ≤ k := by simpa using hxk
          have hyr : ys.length + 1 ≤ room := by simpa using hxr
          have C1 := Lib.hid (hp2.s (fun gs h => (pop_some (g := gs) (ys := ys) h (by omega)).mono fun _ _ h => h.op))
          have C2 : Hid (∀ w', PR W w' b w1.heap.size wr.heap.size (some (.cells #[.int .u8 (F k 0), .int .i64 (F k 1)] 34)) ys (ys ++ [z]) room high high lost lost → _) := fun w' h => h.r (fun gr h => (rpop_some (g := gr) (ys := ys) h (by omega)).mono fun _ _ h => h.op)
          clear hp2
          go_wp2_with (first | (go_at_call 12; refine (C1.out).mono ?_; rintro e w2 ⟨rfl, hp3⟩) | (go_at_call 13; refine (C2.out _ hp3).mono ?_; rintro e w3 ⟨rfl, hp4'⟩))
          have hp4 := hp4'.drop 0
          clear hp4' hp3 C1 C2
          obtain ⟨a5, cap5, c0, c2, c3, f3⟩ := hp4.cells
          have HP := Lib.hid hp4
          clear hp4
          go_quiet ((first | (go_at_call 17; exact Calls.quiet_of_same (HP.out.drewN _).len) | (go_at_call 18; exact Calls.quiet_of_same (HP.out.drewN _).high) | (go_at_call 19; exact Calls.quiet_of_same (HP.out.drewN _).lost)))
          go_wp2
          go_roundw
          case rel => exact ⟨k + 1, ys, high, lost, by omega, by go_num, by omega, by omega, hh0, by omega, HP.out.drewN _⟩
          case measure => simp [intOf]; omega
      · rcases snoc_or xs with rfl | ⟨ys, z, rfl⟩
        · obtain ⟨gs, gr, s1, s2, _⟩ := hp2.ex
          have S1 := Lib.hid s1
          have S2 := Lib.hid s2
          clear s1 s2
          go_wp2_with (first | (go_at_call 12; refine (pop_none S1.out).mono ?_; rintro e w2 ⟨rfl, rfl⟩) | (go_at_call 13; refine (rpop_none S2.out).mono ?_; rintro e w3 ⟨rfl, rfl⟩))
          have hp4 := hp2.drop 0
          clear hp2 S1 S2
          obtain ⟨a5, cap5, c0, c2, c3, f3⟩ := hp4.cells
          have HP := Lib.hid hp4
          clear hp4
          go_quiet ((first | (go_at_call 17; exact Calls.quiet_of_same (HP.out.drewN _).len) | (go_at_call 18; exact Calls.quiet_of_same (HP.out.drewN _).high) | (go_at_call 19; exact Calls.quiet_of_same (HP.out.drewN _).lost)))
          go_wp2
          go_roundw
          case rel => exact ⟨k + 1, [], high, lost, by omega, by go_num, by simp, by simp, hh0, by omega, HP.out.drewN _⟩
          case measure => simp [intOf]; omega
        · have hy : ys.length + 1 ≤ k := by simpa using hxk
          have hyr : ys.length + 1 ≤ room := by simpa using hxr
          have C1 := Lib.hid (hp2.s (fun gs h => (pop_some (g := gs) (ys := ys) h (by omega)).mono fun _ _ h => h.op))
          have C2 : Hid (∀ w', PR W w' b w1.heap.size wr.heap.size (some (.cells #[.int .u8 (F k 0), .int .i64 (F k 1)] 34)) ys (ys ++ [z]) room high high lost lost → _) := fun w' h => h.r (fun gr h => (rpop_some (g := gr) (ys := ys) h (by omega)).mono fun _ _ h => h.op)
          clear hp2
          go_wp2_with (first | (go_at_call 12; refine (C1.out).mono ?_; rintro e w2 ⟨rfl, hp3⟩) | (go_at_call 13; refine (C2.out _ hp3).mono ?_; rintro e w3 ⟨rfl, hp4'⟩))
          have hp4 := hp4'.drop 0
          clear hp4' hp3 C1 C2
          obtain ⟨a5, cap5, c0, c2, c3, f3⟩ := hp4.cells
          have HP := Lib.hid hp4
          clear hp4
          go_quiet ((first | (go_at_call 17; exact Calls.quiet_of_same (HP.out.drewN _).len) | (go_at_call 18; exact Calls.quiet_of_same (HP.out.drewN _).high) | (go_at_call 19; exact Calls.quiet_of_same (HP.out.drewN _).lost)))
          go_wp2
          go_roundw
          case rel => exact ⟨k + 1, ys, high, lost, by omega, by go_num, by omega, by omega, hh0, by omega, HP.out.drewN _⟩
          case measure => simp [intOf]; omega
      · have C1 := Lib.hid (hp2.s (fun gs h => (found_any (g := gs) h).mono fun _ _ h => h.op))
        clear hp2
        go_wp2_with (go_at_call 14; refine (C1.out).mono ?_; rintro e w2 ⟨rfl, hp3⟩; obtain ⟨a6, cap6, u0, u2, u3, v3⟩ := hp3.cells)
        have hp4 := (hp3.found false).drop 0
        clear hp3 C1
        obtain ⟨a5, cap5, c0, c2, c3, f3⟩ := hp4.cells
        have HP := Lib.hid hp4
        clear hp4
        go_quiet ((first | (go_at_call 17; exact Calls.quiet_of_same (HP.out.drewN _).len) | (go_at_call 18; exact Calls.quiet_of_same (HP.out.drewN _).high) | (go_at_call 19; exact Calls.quiet_of_same (HP.out.drewN _).lost)))
        go_wp2
        go_roundw
        case rel => exact ⟨k + 1, xs, high, false, by omega, by go_num, by omega, by omega, hh0, by omega, HP.out.drewN _⟩
        case measure => simp [intOf]; omega
      · have g4 : (F k 0 % 8 == 4) = false := by simp; omega
        have g5 : (F k 0 % 8 == 5) = false := by simp; omega
        have g6 : (F k 0 % 8 == 6) = false := by simp; omega
        have g7 : (F k 0 % 8 == 7) = false := by simp; omega
        clear h8 h80
        by_cases hr : xs.length < room
        · have C1 : Hid (∀ w', PR W w' b w1.heap.size wr.heap.size (some (.cells #[.int .u8 (F k 0), .int .i64 (F k 1)] 34)) xs xs room high high lost lost → _) := fun w' h => h.s (fun gs h => (push_room (g := gs) h (by omega) (by omega) ⟨hh0, by omega⟩ (F k 1)).mono fun _ _ h => h.op)
          have C2 : Hid (∀ w', PR W w' b w1.heap.size wr.heap.size (some (.cells #[.int .u8 (F k 0), .int .i64 (F k 1)] 34)) (xs ++ [F k 1]) xs room (mx high (xs.length + 1)) high lost lost → _) := fun w' h => h.r (fun gr h => (rpush_room (g := gr) h (by omega) (by omega) ⟨hh0, by omega⟩ (F k 1)).mono fun _ _ h => h.op)
          have hp2d := hp2.drew
          clear hp2
          go_wp2_with fail
          go_region_held3 (fun w' => w'.cell? ⟨wr.heap.size, 1, none⟩ = some (.int .i64 (F k 1))) (exact PR.box (by assumption))
            (first | (go_at_call 15; refine (C1.out _ hp2d).mono ?_; rintro e w2 ⟨rfl, hp3⟩) | (go_at_call 16; refine (C2.out _ (by assumption)).mono ?_; rintro e w3 ⟨rfl, hp4'⟩))
          go_wp2
          have hp4 := hp4'.drop 0
          clear hp4' C1 C2 hp2d
          obtain ⟨a5, cap5, c0, c2, c3, f3⟩ := hp4.cells
          have HP := Lib.hid hp4
          clear hp4
          go_quiet ((first | (go_at_call 17; exact Calls.quiet_of_same (HP.out.drewN _).len) | (go_at_call 18; exact Calls.quiet_of_same (HP.out.drewN _).high) | (go_at_call 19; exact Calls.quiet_of_same (HP.out.drewN _).lost)))
          go_wp2
          go_roundw
          case rel => exact ⟨k + 1, xs ++ [F k 1], mx high (xs.length + 1), lost, by omega, by go_num, by simp; omega, by simp; omega, by unfold mx; split <;> omega, by unfold mx; split <;> omega, HP.out.drewN _⟩
          case measure => simp [intOf]; omega
        · have C1 : Hid (∀ w', PR W w' b w1.heap.size wr.heap.size (some (.cells #[.int .u8 (F k 0), .int .i64 (F k 1)] 34)) xs xs room high high lost lost → _) := fun w' h => h.s (fun gs h => (push_full (g := gs) h (by omega) (F k 1)).mono fun _ _ h => h.op)
          have C2 : Hid (∀ w', PR W w' b w1.heap.size wr.heap.size (some (.cells #[.int .u8 (F k 0), .int .i64 (F k 1)] 34)) xs xs room high high true lost → _) := fun w' h => h.r (fun gr h => (rpush_full (g := gr) h (by omega) (F k 1)).mono fun _ _ h => h.op)
          have hp2d := hp2.drew
          clear hp2
          go_wp2_with fail
          go_region_held3 (fun w' => w'.cell? ⟨wr.heap.size, 1, none⟩ = some (.int .i64 (F k 1))) (exact PR.box (by assumption))
            (first | (go_at_call 15; refine (C1.out _ hp2d).mono ?_; rintro e w2 ⟨rfl, hp3⟩) | (go_at_call 16; refine (C2.out _ (by assumption)).mono ?_; rintro e w3 ⟨rfl, hp4'⟩))
          go_wp2
          have hp4 := hp4'.drop 0
          clear hp4' C1 C2 hp2d
          obtain ⟨a5, cap5, c0, c2, c3, f3⟩ := hp4.cells
          have HP := Lib.hid hp4
          clear hp4
          go_quiet ((first | (go_at_call 17; exact Calls.quiet_of_same (HP.out.drewN _).len) | (go_at_call 18; exact Calls.quiet_of_same (HP.out.drewN _).high) | (go_at_call 19; exact Calls.quiet_of_same (HP.out.drewN _).lost)))
          go_wp2
          go_roundw
          case rel => exact ⟨k + 1, xs, high, true, by omega, by go_num, by omega, by omega, hh0, by omega, HP.out.drewN _⟩
          case measure => simp [intOf]; omega
    · obtain rfl : len = k := by omega
      have SL := Lib.hid (slives wr)
      clear hp
      go_wp2_with (go_at_call 11; refine (SL.out).mono ?_; rintro e w3 ⟨rfl, hb3⟩)
      go_ret
      exact ⟨rfl, hbel.trans (hb3.mono hbel.size)⟩

theorem plays_any (room : Int) (a : Option Addr) (len cap : Nat) (F : Nat → Nat → Int) (W : World) (hrow : RecRow [.u8, .i64] W a len cap F) :
    Calls Try.prog 3 #[.int .i64 room, .slice a len cap] W fun e W' => e = .returned (.bool true) ∧ Below W.heap.size W W' := by
  by_cases h1 : room < 1
  · exact plays_bad room (.inl h1) a len cap W
  by_cases h2 : 4096 < room
  · exact plays_bad room (.inr h2) a len cap W
  obtain ⟨r, rfl⟩ := Int.eq_ofNat_of_zero_le (show 0 ≤ room by omega)
  by_cases h : len ≤ 300
  · exact plays_short r (by omega) (by omega) a len cap F h W hrow
  · exact plays_long r (by omega) (by omega) a len cap (by omega) (by have := hrow.cm; have := hrow.lc; unfold maxLen at *; omega) W

end Go.Proofs.Ytpdnbkibnpkfbab
