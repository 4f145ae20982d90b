/- The page map and the document's, side by side (layer 8). -/
import Derived.Test.YtpdnbkibnpkfbacPgZt
namespace Go.Proofs.Ytpdnbkibnpkfbac.PT
open Go.ChangeShapes Go.WideShapes Go.ChangeAt Go.RowKit

theorem RL.perm {s : QS} {L M : List (Nat × Nat)} (h : RL s L) (p : L.Perm M) : RL s M where
  ok := h.ok
  tot := by rw [h.tot, p.length_eq]
  nd := (p.map (·.1)).nodup_iff.1 h.nd
  bd := fun e he => h.bd e (p.mem_iff.2 he)
  has := fun e he => h.has e (p.mem_iff.2 he)
  no := fun q hq => h.no q (fun e he => hq e (p.mem_iff.1 he))

theorem set_perm (L : List (Nat × Nat)) (k : Nat) (x : Nat × Nat) (hk : k < L.length) : (L.take k ++ L.drop (k + 1) ++ [x]).Perm (L.set k x) := by
  rw [List.set_eq_take_append_cons_drop, if_pos hk, List.append_assoc]
  refine List.Perm.append_left _ ?_
  exact List.perm_append_singleton x _

/-- what one act does to both -/
structure Pair (s : QS) (L : List (Nat × Nat)) (s' : QS) (L' : List (Nat × Nat)) : Prop where
  rl : RL s' L'
  pages : s'.pages = s.pages
  t1 : s.tot - 1 ≤ s'.tot
  t2 : s'.tot ≤ s.tot + 1

theorem Pair.same {s : QS} {L : List (Nat × Nat)} (h : RL s L) : Pair s L s L := ⟨h, rfl, by omega, by omega⟩

theorem RL.len {s : QS} {L : List (Nat × Nat)} (h : RL s L) : L.length ≤ 1000000 := by have := h.ok.t2; have := h.tot; omega

theorem pl_put {s : QS} {L : List (Nat × Nat)} (h : RL s L) (p f : Int) (ht : s.tot ≤ 900000) (ht1 : -900000 ≤ s.tot) (c d : Nat) : ∃ e s' L', Pair s L s' L' ∧ Tri1 Try.prog 22 #[.pointer (some ⟨c, 0, none⟩), .int .i64 p, .int .i64 f] (pmA c s) (.int .i64 e) (pmA c s') ∧
    Tri1 Try.prog 23 #[.pointer (some ⟨d, 0, none⟩), .int .i64 p, .int .i64 f] (lsA d s.pages L) (.int .i64 e) (lsA d s.pages L') := by
  have hn := h.ok.p2
  have hL := h.len
  by_cases hp : 0 ≤ p ∧ p < s.pages
  · obtain ⟨k, rfl⟩ := Int.eq_ofNat_of_zero_le hp.1
    by_cases hf : f < 0 ∨ 2147483647 < f
    · exact ⟨5, s, L, .same h, (pm_put_arg h.ok k f (by omega) hf).tri, (ls_put_arg hn k f hp hf).tri⟩
    · obtain ⟨g, rfl⟩ := Int.eq_ofNat_of_zero_le (show 0 ≤ f by omega)
      by_cases hz : s.fr k = 0
      · refine ⟨0, _, _, ⟨h.put k g (by omega) (by omega) hz ht, rfl, ?_, ?_⟩, pm_put_ok h.ok k g (by omega) hz (by omega) ht, ls_put_ok hn hL k g (by omega) (by omega) (h.ix_none k hz)⟩
        · show s.tot - 1 ≤ s.tot + 1; omega
        · show s.tot + 1 ≤ s.tot + 1; omega
      · obtain ⟨j, hj, _⟩ := h.ix_some k hz
        exact ⟨13, s, L, .same h, (pm_put_mapped h.ok k g (by omega) hz (by omega)).tri, (ls_put_mapped hn hL k g hp (by omega) (by omega) j hj).tri⟩
  · exact ⟨11, s, L, .same h, (pm_put_range h.ok p f hp).tri, (ls_put_range hn p f hp).tri⟩

theorem pl_drop {s : QS} {L : List (Nat × Nat)} (h : RL s L) (p : Int) (ht : s.tot ≤ 900000) (ht1 : -900000 ≤ s.tot) (c d : Nat) : ∃ v e s' L', Pair s L s' L' ∧ Tri1 Try.prog 24 #[.pointer (some ⟨c, 0, none⟩), .int .i64 p] (pmA c s) (.tuple #[.int .i64 v, .int .i64 e]) (pmA c s') ∧
    Tri1 Try.prog 25 #[.pointer (some ⟨d, 0, none⟩), .int .i64 p] (lsA d s.pages L) (.tuple #[.int .i64 v, .int .i64 e]) (lsA d s.pages L') := by
  have hn := h.ok.p2
  have hL := h.len
  by_cases hp : 0 ≤ p ∧ p < s.pages
  · obtain ⟨k, rfl⟩ := Int.eq_ofNat_of_zero_le hp.1
    by_cases hz : s.fr k = 0
    · exact ⟨0, 12, s, L, .same h, (pm_drop_none h.ok k (by omega) hz).tri, (ls_drop_bad hn hL k 12 (by rw [(h.frame k (by omega)).2, if_pos hz]) (by omega)).tri⟩
    · obtain ⟨j, hj, hjl, he, hf⟩ := h.ix_some k hz
      have T := ls_drop_ok (c := d) hn hL k (by omega) j hj hjl
      have P := pm_drop_ok (c := c) h.ok k (by omega) hz ht1
      rw [show ((s.fr k : Nat) : Int) - 1 = ((L.getD j (0, 0)).2 : Nat) by omega] at P
      refine ⟨_, 0, _, _, ⟨h.drop k j hjl he ht1, rfl, ?_, ?_⟩, P, T⟩
      · show s.tot - 1 ≤ s.tot + -1; omega
      · show s.tot + -1 ≤ s.tot + 1; omega
  · exact ⟨0, 11, s, L, .same h, (pm_drop_bad h.ok p hp).tri, (ls_drop_bad hn hL p 11 (by unfold lfE; rw [if_neg hp]) (by omega)).tri⟩

theorem pl_move {s : QS} {L : List (Nat × Nat)} (h : RL s L) (p q : Int) (ht : s.tot ≤ 900000) (ht1 : -900000 ≤ s.tot) (c d : Nat) : ∃ e s' L', Pair s L s' L' ∧ Tri1 Try.prog 26 #[.pointer (some ⟨c, 0, none⟩), .int .i64 p, .int .i64 q] (pmA c s) (.int .i64 e) (pmA c s') ∧
    Tri1 Try.prog 27 #[.pointer (some ⟨d, 0, none⟩), .int .i64 p, .int .i64 q] (lsA d s.pages L) (.int .i64 e) (lsA d s.pages L') := by
  have hn := h.ok.p2
  have hL := h.len
  by_cases hp : (0 ≤ p ∧ p < s.pages) ∧ (0 ≤ q ∧ q < s.pages)
  · obtain ⟨k, rfl⟩ := Int.eq_ofNat_of_zero_le hp.1.1
    obtain ⟨r, rfl⟩ := Int.eq_ofNat_of_zero_le hp.2.1
    by_cases hz : s.fr k = 0
    · exact ⟨12, s, L, .same h, (pm_move_un h.ok k r (by omega) (by omega) hz).tri, (ls_move_no hn hL k r hp.1 hp.2 12 (.inl ⟨h.ix_none k hz, rfl⟩)).tri⟩
    · obtain ⟨j, hj, hjl, he, hf⟩ := h.ix_some k hz
      by_cases hz2 : s.fr r = 0
      · have D := h.drop k j hjl he ht1
        have hr0 : (s.put k 0 (-1)).fr r = 0 := by
          show upd s.fr k 0 r = 0
          unfold upd
          by_cases e : r = k
          · rw [if_pos e]
          · rw [if_neg e]; exact hz2
        have M := (D.put r ((L.getD j (0, 0)).2) (by show r < s.pages; omega) (h.bd _ (getD_mem hjl)).2 hr0 (by show s.tot + -1 ≤ _; omega)).perm (set_perm L j _ hjl)
        rw [← hf] at M
        refine ⟨0, _, _, ⟨M, rfl, ?_, ?_⟩, pm_move_ok h.ok k r (by omega) (by omega) hz hz2 ht1 ht, ls_move_ok hn hL k r (by omega) (by omega) j hj hjl (h.ix_none r hz2)⟩
        · show s.tot - 1 ≤ s.tot + -1 + 1; omega
        · show s.tot + -1 + 1 ≤ s.tot + 1; omega
      · obtain ⟨i, hi, _⟩ := h.ix_some r hz2
        exact ⟨13, s, L, .same h, (pm_move_mapped h.ok k r (by omega) (by omega) hz hz2).tri, (ls_move_no hn hL k r hp.1 hp.2 13 (.inr ⟨j, i, hj, hi, rfl⟩)).tri⟩
  · exact ⟨11, s, L, .same h, (pm_move_range h.ok p q hp).tri, (ls_move_range hn p q hp).tri⟩

theorem pl_frame {s : QS} {L : List (Nat × Nat)} (h : RL s L) (p : Int) (c d : Nat) : ∃ v e, Ask Try.prog 28 #[.pointer (some ⟨c, 0, none⟩), .int .i64 p] (pmA c s) (.tuple #[.int .i64 v, .int .i64 e]) ∧
    Ask Try.prog 29 #[.pointer (some ⟨d, 0, none⟩), .int .i64 p] (lsA d s.pages L) (.tuple #[.int .i64 v, .int .i64 e]) := by
  have F := ls_frame (c := d) h.ok.p2 h.len p
  by_cases hp : 0 ≤ p ∧ p < s.pages
  · obtain ⟨k, rfl⟩ := Int.eq_ofNat_of_zero_le hp.1
    obtain ⟨f1, f2⟩ := h.frame k (by omega)
    rw [f1, f2] at F
    by_cases hz : s.fr k = 0
    · rw [if_pos hz, if_pos hz, hz] at F
      exact ⟨0, 12, pm_frame_none h.ok k (by omega) hz, F⟩
    · rw [if_neg hz, if_neg hz] at F
      exact ⟨_, 0, pm_frame_ok h.ok k (by omega) hz, F⟩
  · have e1 : lfV s.pages L p = 0 := by unfold lfV; rw [if_neg hp]
    have e2 : lfE s.pages L p = 11 := by unfold lfE; rw [if_neg hp]
    rw [e1, e2] at F
    exact ⟨0, 11, pm_frame_bad h.ok p (by omega), F⟩

theorem RL.mem {s : QS} {L : List (Nat × Nat)} (h : RL s L) (q : Nat) (hq : s.fr q ≠ 0) : ∃ j, j < L.length ∧ (L.getD j (0, 0)).1 = q := by
  obtain ⟨j, _, hj, e, _⟩ := h.ix_some q hq
  exact ⟨j, hj, e⟩

theorem RL.low {s : QS} {L : List (Nat × Nat)} (h : RL s L) (p : Int) : (∃ q : Nat, q < s.pages ∧ p ≤ q ∧ s.fr q ≠ 0 ∧ ∀ r : Nat, p ≤ r → r < q → s.fr r = 0) ∨ (∀ r : Nat, p ≤ r → r < s.pages → s.fr r = 0) := by
  have : ∀ n, n ≤ s.pages → (∃ q : Nat, q < n ∧ p ≤ q ∧ s.fr q ≠ 0 ∧ ∀ r : Nat, p ≤ r → r < q → s.fr r = 0) ∨ (∀ r : Nat, p ≤ r → r < n → s.fr r = 0) := by
    intro n
    induction n with
    | zero => intro _; exact .inr fun r _ h => absurd h (by omega)
    | succ n ih =>
      intro hn
      rcases ih (by omega) with ⟨q, h1, h2⟩ | h1
      · exact .inl ⟨q, by omega, h2⟩
      · by_cases hz : p ≤ n ∧ s.fr n ≠ 0
        · exact .inl ⟨n, by omega, hz.1, hz.2, h1⟩
        · refine .inr fun r hr hr2 => ?_
          by_cases e : r = n
          · subst e
            by_cases z : s.fr r = 0
            · exact z
            · exact absurd ⟨hr, z⟩ hz
          · exact h1 r hr (by omega)
  exact this s.pages (Nat.le_refl _)

theorem pl_next {s : QS} {L : List (Nat × Nat)} (h : RL s L) (p : Int) (hpb : p ≤ 9223372036854775807) (c d : Nat) : ∃ v b, Ask Try.prog 30 #[.pointer (some ⟨c, 0, none⟩), .int .i64 p] (pmA c s) (.tuple #[.int .i64 v, .bool b]) ∧
    Ask Try.prog 31 #[.pointer (some ⟨d, 0, none⟩), .int .i64 p] (lsA d s.pages L) (.tuple #[.int .i64 v, .bool b]) := by
  have fr1 : ∀ i, i < L.length → s.fr (L.getD i (0, 0)).1 ≠ 0 ∧ (L.getD i (0, 0)).1 < s.pages := fun i hi => by
    have := h.has _ (getD_mem hi)
    exact ⟨by omega, (h.bd _ (getD_mem hi)).1⟩
  rcases h.low p with ⟨q, hq, hpq, hz, hm⟩ | hm
  · refine ⟨q, true, pm_next h.ok p _ (fun q' hq' hp' hz' hm' => ?_) (fun hn => absurd (hn q hpq hq) hz) hpb, ls_next h.len p _ (fun j hj hp' hm' => ?_) (fun hn => ?_)⟩
    · have : q = q' := by
        rcases Nat.lt_trichotomy q q' with g | g | g
        · exact absurd (hm' q hpq g) hz
        · exact g
        · exact absurd (hm q' hp' g) hz'
      rw [this]
    · obtain ⟨i, hi, hi2⟩ := h.mem q hz
      have a := hm' i hi (by omega)
      have : (L.getD j (0, 0)).1 = q := by
        rcases Nat.lt_trichotomy (L.getD j (0, 0)).1 q with g | g | g
        · exact absurd (hm _ hp' g) (fr1 j hj).1
        · exact g
        · omega
      rw [this]
    · obtain ⟨i, hi, hi2⟩ := h.mem q hz
      exact absurd (show p ≤ ((L.getD i (0, 0)).1 : Int) by omega) (hn i hi)
  · refine ⟨0, false, pm_next h.ok p _ (fun q' hq' hp' hz' _ => absurd (hm q' hp' hq') hz') (fun _ => rfl) hpb, ls_next h.len p _ (fun j hj hp' _ => absurd (hm _ hp' (fr1 j hj).2) (fr1 j hj).1) (fun _ => rfl)⟩

end Go.Proofs.Ytpdnbkibnpkfbac.PT
