/- A map of objects (layer 13): Word, walked. -/
import Derived.Test.YtaaapbfhedgnjaaDoorExW
namespace Go.Proofs.YtaaapbfhedgnjaaDoor.BV
open Go.ChangeShapes Go.WideShapes Go.ChangeAt Go.RowKit Go.Shelf

attribute [local go_sem] Oper.semAt_some

theorem wx_start {w0 w : World} {S : Nat → Prop} {c p q n : Nat} {sz : Nat → Nat} {cnt : Int} {C : Asn} (k : Int) (h : At (exX c p q n sz cnt * C) w0 S w) :
    At (wxA ⟨w.heap.size, w.heap.size + 1, w.heap.size + 1 + 1, w.heap.size + 1 + 1 + 1, c, p, q, n, sz, cnt⟩ k * C) w0 S
      ((((w.alloc (.cells #[.int .i64 k] 3)).alloc (.cells #[.int .i64 0] 3)).alloc (.cells #[.bool false] 4)).alloc (.cells #[.pointer (some ⟨c, 0, none⟩)] 48)) := by
  have h1 := (((h.alloc (.cells #[.int .i64 k] 3)).alloc (.cells #[.int .i64 0] 3)).alloc (.cells #[.bool false] 4)).alloc (.cells #[.pointer (some ⟨c, 0, none⟩)] 48)
  simp only [World.size_alloc] at h1
  exact h1.re (by unfold wxA; dsimp only; ac_rfl)

set_option maxRecDepth 100000 in
set_option maxHeartbeats 4000000 in
theorem word_in {F : Fence} (hW : Wd F) {w0 w : World} {S : Nat → Prop} {c p q n : Nat} {sz : Nat → Nat} {cnt : Int} {C : Asn} (ok : ExOk n sz) (HT : ∀ (A : Asn) (W : World), At A w0 S W → Tab W) (k0 : Nat) (hk0 : (k0 : Int) ≤ 9223372036854775807) (h : At (exX c p q n sz cnt * C) w0 S w) :
    CallsIn F 6 Tryd.prog 36 #[.pointer (some ⟨c, 0, none⟩), .int .i64 k0] w fun e w' => e = .returned (oV (wdF sz n (n + 1) 0 k0)) ∧ At (exX c p q n sz cnt * C) w0 S w' := by
  have hro := hW.ro
  have hf1 := hW.fn 42
  have A0 := wx_start (k0 : Int) h
  have n2 := ok.n2
  have hk : (0 : Int) ≤ (k0 : Int) := by omega
  obtain ⟨Z, hZ⟩ : ∃ Z, w.heap.size = Z := ⟨_, rfl⟩
  rw [hZ] at A0
  obtain ⟨r0, hr0⟩ : ∃ r0, wdF sz n (n + 1) 0 k0 = r0 := ⟨_, rfl⟩
  rw [hr0]
  have W0 : WdAt sz n r0 (stq []) k0 := ⟨n + 1, by rw [stq_nil]; omega, hr0⟩
  clear h
  refine callsIn_of_wp_marks Tryd.func36 rfl (hW.fn _) ?_ hro
  simp only [Tryd.ntmps36, List.size_toArray, List.length_cons, List.length_nil, Nat.reduceAdd, Nat.reduceSub, Array.replicate_succ, Array.replicate_zero, List.push_toArray, List.append_toArray, List.nil_append, List.cons_append]
  gi_wp2_with (gi_at_call 42; with_reducible refine (hW.cal (ex_all _ _)).mono ?_; rintro e1 w3 ⟨rfl, rfl⟩)
  obtain ⟨w1, hw1⟩ : ∃ w1, ((((w.alloc (.cells #[.int .i64 (k0 : Int)] 3)).alloc (.cells #[.int .i64 0] 3)).alloc (.cells #[.bool false] 4)).alloc (.cells #[.pointer (some ⟨c, 0, none⟩)] 48)) = w1 := ⟨_, rfl⟩
  rw [hw1] at A0 ⊢
  try rw [hZ]
  obtain ⟨x, hx⟩ : ∃ x : Wx, (⟨Z, Z + 1, Z + 1 + 1, Z + 1 + 1 + 1, c, p, q, n, sz, cnt⟩ : Wx) = x := ⟨_, rfl⟩
  rw [hx] at A0
  have XK : x.K = Z := by rw [← hx]
  have XP : x.P = Z + 1 := by rw [← hx]
  have XQ : x.Q = Z + 1 + 1 := by rw [← hx]
  have XB : x.B = Z + 1 + 1 + 1 := by rw [← hx]
  have Xc : x.c = c := by rw [← hx]
  have okx : ExOk x.n x.sz := by rw [← hx]; exact ok
  have W1 : WdAt x.sz x.n r0 (stq []) k0 := by rw [← hx]; exact W0
  have FIN : Hid (∀ w', At (exX x.c x.p x.q x.n x.sz x.cnt * C) w0 S w' → At (exX c p q n sz cnt * C) w0 S w') := Lib.hid (by rw [← hx]; exact fun _ h => h)
  have A5 := wxI_mk (x := x) (s := (x.sz, x.cnt)) (pre := []) k0 ⟨rfl, hk0, W1⟩ A0
  rw [← XB, ← XQ, ← XP, ← XK, ← Xc]
  clear hw1 hZ hx A0 XK XP XQ XB Xc W0 W1 hr0 ok
  refine wp_rangeE hro (by omega) (gf := 62) (lb := #[.pointer (some ⟨x.B, 0, none⟩)]) rfl (hW.fn _) (enters_of Tryd.func62 (by kernel_rfl) rfl) (all_iter hW 5 x.B x.c x.n okx.n2 (by omega)) (fun _ => rfl) (w0 := w0) (S0 := S) (fun s pre => wxI x r0 s pre * C) (wxX x r0 C) (x.sz, x.cnt) A5 ?rd ?ab ?done ?stop
  case rd =>
    intro s pre R W h
    obtain ⟨kk, ⟨rfl, _, _⟩, hA⟩ := wxI_of (h.re (Asn.star_assoc _ _ _))
    exact ⟨(wx_cells hA).2.2.2, HT _ _ h, okx, x.p, x.q, w0, S, _, hA.re (by unfold wxA; exact Asn.star_assoc _ _ _)⟩
  case ab =>
    apply Exists.intro
    refine ⟨?_, ?_⟩
    focus
      intro l i w K hK
      gi_wp2
      exact hK
    intro l s pre i R W hA hok
    obtain ⟨kk, ⟨rfl, hk1, hWd⟩, hB⟩ := wxI_of (hA.re (Asn.star_assoc _ _ _))
    obtain ⟨i1, i2⟩ := i
    obtain ⟨hn, hz⟩ := hok
    dsimp only at hn hz
    obtain ⟨g1, g2, g3, _⟩ := nxF_lt hn
    have hft := okx.s.fit i1 (fst_iff.1 g3)
    have hnx := okx.n2
    have hi1 : (i1 : Int) ≤ 1048576 := by omega
    have hi2 : (i2 : Int) ≤ 1048576 := by omega
    have hB := hB
    obtain ⟨⟨c1, c2⟩, ⟨c3, c4⟩, ⟨c5, c6⟩, _⟩ := wx_cells hB
    by_cases hlt : kk < i2
    · have hltI : (kk : Int) < (i2 : Int) := by omega
      have er : r0 = some (i1 + kk) := hWd.found hn (by rw [← hz]; exact hlt)
      obtain ⟨h5, d1, d2⟩ := wx_res hB (.int .i64 ((i1 : Int) + (kk : Int))) (.bool true)
      have RR : Hid (At (wxX x r0 C .ret * R) w0 S ((W.setCell ⟨x.P, 0, none⟩ (.int .i64 ((i1 : Int) + (kk : Int)))).setCell ⟨x.Q, 0, none⟩ (.bool true))) := Lib.hid (by
        have h6 := At.pure_in (p := r0 = some (i1 + kk)) er h5
        refine At.shuts (A := fun v : Nat => pur (r0 = some v) * (wxR x (.int .i64 v) (.bool true) * C)) (i1 + kk) (h6.re ?_)
        rw [show ((i1 + kk : Nat) : Int) = (i1 : Int) + (kk : Int) by omega]
        ac_rfl)
      clear hA hB hWd hn hz g1 g2 g3 er h5 hft A5
      gi_wp2
      exact RR.out
    · have hltI : ¬ (kk : Int) < (i2 : Int) := by omega
      have hW2 := hWd.on hn (by rw [← hz]; exact hlt)
      rw [← hz] at hW2
      have h5 := wx_setK hB ((kk : Int) - (i2 : Int))
      have RR : Hid (∃ s, At ((wxI x r0 s (pre ++ [(i1, i2)]) * C) * R) w0 S (W.setCell ⟨x.K, 0, none⟩ (.int .i64 ((kk : Int) - (i2 : Int))))) := Lib.hid ⟨(x.sz, x.cnt), (wxI_mk (kk - i2) ⟨rfl, by omega, by rw [stq_snoc]; exact hW2⟩ (h5.re (by rw [show ((kk - i2 : Nat) : Int) = (kk : Int) - (i2 : Int) by omega]))).re (Asn.star_assoc _ _ _).symm⟩
      clear hA hB hWd hn hz g1 g2 g3 h5 hW2 hft A5
      gi_wp2
      exact RR.out
  case stop =>
    intro D cd W hA
    cases cd
    case ret =>
      obtain ⟨v, hA⟩ := At.opens hA
      have h1 := hA.re (Asn.star_assoc _ _ _)
      have er := h1.purIs
      subst er
      have hM := Lib.hid (wx_end h1.pure_out)
      clear hA h1 A5
      gi_wp2
      obtain ⟨hK, hC, hC2, hE⟩ := hM.out
      refine ⟨by simp, .inl ⟨_, _, rfl, run_takeDeferred hK, ?_⟩⟩
      refine ⟨.tuple #[.int .i64 v, .bool true], ?_, rfl, FIN.out _ hE⟩
      simp [results, Tryd.f36, go_sem, hC, hC2]
    all_goals exact (At.purIs hA).elim
  case done =>
    intro D s pre W hd hA
    obtain ⟨kk, ⟨rfl, hk1, hWd⟩, hB⟩ := wxI_of (hA.re (Asn.star_assoc _ _ _))
    have er := hWd.none hd
    subst er
    obtain ⟨⟨c1, c2⟩, ⟨c3, c4⟩, ⟨c5, c6⟩, _⟩ := wx_cells hB
    obtain ⟨h5, d1, d2⟩ := wx_res hB (.int .i64 0) (.bool false)
    have hM := Lib.hid (wx_end (h5.re (Asn.star_assoc _ _ _).symm))
    clear hA hB hWd h5 A5 hd
    gi_wp2
    obtain ⟨hK, hC, hC2, hE⟩ := hM.out
    refine ⟨by simp, .inl ⟨_, _, rfl, run_takeDeferred hK, ?_⟩⟩
    refine ⟨.tuple #[.int .i64 0, .bool false], ?_, rfl, FIN.out _ hE⟩
    simp [results, Tryd.f36, go_sem, hC, hC2]

end Go.Proofs.YtaaapbfhedgnjaaDoor.BV
