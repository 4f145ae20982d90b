/- The law HeaderKinds: the walk. -/
import Derived.Test.YtpdnbkibnpkfbabHdrM
namespace Go.Proofs.Ytpdnbkibnpkfbab
open Go.ChangeShapes Go.WideShapes Go.ChangeAt Go.RowKit

set_option maxHeartbeats 2000000 in
theorem hkinds_any (p f w i kind : Int) (wp : (Lit.int .i64 p).wf = true) (wf : (Lit.int .i64 f).wf = true) (ww : (Lit.int .i64 w).wf = true) (W : World) :
    Calls Try.prog 7 #[hdr p f w, .int .i64 i, .int .i64 kind] W fun e W' => e = .returned (.bool true) ∧ Below W.heap.size W W' := by
  obtain ⟨p', f', w', h⟩ := Eff.exists p f w
  have hv : HW p f w := ⟨wf_i64 wp, wf_i64 wf, wf_i64 ww⟩
  clear wp wf ww
  go_enter Try.func7, Try.ntmps7
  go_wp2_with fail
  refine region_class (fun w' => w'.cell? ⟨W.heap.size, 0, none⟩ = some (.int .i64 p) ∧ w'.cell? ⟨W.heap.size, 1, none⟩ = some (.int .i64 f) ∧ w'.cell? ⟨W.heap.size, 2, none⟩ = some (.int .i64 w) ∧ W.heap.size < w'.heap.size ∧ Below W.heap.size W w') (by kernel_rfl) (by kernel_rfl) ⟨by simp, by simp, by simp, by simp, ((Below.refl _ _).alloc (Nat.le_refl _) _).drew⟩ ?_
  repeat (first | go_big_quiet_skip | (go_big_quiet_want; first | (go_big_quiet_op; go_big_quiet_on) | (apply quiet_upon; (focus (intro wx hx; obtain ⟨x0, x1, x2, xs, xb⟩ := hx; go_simp; first | rfl | (go_at_call 29; refine (kind_any h hv _ _).mono ?_; rintro e w1 ⟨rfl, hb⟩; exact ⟨rfl, keep3 hb ⟨x0, x1, x2, xs, xb⟩ xs (by omega)⟩) | (go_at_call 30; refine (rkind_any h _ _).mono ?_; rintro e w1 ⟨rfl, hb⟩; exact ⟨rfl, keep3 hb ⟨x0, x1, x2, xs, xb⟩ xs (by omega)⟩) | (go_at_call 31; refine (count_any h hv _ _).mono ?_; rintro e w1 ⟨rfl, hb⟩; exact ⟨rfl, keep3 hb ⟨x0, x1, x2, xs, xb⟩ xs (by omega)⟩) | (go_at_call 32; refine (rcount_any h _ _).mono ?_; rintro e w1 ⟨rfl, hb⟩; exact ⟨rfl, keep3 hb ⟨x0, x1, x2, xs, xb⟩ xs (by omega)⟩) | (go_at_call 33; refine (first_any h hv _ _).mono ?_; rintro e w1 ⟨rfl, hb⟩; exact ⟨rfl, keep3 hb ⟨x0, x1, x2, xs, xb⟩ xs (by omega)⟩) | (go_at_call 34; refine (rfirst_any h _ _).mono ?_; rintro e w1 ⟨rfl, hb⟩; exact ⟨rfl, keep3 hb ⟨x0, x1, x2, xs, xb⟩ xs (by omega)⟩) | (go_at_call 28; refine (hlives _).mono ?_; rintro e w1 ⟨rfl, hb⟩; exact ⟨rfl, keep3 hb ⟨x0, x1, x2, xs, xb⟩ xs (by omega)⟩))); (try simp only [Act.put, List.setIfInBounds_toArray, List.set_cons_zero, List.set_cons_succ]); go_big_quiet_on)))
  refine wpQuiet_nil ?_
  intro wz hz
  go_wp2
  go_ret
  exact ⟨rfl, hz.2.2.2.2⟩

end Go.Proofs.Ytpdnbkibnpkfbab
