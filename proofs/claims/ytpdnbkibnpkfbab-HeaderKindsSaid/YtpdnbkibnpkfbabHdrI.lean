/- The law HeaderPuts over its opened arguments. -/
import Derived.Test.YtpdnbkibnpkfbabHdrH
namespace Go.Proofs.Ytpdnbkibnpkfbab
open Go.ChangeShapes Go.WideShapes Go.ChangeAt Go.RowKit

theorem wf_i64 {n : Int} (h : (Lit.int .i64 n).wf = true) : -9223372036854775808 ≤ n ∧ n ≤ 9223372036854775807 := by
  simp [Lit.wf, IntKind.min, IntKind.max, IntKind.signed, IntKind.bits] at h
  omega

theorem wf_u64 {n : Int} (h : (Lit.int .u64 n).wf = true) : 0 ≤ n ∧ n < 18446744073709551616 := by
  simp [Lit.wf, IntKind.min, IntKind.max, IntKind.signed, IntKind.bits] at h
  omega

theorem puts_any (p f w x : Int) (wp : (Lit.int .i64 p).wf = true) (wf : (Lit.int .i64 f).wf = true) (ww : (Lit.int .i64 w).wf = true) (wx : (Lit.int .u64 x).wf = true) (W : World) :
    Calls Try.prog 6 #[hdr p f w, .int .u64 x] W fun e W' => e = .returned (.bool true) ∧ Below W.heap.size W W' := by
  have hx := wf_u64 wx
  by_cases h : Hok p f w
  · exact puts_ok p f w h.1 h.2.1 h.2.2.1 h.2.2.2 x hx.1 hx.2 W
  · exact puts_bad p f w h ⟨wf_i64 wp, wf_i64 wf, wf_i64 ww⟩ x hx.1 hx.2 W

end Go.Proofs.Ytpdnbkibnpkfbab
