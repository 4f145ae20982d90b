/- The law HeaderBack: the walk's parts. -/
import Derived.Test.YtpdnbkibnpkfbabHdrM
namespace Go.Proofs.Ytpdnbkibnpkfbab
open Go.ChangeShapes Go.WideShapes Go.ChangeAt Go.RowKit

theorem hw64_parts (p f w : Int) (hp : 0 ≤ p) (hf : 0 ≤ f) (hw : 0 ≤ w) (h : p + f + w ≤ 255) : hw64 p f w % 256 = p ∧ hw64 p f w / 256 % 256 = f ∧ hw64 p f w / 65536 % 256 = w := by
  have e : ∃ m, hw64 p f w = p + 256 * (f + 256 * (w + 256 * m)) := ⟨165 + 256 * (4294967295 - (p + 256 * f + 65536 * w + 2768240640)), by unfold hw64; omega⟩
  obtain ⟨m, e⟩ := e
  have q1 : hw64 p f w % 256 = p := by omega
  have q2 : hw64 p f w / 256 = f + 256 * (w + 256 * m) := by omega
  have q3 : hw64 p f w / 65536 = w + 256 * m := by omega
  refine ⟨q1, ?_, ?_⟩
  · rw [q2]; omega
  · rw [q3]; omega

theorem take_of (p f w : Int) (hp : 0 ≤ p) (hf : 0 ≤ f) (hw : 0 ≤ w) (h : p + f + w ≤ 255) (W : World) :
    Calls Try.prog 22 #[.int .u64 (hw64 p f w)] W fun e W' => e = .returned (.tuple #[hdr p f w, .int .i64 0]) ∧ Below W.heap.size W W' := by
  obtain ⟨e1, e2, e3⟩ := hw64_parts p f w hp hf hw h
  have b := hw64_wf p f w hp hf hw h
  have t := take_valid (hw64 p f w) b.1 b.2 (by rw [e1, e2, e3]; exact h) (by rw [e1, e2, e3]) W
  rw [e1, e2, e3] at t
  exact t

theorem hdr_neq (a b c : Int) (W : World) : (_root_.Go.binOp .neq 41 (.agg #[.int .i64 a, .int .i64 b, .int .i64 c]) (.agg #[.int .i64 a, .int .i64 b, .int .i64 c])).run Try.prog W = .ok (.bool false) W := by
  have f1 : Try.prog.underlying 41 = some (.struct (Try.prog.fieldsOf 41)) := by kernel_rfl
  have f2 : Try.prog.stoodInHeld 41 = false := by kernel_rfl
  rw [run_neq_struct, run_equalIn_agg W 9999 _ _ _ f1 f2]
  simp [go_sem]

theorem hdr_guardn (x y : Operand) (a b c : Int) (W : World) : (_root_.Go.eqGuard .neq 41 x y (.agg #[.int .i64 a, .int .i64 b, .int .i64 c]) (.agg #[.int .i64 a, .int .i64 b, .int .i64 c])).run Try.prog W = .ok () W :=
  run_eqGuard_agg W _ _ _ _ _ _ (by kernel_rfl)

theorem kind_seg {p f w : Int} (hp : 0 ≤ p) (hf : 0 ≤ f) (hw : 0 ≤ w) (kind i : Int) (h1 : 1 ≤ kind) (h3 : kind ≤ 3) (h0 : 0 ≤ i) (hi : i < countOf p f w kind) : kindOf p f w (firstOf p f kind + i) = kind := by
  have h : kind = 1 ∨ kind = 2 ∨ kind = 3 := by omega
  unfold kindOf
  rcases h with rfl | rfl | rfl
  · simp [countOf, firstOf] at hi ⊢
    rw [if_neg (by omega), if_pos (by omega)]
  · simp [countOf, firstOf] at hi ⊢
    rw [if_neg (by omega), if_neg (by omega), if_pos (by omega)]
  · simp [countOf, firstOf] at hi ⊢
    rw [if_neg (by omega), if_neg (by omega), if_neg (by omega)]

/-- one more than the fields of lesser kinds -/
def startOf (p f w kind : Int) : Int := 1 + (if kind ≤ 1 then 0 else if kind = 2 then p else if kind = 3 then p + f else p + f + w)

theorem startOf_next (p f w kind : Int) (h1 : 1 ≤ kind) (h3 : kind ≤ 3) : startOf p f w (kind + 1) = startOf p f w kind + countOf p f w kind := by
  have h : kind = 1 ∨ kind = 2 ∨ kind = 3 := by omega
  rcases h with rfl | rfl | rfl <;> simp [startOf, countOf] <;> omega

theorem startOf_bd {p f w : Int} (kind : Int) (hp : 0 ≤ p) (hf : 0 ≤ f) (hw : 0 ≤ w) (h : p + f + w ≤ 255) : 1 ≤ startOf p f w kind ∧ startOf p f w kind ≤ 256 := by
  unfold startOf; split
  · omega
  · split
    · omega
    · split <;> omega

theorem countOf_bd {p f w : Int} (kind : Int) (hp : 0 ≤ p) (hf : 0 ≤ f) (hw : 0 ≤ w) (h : p + f + w ≤ 255) : 0 ≤ countOf p f w kind ∧ countOf p f w kind ≤ 255 := by
  unfold countOf; split
  · omega
  · split
    · omega
    · split <;> omega

end Go.Proofs.Ytpdnbkibnpkfbab
