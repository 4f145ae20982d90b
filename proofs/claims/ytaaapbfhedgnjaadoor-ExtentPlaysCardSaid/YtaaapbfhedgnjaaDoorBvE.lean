/- A vector of bits (layer 11): the count and the vector that a closure holds. -/
import Derived.Test.YtaaapbfhedgnjaaDoorBvD
namespace Go.Proofs.YtaaapbfhedgnjaaDoor.BV
open Go.ChangeShapes Go.WideShapes Go.ChangeAt Go.RowKit

/-- the vector, with the count and the pointer that a closure holds -/
def cA (nb vb p : Nat) (g : Nat) (v : Bits) : Asn := blk nb (.cells #[.int .i64 g] 3 (0, 0)) * (blk vb (.cells #[.pointer (some ⟨p, 0, none⟩)] 25 (0, 0)) * bvA p v)

section
variable {w0 w : World} {S : Nat → Prop} {nb vb p g : Nat} {v v' : Bits} {fn : FuncId} {args : Array Value} {r : Value}

theorem cell1 {w : World} {b : Nat} {x0 : Value} {t : TypeId} (h : w.heap[b]? = some (.cells #[x0] t (0, 0))) : w.cell? ⟨b, 0, none⟩ = some x0 ∧ w.frozen? ⟨b, 0, none⟩ = false := by
  simp [World.cell?, World.frozen?, h]

theorem cA_cells (h : At (cA nb vb p g v) w0 S w) : w.cell? ⟨nb, 0, none⟩ = some (.int .i64 g) ∧ w.frozen? ⟨nb, 0, none⟩ = false ∧ w.cell? ⟨vb, 0, none⟩ = some (.pointer (some ⟨p, 0, none⟩)) ∧ w.frozen? ⟨vb, 0, none⟩ = false :=
  have a := cell1 (At.blkIs h)
  have b := cell1 (At.blkIs (h.re (B := blk vb (.cells #[.pointer (some ⟨p, 0, none⟩)] 25 (0, 0)) * (blk nb (.cells #[.int .i64 g] 3 (0, 0)) * bvA p v)) (by unfold cA; ac_rfl)))
  ⟨a.1, a.2, b.1, b.2⟩

theorem cA_bv (T : Tri1 Tryd.prog fn args (bvA p v) r (bvA p v')) (h : At (cA nb vb p g v) w0 S w) : Calls Tryd.prog fn args w fun e w' => e = .returned r ∧ At (cA nb vb p g v') w0 S w' :=
  (At.tri1 (C := blk nb (.cells #[.int .i64 g] 3 (0, 0)) * blk vb (.cells #[.pointer (some ⟨p, 0, none⟩)] 25 (0, 0))) (h.re (by unfold cA; ac_rfl)) T).mono fun _ _ ⟨a, b⟩ => ⟨a, b.re (by unfold cA; ac_rfl)⟩

theorem cA_open (h : At (cA nb vb p g v) w0 S w) : ∃ bw bu, BvR w p v bw bu ∧ ¬ bw.b = nb ∧ ¬ p = nb ∧ ¬ vb = nb := by
  obtain ⟨⟨bw, bu⟩, h1⟩ := (h.re (B := exa (fun x : Loc × Loc => bvX p v x.1 x.2) * (blk nb (.cells #[.int .i64 g] 3 (0, 0)) * blk vb (.cells #[.pointer (some ⟨p, 0, none⟩)] 25 (0, 0)))) (by unfold cA bvA; ac_rfl)).opens
  have h2 : At (bvX p v bw bu * (blk nb (.cells #[.int .i64 g] 3 (0, 0)) * blk vb (.cells #[.pointer (some ⟨p, 0, none⟩)] 25 (0, 0)))) w0 S w := h1
  refine ⟨bw, bu, bv_read h2.dropr, ?_, ?_, ?_⟩
  · exact At.ne (A := lrow bw 66 v.nw (fun i => .int .u64 (wd v.b i : Nat))) (B := blk nb (.cells #[.int .i64 g] 3 (0, 0)) * (blk p (.cells (bvC v bw bu) 84 (0, 0)) * (lrow bu 66 v.nu (fun i => .int .u64 (us v.b i : Nat)) * blk vb (.cells #[.pointer (some ⟨p, 0, none⟩)] 25 (0, 0))))) (h2.re (by unfold bvX; ac_rfl)) (has_lrow _ _ _ _) (has_l (has_blk _ _))
  · exact At.ne (A := blk p (.cells (bvC v bw bu) 84 (0, 0))) (B := blk nb (.cells #[.int .i64 g] 3 (0, 0)) * (lrow bw 66 v.nw (fun i => .int .u64 (wd v.b i : Nat)) * (lrow bu 66 v.nu (fun i => .int .u64 (us v.b i : Nat)) * blk vb (.cells #[.pointer (some ⟨p, 0, none⟩)] 25 (0, 0))))) (h2.re (by unfold bvX; ac_rfl)) (has_blk _ _) (has_l (has_blk _ _))
  · exact At.ne (A := blk vb (.cells #[.pointer (some ⟨p, 0, none⟩)] 25 (0, 0))) (B := blk nb (.cells #[.int .i64 g] 3 (0, 0)) * bvA p v) (h.re (by unfold cA; ac_rfl)) (has_blk _ _) (has_l (has_blk _ _))

theorem cA_set (h : At (cA nb vb p g v) w0 S w) (d : Nat) : At (cA nb vb p d v) w0 S (w.setCell ⟨nb, 0, none⟩ (.int .i64 (d : Nat))) := by
  have h1 := At.set_blk (A := blk vb (.cells #[.pointer (some ⟨p, 0, none⟩)] 25 (0, 0)) * bvA p v) h 0 (.int .i64 (d : Nat))
  exact h1
end

end Go.Proofs.YtaaapbfhedgnjaaDoor.BV
