/- Arguments that are slices of structs of a byte, a word and a text, as a walk is told of them. -/
import Derived.Test.YtfgdfhcefgblaaaRecs
namespace Go.Proofs.Ytfgdfhcefgblaaa
open Go.ChangeShapes Go.WideShapes Go.ChangeAt Go.RowKit Go.Deep

structure PartRow (W : World) (a : Option Addr) (len cap : Nat) (K N : Nat → Int) (S : Nat → ByteArray) : Prop where
  lc : len ≤ cap
  cm : cap ≤ maxLen
  wf : ∀ j, j < len → (Lit.int .u8 (K j)).wf = true ∧ (Lit.int .u64 (N j)).wf = true ∧ (S j).size ≤ maxLen
  at_ : ∀ j, j < len → ∃ q off, a = some ⟨q, off, none⟩ ∧ q < W.heap.size ∧ W.cell? ⟨q, off + j * 3, none⟩ = some (.int .u8 (K j)) ∧ W.cell? ⟨q, off + j * 3 + 1, none⟩ = some (.int .u64 (N j)) ∧ W.cell? ⟨q, off + j * 3 + 2, none⟩ = some (.string (S j))

theorem open_part_row {H : Type} {enc : TypeId × Value → H} {P : Program} {W : World} {base b0 : Nat} {sp : Nat → Bool} {held : Bool} {t e : TypeId} {v : Value} {d : DataW H} {p : List MemPlace} {fs : Array Field}
    (ht : P.underlying t = some (.slice e)) (he : P.underlying e = some (.struct fs)) (hcells : P.cellsOf e = 3)
    (h0 : ∃ fld, fs[0]? = some fld ∧ fld.offset = 0 ∧ P.cellsOf fld.type = 1 ∧ P.underlying fld.type = some (.int .u8))
    (h1 : ∃ fld, fs[1]? = some fld ∧ fld.offset = 1 ∧ P.cellsOf fld.type = 1 ∧ P.underlying fld.type = some (.int .u64))
    (h2 : ∃ fld, fs[2]? = some fld ∧ fld.offset = 2 ∧ P.cellsOf fld.type = 1 ∧ P.underlying fld.type = some .string)
    (hv : Value.okWide P W .any base t v) (h : DataW.Trod enc P W b0 sp held t v d p) : ∃ a len cap K N S, v = .slice a len cap ∧ PartRow W a len cap K N S := by
  obtain ⟨a, len, cap, rfl⟩ := okWide_slice ht hv
  obtain ⟨fuel, hf⟩ := h
  rcases open_slice ht hf with ⟨hcs, _⟩ | ⟨x, l, c, m, n, D, Pl, hcs, _, hl, hm, hmm, _, hel⟩
  · simp [Value.cells] at hcs
    obtain ⟨rfl, rfl, rfl⟩ := hcs
    exact ⟨_, _, _, fun _ => 0, fun _ => 0, fun _ => ⟨#[]⟩, rfl, Nat.le_refl _, Nat.zero_le _, fun j hj => by omega, fun j hj => by omega⟩
  · simp [Value.cells] at hcs
    obtain ⟨rfl, rfl, rfl⟩ := hcs
    have hlm : len ≤ m := by rw [hmm]; split <;> omega
    rw [hcells] at hel
    have each : ∀ j, j < len → ∃ k n s, W.cell? (x.add (j * 3 + 0)) = some (.int .u8 k) ∧ W.cell? (x.add (j * 3 + 1)) = some (.int .u64 n) ∧ W.cell? (x.add (j * 3 + 2)) = some (.string s) ∧ (Lit.int .u8 k).wf = true ∧ (Lit.int .u64 n).wf = true ∧ s.size ≤ maxLen := by
      intro j hj
      obtain ⟨cs', hcs', htr⟩ := hel j (by omega)
      obtain ⟨xs, n', _, _, hclen, hxl, hfield⟩ := DataW.trod_struct he htr
      rw [hcells] at hclen
      have one : ∀ f fld, fs[f]? = some fld → fld.offset = f → P.cellsOf fld.type = 1 → f < 3 → ∃ y cf, cs'[f]? = some cf ∧ DataW.trod enc P W b0 sp held n' fld.type [cf] = some y ∧ W.cell? (x.add (j * 3 + f)) = some cf := by
        intro f fld hfld ho hc1 hf3
        have hy := hfield f fld hfld
        rw [ho, hc1] at hy
        have hlt : f < cs'.length := by omega
        have htake : (cs'.drop f).take 1 = [cs'[f]] := by rw [List.drop_eq_getElem_cons hlt]; rfl
        rw [htake] at hy
        have hfl : f < xs.length := by rw [hxl]; exact (Array.getElem?_eq_some_iff.1 hfld).1
        rw [List.getElem?_eq_getElem hfl] at hy
        refine ⟨_, _, List.getElem?_eq_getElem hlt, hy, ?_⟩
        have hcell := cells?_get hcs' f hlt
        rw [← add_add]
        exact hcell
      obtain ⟨f0, a0, b0', c0, d0⟩ := h0
      obtain ⟨f1, a1, b1, c1, d1⟩ := h1
      obtain ⟨f2, a2, b2, c2, d2⟩ := h2
      obtain ⟨y0, v0, _, t0, w0⟩ := one 0 f0 a0 b0' c0 (by omega)
      obtain ⟨y1, v1, _, t1, w1⟩ := one 1 f1 a1 b1 c1 (by omega)
      obtain ⟨y2, v2, _, t2, w2⟩ := one 2 f2 a2 b2 c2 (by omega)
      obtain ⟨k, ek, _, wk⟩ := DataW.trod_int d0 t0
      obtain ⟨nn, en, _, wn⟩ := DataW.trod_int d1 t1
      obtain ⟨s, es, _, ws⟩ := DataW.trod_string d2 t2
      simp at ek en es
      subst ek en es
      exact ⟨k, nn, s, w0, w1, w2, wk, wn, ws⟩
    by_cases hlen : len = 0
    · subst hlen
      exact ⟨_, _, _, fun _ => 0, fun _ => 0, fun _ => ⟨#[]⟩, rfl, hl, hm, fun j hj => by omega, fun j hj => by omega⟩
    · obtain ⟨b, off, spot⟩ := x
      obtain ⟨_, _, _, hz0, _⟩ := each 0 (by omega)
      have hspot : spot = none := by simpa [Addr.add] using World.cell?_spot hz0
      subst hspot
      have hb : b < W.heap.size := by
        have := World.block_lt_of_cell? W _ hz0
        simpa [Addr.add] using this
      refine ⟨_, _, _, fun j => match W.cell? ⟨b, off + j * 3, none⟩ with | some (.int _ z) => z | _ => 0, fun j => match W.cell? ⟨b, off + j * 3 + 1, none⟩ with | some (.int _ z) => z | _ => 0, fun j => match W.cell? ⟨b, off + j * 3 + 2, none⟩ with | some (.string z) => z | _ => ⟨#[]⟩, rfl, hl, hm, ?_, ?_⟩
      · intro j hj
        obtain ⟨k, n, s, w0, w1, w2, wk, wn, ws⟩ := each j hj
        rw [add_plain, Nat.add_zero] at w0
        rw [add_plain, ← Nat.add_assoc] at w1 w2
        simp only [w0, w1, w2]
        exact ⟨wk, wn, ws⟩
      · intro j hj
        obtain ⟨k, n, s, w0, w1, w2, wk, wn, ws⟩ := each j hj
        rw [add_plain, Nat.add_zero] at w0
        rw [add_plain, ← Nat.add_assoc] at w1 w2
        refine ⟨b, off, rfl, hb, ?_⟩
        simp only [w0, w1, w2]
        exact ⟨trivial, trivial, trivial⟩

end Go.Proofs.Ytfgdfhcefgblaaa
