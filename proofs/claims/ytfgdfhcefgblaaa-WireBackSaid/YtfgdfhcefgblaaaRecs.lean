/- Arguments that are slices of structs of integers, as a walk is told of them. -/
import Derived.Test.YtfgdfhcefgblaaaArgs
namespace Go.Proofs.Ytfgdfhcefgblaaa
open Go.ChangeShapes Go.WideShapes Go.ChangeAt Go.RowKit Go.Deep

theorem mapM_get {α β : Type} {f : α → Option β} : ∀ {l : List α} {r : List β}, l.mapM f = some r → ∀ i, (h : i < r.length) → ∃ x, l[i]? = some x ∧ f x = some r[i]
  | [], r, h, i, hi => by simp at h; subst h; simp at hi
  | x :: l, r, h, i, hi => by
    simp only [List.mapM_cons, Option.bind_eq_bind, Option.bind_eq_some_iff, Option.pure_def, Option.some.injEq] at h
    obtain ⟨y, hy, ys, hys, rfl⟩ := h
    cases i with
    | zero => exact ⟨x, rfl, hy⟩
    | succ i =>
      obtain ⟨z, hz, hfz⟩ := mapM_get hys i (by simpa using hi)
      exact ⟨z, by simpa using hz, by simpa using hfz⟩

theorem cells?_get {w : World} {base : Nat} {a : Addr} {n : Nat} {cs : List Value} (h : w.cells? base a n = some cs) (f : Nat) (hf : f < cs.length) : w.cell? (a.add f) = some cs[f] := by
  unfold World.cells? at h
  split at h
  case isFalse => cases h
  obtain ⟨x, hx, hfx⟩ := mapM_get h f hf
  have hfn : f < n := by
    have := (List.getElem?_eq_some_iff.1 hx).1
    simpa using this
  have : x = f := by
    rw [List.getElem?_eq_getElem (by simpa using hfn)] at hx
    simpa using hx.symm
  subst this
  exact hfx

/-- a struct type whose fields are integers of these kinds, a cell each -/
def recB (P : Program) (e : TypeId) (ks : List IntKind) : Bool :=
  match P.underlying e with
  | some (.struct fs) => P.cellsOf e == ks.length && (List.range ks.length).all fun f =>
      match fs[f]?, ks[f]? with
      | some fld, some k => fld.offset == f && P.cellsOf fld.type == 1 && (match P.underlying fld.type with | some (.int k') => decide (k' = k) | _ => false)
      | _, _ => false
  | _ => false

/-- a slice of such structs that came in: field f of element j is F j f -/
structure RecRow (ks : List IntKind) (W : World) (a : Option Addr) (len cap : Nat) (F : Nat → Nat → Int) : Prop where
  lc : len ≤ cap
  cm : cap ≤ maxLen
  wf : ∀ j, j < len → ∀ f k, ks[f]? = some k → (Lit.int k (F j f)).wf = true
  at_ : ∀ j, j < len → ∃ q off, a = some ⟨q, off, none⟩ ∧ q < W.heap.size ∧ ∀ f k, ks[f]? = some k → W.cell? ⟨q, off + j * ks.length + f, none⟩ = some (.int k (F j f))

theorem rec_row_of {H : Type} {enc : TypeId × Value → H} {P : Program} {W : World} {b0 : Nat} {sp : Nat → Bool} {held : Bool} {t e : TypeId} {a : Option Addr} {len cap : Nat} {d : DataW H} {p : List MemPlace} (ks : List IntKind)
    (ht : P.underlying t = some (.slice e)) (hr : recB P e ks = true) (hk : 0 < ks.length) (h : DataW.Trod enc P W b0 sp held t (.slice a len cap) d p) : ∃ F, RecRow ks W a len cap F := by
  obtain ⟨fuel, hf⟩ := h
  unfold recB at hr
  split at hr
  case h_2 => cases hr
  case h_1 fs he =>
  simp only [Bool.and_eq_true, beq_iff_eq, List.all_eq_true, List.mem_range] at hr
  obtain ⟨hcells, hflds⟩ := hr
  rcases open_slice ht hf with ⟨hcs, _⟩ | ⟨x, l, c, m, n, D, Pl, hcs, _, hl, hm, hmm, _, hel⟩
  · simp [Value.cells] at hcs
    obtain ⟨rfl, rfl, rfl⟩ := hcs
    exact ⟨fun _ _ => 0, Nat.le_refl _, Nat.zero_le _, fun j hj => by omega, fun j hj => by omega⟩
  · simp [Value.cells] at hcs
    obtain ⟨rfl, rfl, rfl⟩ := hcs
    have hlm : len ≤ m := by rw [hmm]; split <;> omega
    rw [hcells] at hel
    have each : ∀ j f, j < len → ∀ k, ks[f]? = some k → ∃ z : Int, W.cell? (x.add (j * ks.length + f)) = some (.int k z) ∧ (Lit.int k z).wf = true := by
      intro j f hj k hkf
      have hfl : f < ks.length := (List.getElem?_eq_some_iff.1 hkf).1
      obtain ⟨cs', hcs', htr⟩ := hel j (by omega)
      obtain ⟨xs, n', _, _, hclen, hxl, hfield⟩ := DataW.trod_struct he htr
      have hF := hflds f hfl
      rw [hkf] at hF
      split at hF
      case h_2 => cases hF
      case h_1 fld k0 hfld hk0 =>
      cases hk0
      simp only [Bool.and_eq_true, beq_iff_eq] at hF
      obtain ⟨⟨hoff, hc1⟩, hu⟩ := hF
      split at hu
      case h_2 => cases hu
      case h_1 k' hu' =>
      have hkk : k' = k := by simpa using hu
      subst hkk
      have hy := hfield f fld hfld
      rw [hoff, hc1] at hy
      have hlt : f < cs'.length := by rw [hclen, hcells]; exact hfl
      have htake : (cs'.drop f).take 1 = [cs'[f]] := by
        rw [List.drop_eq_getElem_cons hlt]; rfl
      rw [htake] at hy
      have hsome : ∃ y, xs[f]? = some y := by
        have : f < xs.length := by
          rw [hxl]
          exact (Array.getElem?_eq_some_iff.1 hfld).1
        exact ⟨xs[f], List.getElem?_eq_getElem this⟩
      obtain ⟨y, hy'⟩ := hsome
      rw [hy'] at hy
      obtain ⟨z, ez, _, wz⟩ := DataW.trod_int hu' hy
      have ez' : cs'[f] = .int k' z := by simpa using ez
      refine ⟨z, ?_, wz⟩
      have hcell := cells?_get hcs' f hlt
      rw [← add_add]
      rw [hcell, ez']
    by_cases hlen : len = 0
    · subst hlen
      exact ⟨fun _ _ => 0, hl, hm, fun j hj => by omega, fun j hj => by omega⟩
    · obtain ⟨b, off, spot⟩ := x
      obtain ⟨k0, hk0⟩ : ∃ k0, ks[0]? = some k0 := ⟨ks[0], List.getElem?_eq_getElem hk⟩
      obtain ⟨z0, hz0, _⟩ := each 0 0 (by omega) k0 hk0
      have hspot : spot = none := by simpa [Addr.add] using World.cell?_spot hz0
      subst hspot
      have hb : b < W.heap.size := by
        have := World.block_lt_of_cell? W _ hz0
        simpa [Addr.add] using this
      refine ⟨fun j f => match W.cell? ⟨b, off + j * ks.length + f, none⟩ with | some (.int _ z) => z | _ => 0, hl, hm, ?_, ?_⟩
      · intro j hj f k hkf
        obtain ⟨z, hz, wz⟩ := each j f hj k hkf
        rw [add_plain, ← Nat.add_assoc] at hz
        simp only [hz]
        exact wz
      · intro j hj
        refine ⟨b, off, rfl, hb, fun f k hkf => ?_⟩
        obtain ⟨z, hz, wz⟩ := each j f hj k hkf
        rw [add_plain, ← Nat.add_assoc] at hz
        simp only [hz]


theorem open_rec_row {H : Type} {enc : TypeId × Value → H} {P : Program} {W : World} {base b0 : Nat} {sp : Nat → Bool} {held : Bool} {t e : TypeId} {v : Value} {d : DataW H} {p : List MemPlace} (ks : List IntKind)
    (ht : P.underlying t = some (.slice e)) (hr : recB P e ks = true) (hk : 0 < ks.length)
    (hv : Value.okWide P W .any base t v) (h : DataW.Trod enc P W b0 sp held t v d p) : ∃ a len cap F, v = .slice a len cap ∧ RecRow ks W a len cap F := by
  obtain ⟨a, len, cap, rfl⟩ := okWide_slice ht hv
  obtain ⟨F, hF⟩ := rec_row_of ks ht hr hk h
  exact ⟨a, len, cap, F, rfl, hF⟩

/-- a struct by value of such a slice and a small number -/
theorem open_rec_turn {H : Type} {enc : TypeId × Value → H} {P : Program} {W : World} {base b0 : Nat} {sp : Nat → Bool} {held : Bool} {t e : TypeId} {f0 f1 : Field} {q : IntKind} {v : Value} {d : DataW H} {p : List MemPlace} (ks : List IntKind)
    (hu : P.underlying t = some (.struct #[f0, f1])) (hC : P.cellsOf t = 2) (o0 : f0.offset = 0) (o1 : f1.offset = 1) (c0 : P.cellsOf f0.type = 1) (c1 : P.cellsOf f1.type = 1)
    (ht : P.underlying f0.type = some (.slice e)) (h1 : P.underlying f1.type = some (.int q)) (hr : recB P e ks = true) (hk : 0 < ks.length)
    (hv : Value.okWide P W .any base t v) (h : DataW.Trod enc P W b0 sp held t v d p) : ∃ a len cap F x, v = .agg #[.slice a len cap, .int q x] ∧ (Lit.int q x).wf = true ∧ RecRow ks W a len cap F := by
  simp only [Value.okWide, hu] at hv
  obtain ⟨cs, rfl, h2, _⟩ := hv
  obtain ⟨fuel, hf⟩ := h
  obtain ⟨y0, y1, n, _, hl, t0, t1⟩ := trod_struct2 hu hf
  rw [hC] at hl
  obtain ⟨cs⟩ := cs
  match cs, hl with
  | [x0, x1], _ =>
    rw [o0, c0] at t0
    rw [o1, c1] at t1
    simp only [Value.cells, List.drop, List.take] at t0 t1
    obtain ⟨z, ez, _, wz⟩ := DataW.trod_int h1 t1
    have ez : x1 = .int q z := by simpa using ez
    subst ez
    rcases open_slice ht t0 with ⟨hcs, _⟩ | ⟨x, l, c, m, n', D, Pl, hcs, _⟩
    · have e0 : x0 = .slice none 0 0 := by simpa using hcs
      subst e0
      obtain ⟨F, hF⟩ := rec_row_of ks ht hr hk (a := none) (len := 0) (cap := 0) ⟨n, t0⟩
      exact ⟨_, _, _, F, z, rfl, wz, hF⟩
    · have e0 : x0 = .slice (some x) l c := by simpa using hcs
      subst e0
      obtain ⟨F, hF⟩ := rec_row_of ks ht hr hk (a := some x) (len := l) (cap := c) ⟨n, t0⟩
      exact ⟨_, _, _, F, z, rfl, wz, hF⟩

end Go.Proofs.Ytfgdfhcefgblaaa
