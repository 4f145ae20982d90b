/- A range over a function whose iterator draws orders: my law RfL, for such. -/
import Derived.Test.YtfgdfhcefgblaaaDoorRfL
namespace Go.Proofs.YtfgdfhcefgblaaaDoor
open Go.ChangeShapes Go.WideShapes Go.ChangeAt Go.RowKit

/-- The same as IterC, for an iterator that draws: what an iterator promises: whatever the rounds keep (J), in which state (s) they leave what it reads (Rd), it calls yield only with what is due (Ok), and where it ends all is done (Dn). -/
def IterD {α σ : Type} (F : Fence) (n : Nat) (P : Program) (g : Nat) (lb : Array Value) (encs : α → Array Value) (Rd : σ → World → Prop) (Ok : σ → List α → α → Prop) (Dn : σ → List α → Prop) : Prop :=
  ∀ (l : Nat) (J : σ → List α → World → Prop) (Jx : World → Prop) (s0 : σ) (W : World),
    (∀ s pre W, J s pre W → Rd s W) →
    (∀ s pre x W1, J s pre W1 → Ok s pre x → YieldAt F (n - 1) P l (encs x) W1 fun e W' => (e = .returned (.bool true) ∧ ∃ s', J s' (pre ++ [x]) W') ∨ (e = .returned (.bool false) ∧ Jx W')) →
    (∀ s pre W, J s pre W → J s pre W.drew) →
    J s0 [] W →
    CallsIn F n P g (#[.func (.yield l) #[] #[]] ++ lb) W fun e W' => (∃ v, e = .returned v) ∧ ((∃ s pre, J s pre W' ∧ Dn s pre) ∨ Jx W')

theorem wp_rangeD {α σ : Type} {F : Fence} {n : Nat} {P : Program} {g : Operand} {ps : Array Tmp} {assign body : Code} {Q : Exit → Act → World → Prop} {a : Act} {w : World}
    (hro : F.round = none) (h1 : 1 ≤ n) {gf : Nat} {lb : Array Value} (hg : a.eval g = .func (.func gf) #[] lb) (hFg : F.fn gf) (eg : ∀ args w, (callFunc gf args).run P w = .ok (.enter gf args) w)
    {encs : α → Array Value} {Rd : σ → World → Prop} {Ok : σ → List α → α → Prop} {Dn : σ → List α → Prop} (hit : IterD F (n - 1) P gf lb encs Rd Ok Dn) (hps : ∀ x, (encs x).size = ps.size)
    {w0 : World} {S0 : Nat → Prop} (I : σ → List α → Asn) (Ix : Code → Asn) (s0 : σ) (h0 : At (I s0 []) w0 S0 w) (hRd : ∀ s pre R W, At (I s pre * R) w0 S0 W → Rd s W) (a₁ : α → Act)
    (hassign : ∀ (l : Nat) (x : α) (W : World) (K : Act → World → Prop), K (a₁ x) W →
      assign.wpIn (F.inRound l) (n - 1 - 1) P (Exit.then K (fun _ _ _ => False)) { tmps := (ps.zip (encs x)).foldl (fun t (p, v) => t.setIfInBounds p v) a.tmps, defers := [] } W)
    (hbody : ∀ (l : Nat) (s : σ) (pre : List α) (x : α) (R : Asn) (W : World), At (I s pre * R) w0 S0 W → Ok s pre x → body.wpIn (F.inRound l) (n - 1 - 1) P (rfPost I Ix R w0 S0 (pre ++ [x])) (a₁ x) W)
    (hdone : ∀ (D : Nat) (s : σ) (pre : List α) (W : World), Dn s pre → At (I s pre * blk D (.deferred (some []))) w0 S0 W → Q .normal { a with defers := { target := .collected D, args := #[] } :: a.defers } W)
    (hstop : ∀ (D : Nat) (c : Code) (W : World), At (Ix c * blk D (.deferred (some []))) w0 S0 W → c.wpIn F n P Q { a with defers := { target := .collected D, args := #[] } :: a.defers } W) :
    (Code.rangeFunc g ps assign body).wpIn F n P Q a w := by
  refine wpIn_rangeFunc ?_
  intro fn hfn
  rw [hro]
  obtain ⟨L, hL⟩ : ∃ L : LoopState → Option Code → Loop, L = fun st pe => { state := st, pending := pe, fn, tmps := a.tmps, params := ps, assign, body, defers := w.heap.size } := ⟨_, rfl⟩
  have A1 := (h0.alloc (.deferred (some []))).alloc (.loop (L .ready none))
  rw [World.size_alloc] at A1
  have A1 : At (I s0 [] * (blk (w.heap.size + 1) (.loop (L .ready none)) * blk w.heap.size (.deferred (some [])))) w0 S0 _ := A1.re (by ac_rfl)
  refine ⟨w.heap.size + 1, [{ target := .collected w.heap.size, args := #[] }], (w.alloc (.deferred (some []))).alloc (.loop (L .ready none)), { target := .fn (.func gf) lb, args := #[.func (.yield (w.heap.size + 1)) #[] #[]] }, (w.alloc (.deferred (some []))).alloc (.loop (L .ready none)), gf,
    #[.func (.yield (w.heap.size + 1)) #[] #[]] ++ lb, (w.alloc (.deferred (some []))).alloc (.loop (L .ready none)), ?_, ?_, ?_, ?_, fun _ => h1, ?_⟩
  · rw [hL]; exact run_enterLoop_outer _ _ _ _ _
  · simp only [resolve, hg]
    simp [go_sem]
  · intro f' hf'
    simp [Target.leads] at hf'
    subst hf'
    exact hFg
  · simp [invoke, go_sem, eg]
  generalize w.heap.size + 1 = l at *
  generalize w.heap.size = D at *
  generalize (w.alloc (.deferred (some []))).alloc (.loop (L .ready none)) = W1 at *
  have rot : ∀ {A : Asn} {o : Obj} {W : World}, At (A * (blk l o * blk D (.deferred (some [])))) w0 S0 W → At (blk l o * (A * blk D (.deferred (some [])))) w0 S0 W := fun h => h.re (by ac_rfl)
  have rot' : ∀ {A : Asn} {o : Obj} {W : World}, At (blk l o * (A * blk D (.deferred (some [])))) w0 S0 W → At (A * (blk l o * blk D (.deferred (some [])))) w0 S0 W := fun h => h.re (by ac_rfl)
  have drop : ∀ {A : Asn} {o : Obj} {W : World}, At (blk l o * (A * blk D (.deferred (some [])))) w0 S0 W → At (A * blk D (.deferred (some []))) w0 S0 W := fun {A} {o} {W} h => At.dropr (C := blk l o) (h.re (by ac_rfl))
  have HL : ∀ st pe, (L st pe).params = ps ∧ (L st pe).fn = fn ∧ (L st pe).tmps = a.tmps ∧ (L st pe).assign = assign ∧ (L st pe).body = body ∧ (L st pe).state = st ∧ (L st pe).pending = pe := by subst hL; exact fun _ _ => ⟨rfl, rfl, rfl, rfl, rfl, rfl, rfl⟩
  have HB : ({ L .ready none with state := .busy } : Loop) = L .busy none := by subst hL; rfl
  have HE : ∀ j : Option Code, ({ L .busy none with state := if j.isNone then .ready else .done, pending := j } : Loop) = L (if j.isNone then .ready else .done) j := by subst hL; exact fun _ => rfl
  clear hL
  refine (hit l (fun s pre W => At (I s pre * (blk l (.loop (L .ready none)) * blk D (.deferred (some [])))) w0 S0 W) (fun W => ∃ c, At (Ix c * (blk l (.loop (L .done (some c))) * blk D (.deferred (some [])))) w0 S0 W) s0 W1 (fun s pre W h => hRd s pre _ W h) ?_ (fun s pre W h => At.drew h) A1).mono ?_
  · intro s pre x W hJ hok
    have hl := (rot hJ).blkIs
    have hy := run_yield (P := P) (args := encs x) hl (by rw [(HL _ _).1]; exact hps x)
    rw [(HL _ _).1, (HL _ _).2.1, (HL _ _).2.2.1, (HL _ _).2.2.2.1, (HL _ _).2.2.2.2.1] at hy
    refine ⟨fn, _, assign, body, hy, roundIn_of_wpIn hfn (hassign _ x W _ ⟨_, run_beginRound hl (HL _ _).2.2.2.2.2.1, ?_⟩)⟩
    rw [HB]
    have hB := rot' ((rot hJ).putObj (.loop (L .busy none)))
    refine wpIn_mono (hbody _ s pre x _ _ hB hok) ?_
    rintro e a3 W3 hp
    have fin : ∀ (A : Asn) (j : Option Code), At (A * (blk l (.loop (L .busy none)) * blk D (.deferred (some [])))) w0 S0 W3 →
        ∃ W4, (Instr.endRound l j).run P W3 = .ok (.bool j.isNone) W4 ∧ At (A * (blk l (.loop (L (if j.isNone then .ready else .done) j)) * blk D (.deferred (some [])))) w0 S0 W4 := by
      intro A j h3
      have := run_endRound (P := P) j (rot h3).blkIs
      rw [HE] at this
      exact ⟨_, this, rot' ((rot h3).putObj _)⟩
    cases e with
    | normal =>
      obtain ⟨s', h3⟩ := hp
      obtain ⟨W4, hr, h4⟩ := fin _ none h3
      exact ⟨_, _, hr, .inl ⟨rfl, s', h4⟩⟩
    | ret =>
      obtain ⟨W4, hr, h4⟩ := fin _ (some .ret) hp
      exact ⟨_, _, hr, .inr ⟨rfl, _, h4⟩⟩
    | exit id =>
      obtain ⟨W4, hr, h4⟩ := fin _ (some (.exit id)) hp
      exact ⟨_, _, hr, .inr ⟨rfl, _, h4⟩⟩
    | goto t =>
      obtain ⟨W4, hr, h4⟩ := fin _ (some (.goto t)) hp
      exact ⟨_, _, hr, .inr ⟨rfl, _, h4⟩⟩
    | panic ch => exact hp.elim
    | outgrown => exact hp.elim
  · rintro e W2 ⟨⟨v, rfl⟩, (⟨s, pre, hJ, hD⟩ | ⟨c, hJ⟩)⟩
    · have := run_endLoop (P := P) (rot hJ).blkIs (by rw [(HL _ _).2.2.2.2.2.1]; simp)
      rw [(HL _ _).2.2.2.2.2.2] at this
      exact ⟨none, _, this, hdone D s pre _ hD (drop ((rot hJ).putObj _))⟩
    · have := run_endLoop (P := P) (rot hJ).blkIs (by rw [(HL _ _).2.2.2.2.2.1]; simp)
      rw [(HL _ _).2.2.2.2.2.2] at this
      exact ⟨some c, _, this, hstop D c _ (drop ((rot hJ).putObj _))⟩

/-- the same, where the activation behind the assignment is to be found -/
theorem wp_rangeDE {α σ : Type} {F : Fence} {n : Nat} {P : Program} {g : Operand} {ps : Array Tmp} {assign body : Code} {Q : Exit → Act → World → Prop} {a : Act} {w : World}
    (hro : F.round = none) (h1 : 1 ≤ n) {gf : Nat} {lb : Array Value} (hg : a.eval g = .func (.func gf) #[] lb) (hFg : F.fn gf) (eg : ∀ args w, (callFunc gf args).run P w = .ok (.enter gf args) w)
    {encs : α → Array Value} {Rd : σ → World → Prop} {Ok : σ → List α → α → Prop} {Dn : σ → List α → Prop} (hit : IterD F (n - 1) P gf lb encs Rd Ok Dn) (hps : ∀ x, (encs x).size = ps.size)
    {w0 : World} {S0 : Nat → Prop} (I : σ → List α → Asn) (Ix : Code → Asn) (s0 : σ) (h0 : At (I s0 []) w0 S0 w) (hRd : ∀ s pre R W, At (I s pre * R) w0 S0 W → Rd s W)
    (hab : ∃ a₁ : α → Act, (∀ (l : Nat) (x : α) (W : World) (K : Act → World → Prop), K (a₁ x) W →
      assign.wpIn (F.inRound l) (n - 1 - 1) P (Exit.then K (fun _ _ _ => False)) { tmps := (ps.zip (encs x)).foldl (fun t (p, v) => t.setIfInBounds p v) a.tmps, defers := [] } W) ∧
      (∀ (l : Nat) (s : σ) (pre : List α) (x : α) (R : Asn) (W : World), At (I s pre * R) w0 S0 W → Ok s pre x → body.wpIn (F.inRound l) (n - 1 - 1) P (rfPost I Ix R w0 S0 (pre ++ [x])) (a₁ x) W))
    (hdone : ∀ (D : Nat) (s : σ) (pre : List α) (W : World), Dn s pre → At (I s pre * blk D (.deferred (some []))) w0 S0 W → Q .normal { a with defers := { target := .collected D, args := #[] } :: a.defers } W)
    (hstop : ∀ (D : Nat) (c : Code) (W : World), At (Ix c * blk D (.deferred (some []))) w0 S0 W → c.wpIn F n P Q { a with defers := { target := .collected D, args := #[] } :: a.defers } W) :
    (Code.rangeFunc g ps assign body).wpIn F n P Q a w :=
  let ⟨_, ha, hb⟩ := hab
  wp_rangeD hro h1 hg hFg eg hit hps I Ix s0 h0 hRd _ ha hb hdone hstop

end Go.Proofs.YtfgdfhcefgblaaaDoor
