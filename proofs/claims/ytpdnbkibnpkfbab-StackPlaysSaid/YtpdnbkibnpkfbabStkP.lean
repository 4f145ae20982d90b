/- The law StackPlays: the stack and the document's beside each other. -/
import Derived.Test.YtpdnbkibnpkfbabStkD
import Derived.Test.YtpdnbkibnpkfbabRecs
namespace Go.Proofs.Ytpdnbkibnpkfbab
open Go.ChangeShapes Go.WideShapes Go.ChangeAt Go.RowKit

/-- what any call on one of the two leaves -/
def OpPost (ty : TypeId) (w : World) (b : Nat) (g : Option Nat) (xs : List Int) (room high : Int) (lost : Bool) (v : Value) (e : Ending) (w' : World) : Prop :=
  e = .returned v ∧ ∃ g', Stk ty w' b g' xs room high lost ∧ (∀ k, g' = some k → g = some k ∨ w.heap.size ≤ k) ∧ Fr (fun k => k = b ∨ g = some k) w w'

theorem PushPost.op {ty : TypeId} {w w' : World} {b : Nat} {g : Option Nat} {xs : List Int} {room high a : Int} {lost : Bool} {e : Ending} (h : PushPost ty w b g xs room high a lost e w') : OpPost ty w b g (xs ++ [a]) room (mx high (xs.length + 1)) lost (.bool true) e w' := by
  obtain ⟨he, g', hs, hw, hf⟩ := h
  exact ⟨he, _, hs, fun k hk => by cases hk; exact hw, hf⟩

theorem StkPost.op {ty : TypeId} {w w' : World} {b : Nat} {g : Option Nat} {xs : List Int} {room high : Int} {lost : Bool} {v : Value} {e : Ending} (h : StkPost ty w b g xs room high lost v e w') : OpPost ty w b g xs room high lost v e w' := by
  obtain ⟨he, hs, hf⟩ := h
  exact ⟨he, _, hs, fun k hk => .inl hk, hf.mono (fun q hq => .inl hq)⟩

theorem PopPost.op {ty : TypeId} {w w' : World} {b : Nat} {g : Option Nat} {ys : List Int} {room high a : Int} {lost : Bool} {e : Ending} (h : PopPost ty w b g ys room high a lost e w') : OpPost ty w b g ys room high lost (.tuple #[.int .i64 a, .bool true]) e w' := by
  obtain ⟨he, g', hs, hw, hf⟩ := h
  exact ⟨he, _, hs, hw, hf.mono (fun q hq => .inl hq)⟩

/-- one of the two, and a block that neither writes -/
structure PR (W wr : World) (bs br bx : Nat) (o : Option Obj) (xs ys : List Int) (room hs hr : Int) (ls lr : Bool) : Prop where
  ex : ∃ gs gr, Stk 58 wr bs gs xs room hs ls ∧ Stk 32 wr br gr ys room hr lr ∧ bs ≠ br ∧ gs ≠ some br ∧ gr ≠ some bs ∧ (∀ k, gs = some k → gr ≠ some k) ∧
    (∀ ob, o = some ob → wr.heap[bx]? = some ob ∧ bx ≠ bs ∧ bx ≠ br ∧ gs ≠ some bx ∧ gr ≠ some bx) ∧
    (W.heap.size ≤ bs ∧ W.heap.size ≤ br ∧ (∀ k, gs = some k → W.heap.size ≤ k) ∧ (∀ k, gr = some k → W.heap.size ≤ k)) ∧ Fr (fun _ => False) W wr

theorem Stk.fr {ty : TypeId} {w w' : World} {b : Nat} {g : Option Nat} {xs : List Int} {room high : Int} {lost : Bool} {S : Nat → Prop} (h : Stk ty w b g xs room high lost) (hf : Fr S w w') (hb : ¬ S b) (hg : ∀ k, g = some k → ¬ S k) : Stk ty w' b g xs room high lost := by
  obtain ⟨v, hb', hown, hv, hgb⟩ := h
  exact ⟨v, (hf.block b (lt_of_block hb') hb).trans hb', hf.owns hown (fun k hk => hg k (by rw [← hv]; exact hk)), hv, hgb⟩

theorem Stk.glt {ty : TypeId} {w : World} {b : Nat} {g : Option Nat} {xs : List Int} {room high : Int} {lost : Bool} (h : Stk ty w b g xs room high lost) : b < w.heap.size ∧ ∀ k, g = some k → k < w.heap.size := by
  obtain ⟨v, hb', hown, hv, hgb⟩ := h
  exact ⟨lt_of_block hb', fun k hk => (hown.lt k (by rw [hv]; exact hk)).2⟩

theorem PR.s {W wr : World} {bs br bx : Nat} {o : Option Obj} {xs ys xs' : List Int} {room hs hr hs' : Int} {ls lr ls' : Bool} {f : FuncId} {args : Array Value} {v : Value} (h : PR W wr bs br bx o xs ys room hs hr ls lr)
    (c : ∀ gs, Stk 58 wr bs gs xs room hs ls → Calls Try.prog f args wr (OpPost 58 wr bs gs xs' room hs' ls' v)) : Calls Try.prog f args wr fun e w' => e = .returned v ∧ PR W w' bs br bx o xs' ys room hs' hr ls' lr := by
  obtain ⟨gs, gr, h1, h2, n1, n2, n3, n4, X, ⟨z1, z2, z3, z4⟩, hf⟩ := h.ex
  refine (c gs h1).mono ?_
  rintro e w' ⟨rfl, g', hS, hw, hf'⟩
  have hsz := hf.size
  have b1 := h1.glt
  have b2 := h2.glt
  refine ⟨rfl, ⟨g', gr, hS, h2.fr hf' ?_ ?_, n1, ?_, n3, ?_, fun ob hob => ?_, ⟨z1, z2, ?_, z4⟩, hf.trans hf' ?_⟩⟩
  · rintro (h | h)
    · exact n1 h.symm
    · exact n2 h
  · rintro k hk (h | h)
    · exact n3 (by rw [hk, h])
    · exact n4 k h hk
  · intro h
    rcases hw _ h with h | h
    · exact n2 h
    · omega
  · intro k hk hk'
    rcases hw k hk with h | h
    · exact n4 k h hk'
    · have := b2.2 k hk'; omega
  · obtain ⟨x1, x2, x3, x4, x5⟩ := X ob hob
    have bx' := lt_of_block x1
    refine ⟨?_, x2, x3, ?_, x5⟩
    · rw [hf'.block bx bx' (by rintro (h | h); exact x2 h; exact x4 h)]; exact x1
    · intro h
      rcases hw _ h with h | h
      · exact x4 h
      · omega
  · intro k hk
    rcases hw k hk with h | h
    · exact z3 k h
    · omega
  · rintro q hq (h | h)
    · omega
    · have := z3 q h; omega

theorem PR.r {W wr : World} {bs br bx : Nat} {o : Option Obj} {xs ys ys' : List Int} {room hs hr hr' : Int} {ls lr lr' : Bool} {f : FuncId} {args : Array Value} {v : Value} (h : PR W wr bs br bx o xs ys room hs hr ls lr)
    (c : ∀ gr, Stk 32 wr br gr ys room hr lr → Calls Try.prog f args wr (OpPost 32 wr br gr ys' room hr' lr' v)) : Calls Try.prog f args wr fun e w' => e = .returned v ∧ PR W w' bs br bx o xs ys' room hs hr' ls lr' := by
  obtain ⟨gs, gr, h1, h2, n1, n2, n3, n4, X, ⟨z1, z2, z3, z4⟩, hf⟩ := h.ex
  refine (c gr h2).mono ?_
  rintro e w' ⟨rfl, g', hS, hw, hf'⟩
  have hsz := hf.size
  have b1 := h1.glt
  have b2 := h2.glt
  refine ⟨rfl, ⟨gs, g', h1.fr hf' ?_ ?_, hS, n1, n2, ?_, ?_, fun ob hob => ?_, ⟨z1, z2, z3, ?_⟩, hf.trans hf' ?_⟩⟩
  · rintro (h | h)
    · exact n1 h
    · exact n3 h
  · rintro k hk (h | h)
    · exact n2 (by rw [hk, h])
    · exact n4 k hk h
  · intro h
    rcases hw _ h with h | h
    · exact n3 h
    · omega
  · intro k hk hk'
    rcases hw k hk' with h | h
    · exact n4 k hk h
    · have := b1.2 k hk; omega
  · obtain ⟨x1, x2, x3, x4, x5⟩ := X ob hob
    have bx' := lt_of_block x1
    refine ⟨?_, x2, x3, x4, ?_⟩
    · rw [hf'.block bx bx' (by rintro (h | h); exact x3 h; exact x5 h)]; exact x1
    · intro h
      rcases hw _ h with h | h
      · exact x5 h
      · omega
  · intro k hk
    rcases hw k hk with h | h
    · exact z4 k h
    · omega
  · rintro q hq (h | h)
    · omega
    · have := z4 q h; omega

theorem PR.alloc {W wr : World} {bs br bx : Nat} {xs ys : List Int} {room hs hr : Int} {ls lr : Bool} (h : PR W wr bs br bx none xs ys room hs hr ls lr) (ob : Obj) : PR W (wr.alloc ob) bs br wr.heap.size (some ob) xs ys room hs hr ls lr := by
  obtain ⟨gs, gr, h1, h2, n1, n2, n3, n4, X, Z, hf⟩ := h.ex
  have fa : Fr (fun _ => False) wr (wr.alloc ob) := (Fr.refl _ wr).alloc ob
  have b1 := h1.glt
  have b2 := h2.glt
  refine ⟨gs, gr, h1.fr fa (fun h => h) (fun _ _ h => h), h2.fr fa (fun h => h) (fun _ _ h => h), n1, n2, n3, n4, fun o' ho' => ?_, Z, hf.alloc ob⟩
  cases ho'
  refine ⟨heap_alloc_new _ _, by omega, by omega, fun h => ?_, fun h => ?_⟩
  · have := b1.2 _ h; omega
  · have := b2.2 _ h; omega

theorem PR.drop {W wr : World} {bs br bx : Nat} {o : Option Obj} {xs ys : List Int} {room hs hr : Int} {ls lr : Bool} (h : PR W wr bs br bx o xs ys room hs hr ls lr) (bx' : Nat) : PR W wr bs br bx' none xs ys room hs hr ls lr := by
  obtain ⟨gs, gr, h1, h2, n1, n2, n3, n4, X, Z, hf⟩ := h.ex
  exact ⟨gs, gr, h1, h2, n1, n2, n3, n4, (fun _ h => by cases h), Z, hf⟩

theorem PR.drewN {W wr : World} {bs br bx : Nat} {o : Option Obj} {xs ys : List Int} {room hs hr : Int} {ls lr : Bool} (h : PR W wr bs br bx o xs ys room hs hr ls lr) (n : Nat) : PR W (wr.drewN n) bs br bx o xs ys room hs hr ls lr := by
  obtain ⟨gs, gr, h1, h2, n1, n2, n3, n4, X, Z, hf⟩ := h.ex
  exact ⟨gs, gr, h1, h2, n1, n2, n3, n4, X, Z, hf.drewN n⟩

theorem PR.drew {W wr : World} {bs br bx : Nat} {o : Option Obj} {xs ys : List Int} {room hs hr : Int} {ls lr : Bool} (h : PR W wr bs br bx o xs ys room hs hr ls lr) : PR W wr.drew bs br bx o xs ys room hs hr ls lr := h.drewN 1

theorem PR.box {W wr : World} {bs br bx : Nat} {x y : Value} {t : TypeId} {xs ys : List Int} {room hs hr : Int} {ls lr : Bool} (h : PR W wr bs br bx (some (.cells #[x, y] t)) xs ys room hs hr ls lr) : wr.cell? ⟨bx, 1, none⟩ = some y := by
  obtain ⟨gs, gr, h1, h2, n1, n2, n3, n4, X, Z, hf⟩ := h.ex
  obtain ⟨x1, _⟩ := X _ rfl
  simp [World.cell?, x1]

theorem PR.below {W wr : World} {bs br bx : Nat} {o : Option Obj} {xs ys : List Int} {room hs hr : Int} {ls lr : Bool} (h : PR W wr bs br bx o xs ys room hs hr ls lr) : Below W.heap.size W wr := by
  obtain ⟨gs, gr, h1, h2, n1, n2, n3, n4, X, Z, hf⟩ := h.ex
  exact hf.below (Nat.le_refl _) (fun _ _ h => h)

theorem PR.len {W wr : World} {bs br bx : Nat} {o : Option Obj} {xs ys : List Int} {room hs hr : Int} {ls lr : Bool} (h : PR W wr bs br bx o xs ys room hs hr ls lr) : Calls Try.prog 17 #[.pointer (some ⟨bs, 0, none⟩)] wr fun e w' => e = .returned (.int .i64 xs.length) ∧ w' = wr := by
  obtain ⟨gs, gr, h1, _⟩ := h.ex
  exact (len_any h1).mono fun _ _ ⟨a, b⟩ => ⟨a, b.symm⟩

theorem PR.high {W wr : World} {bs br bx : Nat} {o : Option Obj} {xs ys : List Int} {room hs hr : Int} {ls lr : Bool} (h : PR W wr bs br bx o xs ys room hs hr ls lr) : Calls Try.prog 18 #[.pointer (some ⟨bs, 0, none⟩)] wr fun e w' => e = .returned (.int .i64 hs) ∧ w' = wr := by
  obtain ⟨gs, gr, h1, _⟩ := h.ex
  exact (high_any h1).mono fun _ _ ⟨a, b⟩ => ⟨a, b.symm⟩

theorem PR.lost {W wr : World} {bs br bx : Nat} {o : Option Obj} {xs ys : List Int} {room hs hr : Int} {ls lr : Bool} (h : PR W wr bs br bx o xs ys room hs hr ls lr) : Calls Try.prog 19 #[.pointer (some ⟨bs, 0, none⟩)] wr fun e w' => e = .returned (.bool ls) ∧ w' = wr := by
  obtain ⟨gs, gr, h1, _⟩ := h.ex
  exact (lost_any h1).mono fun _ _ ⟨a, b⟩ => ⟨a, b.symm⟩

/-- the document's stack, as its cells read -/
theorem PR.cells {W wr : World} {bs br bx : Nat} {o : Option Obj} {xs ys : List Int} {room hs hr : Int} {ls lr : Bool} (h : PR W wr bs br bx o xs ys room hs hr ls lr) :
    ∃ a cap, wr.cell? ⟨br, 0, none⟩ = some (.slice a ys.length cap) ∧ wr.cell? ⟨br, 2, none⟩ = some (.int .i64 hr) ∧ wr.cell? ⟨br, 3, none⟩ = some (.bool lr) ∧ wr.frozen? ⟨br, 3, none⟩ = false := by
  obtain ⟨gs, gr, h1, ⟨v, hb, hown, _⟩, _⟩ := h.ex
  obtain ⟨a, cap, rfl⟩ := own_form hown
  obtain ⟨c0, c1, c2, c3, f0, f1, f2, f3⟩ := cells4 hb
  exact ⟨a, cap, c0, c2, c3, f3⟩

/-- a store of false into the document's last field -/
theorem PR.found {W wr : World} {bs br bx : Nat} {o : Option Obj} {xs ys : List Int} {room hs hr : Int} {ls lr : Bool} (h : PR W wr bs br bx o xs ys room hs hr ls lr) (l : Bool) : PR W (wr.setCell ⟨br, 3, none⟩ (.bool l)) bs br bx o xs ys room hs hr ls l := by
  obtain ⟨gs, gr, h1, h2, n1, n2, n3, n4, X, ⟨z1, z2, z3, z4⟩, hf⟩ := h.ex
  have fa : Fr (fun k => k = br) wr (wr.setCell ⟨br, 3, none⟩ (.bool l)) := (Fr.refl (fun k => k = br) wr).setCell (fun _ => rfl) _
  refine ⟨gs, gr, h1.fr fa n1 (fun k hk h => n2 (by rw [hk, h])), h2.lostSet l, n1, n2, n3, n4, fun ob hob => ?_, ⟨z1, z2, z3, z4⟩, hf.setCell (fun h => by exact absurd h (by have := z2; simp; omega)) _⟩
  obtain ⟨x1, x2, x3, x4, x5⟩ := X ob hob
  exact ⟨blk_other x1 _ x3, x2, x3, x4, x5⟩

end Go.Proofs.Ytpdnbkibnpkfbab
