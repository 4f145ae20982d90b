/- A map of objects beside a list of them (ullageref13): the numbers; what is asked of the list. -/
import Derived.Test.YtaaapbfhedgnjaaDoorExR
namespace Go.Proofs.YtaaapbfhedgnjaaDoor.BV
/-- the k-th object of a list -/
def eN (L : List (Nat × Nat)) (k : Nat) : Nat × Nat := L.getD k (0, 0)

theorem eN_mem {L : List (Nat × Nat)} {k : Nat} (hk : k < L.length) : eN L k ∈ L := by
  unfold eN; rw [List.getD_eq_getElem?_getD, List.getElem?_eq_getElem hk]; exact List.getElem_mem hk

theorem eN_of {L : List (Nat × Nat)} {e : Nat × Nat} (h : e ∈ L) : ∃ k, k < L.length ∧ eN L k = e := by
  obtain ⟨k, hk, rfl⟩ := List.mem_iff_getElem.1 h
  exact ⟨k, hk, by simp [eN, List.getD_eq_getElem?_getD, hk]⟩

theorem eN_get {L : List (Nat × Nat)} {k : Nat} (hk : k < L.length) : eN L k = L[k] := by
  simp [eN, List.getD_eq_getElem?_getD, hk]

/-- has the k-th object an address? -/
def hitB (L : List (Nat × Nat)) (a : Int) (k : Nat) : Bool := decide (((eN L k).1 : Int) ≤ a ∧ a - ((eN L k).1 : Int) < ((eN L k).2 : Int))
/-- does it start there or later? -/
def geB (L : List (Nat × Nat)) (a : Int) (k : Nat) : Bool := decide (a ≤ ((eN L k).1 : Int))

def iV (r : Option Nat) : Int := match r with | none => -1 | some k => (k : Int)

/-- the list says which objects there are -/
structure Rep (sz : Nat → Nat) (L : List (Nat × Nat)) : Prop where
  mem : ∀ e, e ∈ L → 0 < e.2 ∧ e.2 = sz e.1
  up : L.Pairwise fun a b => a.1 < b.1
  has : ∀ x, 0 < sz x → (x, sz x) ∈ L

theorem Rep.nil : Rep (fun _ => 0) [] := ⟨fun e h => absurd h (by simp), List.Pairwise.nil, fun x h => absurd h (by simp)⟩

section
variable {n : Nat} {sz : Nat → Nat} {L : List (Nat × Nat)}

theorem Rep.at_ (h : Rep sz L) {k : Nat} (hk : k < L.length) : 0 < sz (eN L k).1 ∧ eN L k = ((eN L k).1, sz (eN L k).1) := by
  have := h.mem _ (eN_mem hk)
  refine ⟨by omega, ?_⟩
  rw [← this.2]

theorem Rep.lt (h : Rep sz L) {i k : Nat} (hik : i < k) (hk : k < L.length) : (eN L i).1 < (eN L k).1 := by
  rw [eN_get hk, eN_get (show i < L.length by omega)]
  exact (List.pairwise_iff_getElem.1 h.up) i k (by omega) hk hik

theorem Rep.ix (h : Rep sz L) {x : Nat} (hx : 0 < sz x) : ∃ k, k < L.length ∧ eN L k = (x, sz x) := eN_of (h.has x hx)

theorem Rep.fd (h : Rep sz L) (ok : Snd n sz) (a : Int) :
    (∃ k s, nxF (hitB L a) 0 L.length = some k ∧ k < L.length ∧ eN L k = (s, sz s) ∧ 0 < sz s ∧ fdI n sz a = some s) ∨ (nxF (hitB L a) 0 L.length = none ∧ fdI n sz a = none) := by
  rcases nxF_is (p := hitB L a) L.length 0 with ⟨e, hn⟩ | ⟨k, e, _, h2, h3, _⟩
  · refine .inr ⟨e, ?_⟩
    unfold fdI
    by_cases hb : 0 ≤ a ∧ a < (n : Int)
    · rw [if_pos hb]
      cases ef : fdF sz a.toNat with
      | none => rfl
      | some s =>
        obtain ⟨h1, h2, h3⟩ := fdF_is ef
        obtain ⟨k, hk, ek⟩ := h.ix h1
        have := hn k (Nat.zero_le _) (by omega)
        unfold hitB at this
        rw [ek, decide_eq_false_iff_not] at this
        exact absurd ⟨by show (s : Int) ≤ a; omega, by show a - (s : Int) < (sz s : Int); omega⟩ this
    · rw [if_neg hb]
  · have hk : k < L.length := by omega
    obtain ⟨h5, h6⟩ := h.at_ hk
    unfold hitB at h3
    rw [decide_eq_true_iff] at h3
    have hs2 : (eN L k).2 = sz (eN L k).1 := (h.mem _ (eN_mem hk)).2
    have hf := ok.fit _ h5
    refine .inl ⟨k, (eN L k).1, e, hk, h6, h5, ?_⟩
    unfold fdI
    rw [hs2] at h3
    generalize (eN L k).1 = s at *
    rw [if_pos (by omega), fdF_some ok h5 (by omega) (by omega)]

theorem Rep.nx (h : Rep sz L) (ok : Snd n sz) (a : Int) :
    (∃ k s, nxF (geB L a) 0 L.length = some k ∧ k < L.length ∧ eN L k = (s, sz s) ∧ 0 < sz s ∧ nxI n sz a = some s) ∨ (nxF (geB L a) 0 L.length = none ∧ nxI n sz a = none) := by
  rcases nxF_is (p := geB L a) L.length 0 with ⟨e, hn⟩ | ⟨k, e, _, h2, h3, h4⟩
  · refine .inr ⟨e, nxF_none _ _ fun j h1 h2 => ?_⟩
    cases ef : fst' sz j with
    | false => rfl
    | true =>
      obtain ⟨k, hk, ek⟩ := h.ix (fst_iff.1 ef)
      have := hn k (Nat.zero_le _) (by omega)
      unfold geB at this
      rw [ek, decide_eq_false_iff_not] at this
      exact absurd (by show a ≤ (j : Int); omega) this
  · have hk : k < L.length := by omega
    obtain ⟨h5, h6⟩ := h.at_ hk
    unfold geB at h3
    rw [decide_eq_true_iff] at h3
    have hf := ok.fit _ h5
    refine .inl ⟨k, (eN L k).1, e, hk, h6, h5, nxF_some _ _ (by omega) (by omega) (fst_iff.2 h5) fun j h1 h2 => ?_⟩
    cases ef : fst' sz j with
    | false => rfl
    | true =>
      obtain ⟨i, hi, ei⟩ := h.ix (fst_iff.1 ef)
      have e1 : (eN L i).1 = j := by rw [ei]
      have hik : i < k := by
        rcases Nat.lt_trichotomy i k with g | g | g
        · exact g
        · subst g; omega
        · have := h.lt g hi; omega
      have := h4 i (Nat.zero_le _) hik
      unfold geB at this
      rw [e1, decide_eq_false_iff_not] at this
      exact absurd (by omega) this

theorem Rep.lv (h : Rep sz L) (ok : Snd n sz) (j : Nat) (hj : j < n) : (nxF (hitB L (j : Int)) 0 L.length).isSome = lv sz j := by
  have e : fdI n sz (j : Int) = fdF sz j := by unfold fdI; rw [if_pos (by omega), Int.toNat_natCast]
  unfold BV.lv
  rcases h.fd ok (j : Int) with ⟨k, s, e1, _, _, _, e2⟩ | ⟨e1, e2⟩
  · rw [e1, ← e, e2]; rfl
  · rw [e1, ← e, e2]

/-- the live words of a list in a run -/
def lvL (L : List (Nat × Nat)) (x y : Int) (j : Nat) : Bool := decide (x ≤ (j : Int) ∧ (j : Int) < y) && (nxF (hitB L (j : Int)) 0 L.length).isSome

theorem Rep.live (h : Rep sz L) (ok : Snd n sz) (x y : Int) : cp (lvL L x y) n = cp (lvR sz x y) n :=
  cp_congr n fun j hj => by unfold lvL lvR; rw [h.lv ok j hj]

/-- the word with so many ahead, by a list -/
def wdL : List (Nat × Nat) → Nat → Option Nat
  | [], _ => none
  | e :: r, k => if k < e.2 then some (e.1 + k) else wdL r (k - e.2)

def posL (L : List (Nat × Nat)) (j : Nat) : Nat := if j = 0 then 0 else (eN L (j - 1)).1 + (eN L (j - 1)).2

theorem drop_eN {L : List (Nat × Nat)} {j : Nat} (hj : j < L.length) : L.drop j = eN L j :: L.drop (j + 1) := by
  rw [eN_get hj]; exact List.drop_eq_getElem_cons hj

theorem Rep.next (h : Rep sz L) (ok : Snd n sz) {j : Nat} (hj : j ≤ L.length) : nxF (fst' sz) (posL L j) (n - posL L j) = if j < L.length then some (eN L j).1 else none := by
  have hpos : posL L j ≤ n ∧ (∀ i, i < L.length → j ≤ i → posL L j ≤ (eN L i).1) ∧ (∀ i, i < L.length → i < j → (eN L i).1 < posL L j) := by
    unfold posL
    by_cases h0 : j = 0
    · rw [if_pos h0]; exact ⟨Nat.zero_le _, fun _ _ _ => Nat.zero_le _, fun i _ hi => by omega⟩
    · rw [if_neg h0]
      have hj1 : j - 1 < L.length := by omega
      obtain ⟨h5, h6⟩ := h.at_ hj1
      have e2 : (eN L (j - 1)).2 = sz (eN L (j - 1)).1 := (h.mem _ (eN_mem hj1)).2
      have hf := ok.fit _ h5
      refine ⟨by omega, fun i hi hji => ?_, fun i hi hij => ?_⟩
      · have hlt := h.lt (show j - 1 < i by omega) hi
        obtain ⟨g5, _⟩ := h.at_ hi
        rcases Nat.lt_or_ge (eN L i).1 ((eN L (j - 1)).1 + sz (eN L (j - 1)).1) with g | g
        · have := ok.apart _ _ h5 hlt g; omega
        · omega
      · rcases Nat.lt_or_ge i (j - 1) with g | g
        · have := h.lt g hj1; omega
        · have : i = j - 1 := by omega
          rw [this]; omega
  obtain ⟨p1, p2, p3⟩ := hpos
  by_cases hlt : j < L.length
  · rw [if_pos hlt]
    obtain ⟨h5, h6⟩ := h.at_ hlt
    have hf := ok.fit _ h5
    refine nxF_some _ _ (p2 j hlt (Nat.le_refl _)) (by have := p2 j hlt (Nat.le_refl _); omega) (fst_iff.2 h5) fun k h1 h2 => ?_
    cases ef : fst' sz k with
    | false => rfl
    | true =>
      obtain ⟨i, hi, ei⟩ := h.ix (fst_iff.1 ef)
      have e1 : (eN L i).1 = k := by rw [ei]
      rcases Nat.lt_or_ge i j with g | g
      · have := p3 i hi g; omega
      · rcases Nat.lt_or_ge j i with g2 | g2
        · have := h.lt g2 hi; omega
        · have : i = j := by omega
          subst this; omega
  · rw [if_neg hlt]
    refine nxF_none _ _ fun k h1 h2 => ?_
    cases ef : fst' sz k with
    | false => rfl
    | true =>
      obtain ⟨i, hi, ei⟩ := h.ix (fst_iff.1 ef)
      have e1 : (eN L i).1 = k := by rw [ei]
      have := p3 i hi (by omega); omega

theorem Rep.word_at (h : Rep sz L) (ok : Snd n sz) : ∀ d j k (r0 : Option Nat), j + d = L.length → WdAt sz n r0 (posL L j) k → wdL (L.drop j) k = r0
  | 0, j, k, r0, hj, hw => by
    have hn := h.next ok (show j ≤ L.length by omega)
    rw [if_neg (by omega)] at hn
    rw [List.drop_eq_nil_of_le (by omega)]
    exact (hw.none hn).symm
  | d + 1, j, k, r0, hj, hw => by
    have hlt : j < L.length := by omega
    have hn := h.next ok (show j ≤ L.length by omega)
    rw [if_pos hlt] at hn
    rw [drop_eN hlt]
    have e2 : (eN L j).2 = sz (eN L j).1 := (h.mem _ (eN_mem hlt)).2
    unfold wdL
    by_cases hk : k < (eN L j).2
    · rw [if_pos hk]
      exact (hw.found hn (by omega)).symm
    · rw [if_neg hk]
      refine h.word_at ok d (j + 1) _ r0 (by omega) ?_
      have := hw.on hn (by omega)
      unfold posL
      rw [if_neg (by omega), Nat.add_sub_cancel, e2]
      exact this

theorem Rep.word (h : Rep sz L) (ok : Snd n sz) (k : Nat) : wdL L k = wdF sz n (n + 1) 0 k := by
  have := h.word_at ok L.length 0 k (wdF sz n (n + 1) 0 k) (by omega) ⟨n + 1, by show n < n + 1 + posL L 0; unfold posL; rw [if_pos rfl]; omega, by unfold posL; rw [if_pos rfl]⟩
  rw [List.drop_zero] at this; exact this

/-- whether a run has a live word -/
theorem live_any (ok : Snd n sz) {s z : Nat} (hz : 0 < z) (hs : s + z ≤ n) : liveB n sz s z = (nxF (BV.lv sz) s z).isSome := by
  rcases nxF_is (p := BV.lv sz) z s with ⟨e, hn⟩ | ⟨r, e, h1, h2, h3, _⟩
  · rw [e]
    have h0 : fdF sz s = none := by
      have := hn s (Nat.le_refl _) (by omega)
      unfold BV.lv at this
      cases ef : fdF sz s with
      | none => rfl
      | some x => rw [ef] at this; cases this
    have hc : cp (onR (fst' sz) n (s : Int) ((s : Int) + (z : Int))) n = 0 := cp_none _ _ fun j hj => by
      cases ho : onR (fst' sz) n (s : Int) ((s : Int) + (z : Int)) j with
      | false => rfl
      | true =>
        exfalso
        unfold onR at ho
        rw [Bool.and_eq_true] at ho
        obtain ⟨g1, g2, _⟩ := inR_iff.1 ho.1
        have := hn j (by omega) (by omega)
        have := lv_in ok (fst_iff.1 ho.2) (Nat.le_refl j) (by have := fst_iff.1 ho.2; omega)
        simp_all
    unfold liveB
    rw [h0, hc]; rfl
  · rw [e]
    unfold BV.lv at h3
    cases ef : fdF sz r with
    | none => rw [ef] at h3; cases h3
    | some x =>
      obtain ⟨q1, q2, q3⟩ := fdF_is ef
      unfold liveB
      by_cases hx : x ≤ s
      · rw [fdF_some ok q1 hx (by omega)]; rfl
      · have hf := ok.fit _ q1
        have : onR (fst' sz) n (s : Int) ((s : Int) + (z : Int)) x = true := by
          unfold onR
          rw [Bool.and_eq_true]
          exact ⟨inR_iff.2 ⟨by omega, by omega, by omega⟩, fst_iff.2 q1⟩
        have := cp_pos (n := n) (by omega) this
        rw [decide_eq_true this, Bool.or_true]; rfl

/-- where an object is put -/
def gtB (L : List (Nat × Nat)) (s k : Nat) : Bool := decide (s < (eN L k).1)
def insJ (L : List (Nat × Nat)) (s : Nat) : Nat := (nxF (gtB L s) 0 L.length).getD L.length
def insL (L : List (Nat × Nat)) (s z : Nat) : List (Nat × Nat) := L.take (insJ L s) ++ (s, z) :: L.drop (insJ L s)

theorem insJ_le (L : List (Nat × Nat)) (s : Nat) : insJ L s ≤ L.length := by
  unfold insJ
  rcases nxF_is (p := gtB L s) L.length 0 with ⟨e, _⟩ | ⟨r, e, _, h2, _, _⟩
  · rw [e]; exact Nat.le_refl _
  · rw [e]; show r ≤ _; omega

theorem insL_len (L : List (Nat × Nat)) (s z : Nat) : (insL L s z).length = L.length + 1 := by
  have := insJ_le L s
  unfold insL
  rw [List.length_append, List.length_cons, List.length_take, List.length_drop]; omega

theorem Rep.ins (h : Rep sz L) {s z : Nat} (hz : 0 < z) (h0 : sz s = 0) : Rep (putZ sz s z) (insL L s z) := by
  have hne : ∀ e, e ∈ L → e.1 ≠ s := fun e he g => by have := h.mem e he; rw [g, h0] at this; omega
  have hj := insJ_le L s
  have hlo : ∀ e, e ∈ L.take (insJ L s) → e.1 < s := fun e he => by
    obtain ⟨k, hk, rfl⟩ := List.mem_iff_getElem.1 he
    rw [List.length_take] at hk
    rw [List.getElem_take, ← eN_get (show k < L.length by omega)]
    have hn := hne _ (eN_mem (show k < L.length by omega))
    have : gtB L s k = false := by
      unfold insJ at hk
      rcases nxF_is (p := gtB L s) L.length 0 with ⟨e, h4⟩ | ⟨r, e, _, h2, _, h4⟩
      · exact h4 k (Nat.zero_le _) (by omega)
      · rw [e] at hk; exact h4 k (Nat.zero_le _) (by show k < r; change k < min r _ at hk; omega)
    unfold gtB at this
    rw [decide_eq_false_iff_not] at this
    omega
  have hhi : ∀ e, e ∈ L.drop (insJ L s) → s < e.1 := fun e he => by
    obtain ⟨k, hk, rfl⟩ := List.mem_iff_getElem.1 he
    rw [List.length_drop] at hk
    rw [List.getElem_drop, ← eN_get (show insJ L s + k < L.length by omega)]
    have hb : gtB L s (insJ L s) = true := by
      unfold insJ at hk ⊢
      rcases nxF_is (p := gtB L s) L.length 0 with ⟨e, h4⟩ | ⟨r, e, _, h2, h3, h4⟩
      · rw [e] at hk; change k < L.length - L.length at hk; omega
      · rw [e]; exact h3
    unfold gtB at hb
    rw [decide_eq_true_iff] at hb
    rcases Nat.eq_zero_or_pos k with g | g
    · subst g; exact hb
    · have := h.lt (show insJ L s < insJ L s + k by omega) (by omega); omega
  have hsplit : ∀ e, e ∈ insL L s z ↔ e = (s, z) ∨ e ∈ L := fun e => by
    unfold insL
    rw [List.mem_append, List.mem_cons]
    have : e ∈ L ↔ e ∈ L.take (insJ L s) ∨ e ∈ L.drop (insJ L s) := by rw [← List.mem_append, List.take_append_drop]
    rw [this]
    constructor
    · rintro (g | g | g)
      · exact .inr (.inl g)
      · exact .inl g
      · exact .inr (.inr g)
    · rintro (g | g | g)
      · exact .inr (.inl g)
      · exact .inl g
      · exact .inr (.inr g)
  have hup : L.take (insJ L s) ++ L.drop (insJ L s) = L := List.take_append_drop _ _
  have hp := h.up
  rw [← hup, List.pairwise_append] at hp
  refine ⟨fun e he => ?_, ?_, fun x hx => ?_⟩
  · rcases (hsplit e).1 he with rfl | g
    · exact ⟨hz, by unfold putZ; rw [if_pos rfl]⟩
    · have := h.mem e g
      exact ⟨this.1, by unfold putZ; rw [if_neg (hne e g)]; exact this.2⟩
  · unfold insL
    rw [List.pairwise_append, List.pairwise_cons]
    refine ⟨hp.1, ⟨fun b hb => hhi b hb, hp.2.1⟩, fun a ha b hb => ?_⟩
    rcases List.mem_cons.1 hb with rfl | hb
    · exact hlo a ha
    · exact hp.2.2 a ha b hb
  · unfold putZ at hx ⊢
    by_cases e : x = s
    · rw [if_pos e, hsplit]; exact .inl (by rw [e])
    · rw [if_neg e] at hx ⊢
      exact (hsplit _).2 (.inr (h.has x hx))

/-- an object is taken away -/
def delL (L : List (Nat × Nat)) (s : Int) : List (Nat × Nat) := L.filter fun e => decide ((e.1 : Int) ≠ s)

theorem Rep.del (h : Rep sz L) (s : Nat) : Rep (putZ sz s 0) (delL L s) := by
  refine ⟨fun e he => ?_, h.up.filter _, fun x hx => ?_⟩
  · have := List.mem_filter.1 he
    have hn : e.1 ≠ s := by have := this.2; rw [decide_eq_true_iff] at this; omega
    have hm := h.mem e this.1
    exact ⟨hm.1, by unfold putZ; rw [if_neg hn]; exact hm.2⟩
  · unfold putZ at hx ⊢
    by_cases e : x = s
    · rw [if_pos e] at hx; omega
    · rw [if_neg e] at hx ⊢
      exact List.mem_filter.2 ⟨h.has x hx, by rw [decide_eq_true_iff]; show (x : Int) ≠ s; omega⟩

theorem Rep.del_none (h : Rep sz L) (s : Int) (h0 : s < 0 ∨ sz s.toNat = 0) : delL L s = L := by
  unfold delL
  rw [List.filter_eq_self]
  intro e he
  rw [decide_eq_true_iff]
  intro g
  have := h.mem e he
  rcases h0 with h0 | h0
  · omega
  · rw [← g, Int.toNat_natCast] at h0; omega

theorem Rep.del_len (h : Rep sz L) (s : Nat) (h0 : 0 < sz s) : (delL L s).length + 1 = L.length := by
  have hc : L.countP (fun e => decide (e.1 = s)) = 1 := by
    have : ∀ M : List (Nat × Nat), M.Pairwise (fun a b => a.1 < b.1) → M.countP (fun e => decide (e.1 = s)) = if ∃ e ∈ M, e.1 = s then 1 else 0 := by
      intro M
      induction M with
      | nil => intro _; simp
      | cons e r ih =>
        intro hp
        rw [List.pairwise_cons] at hp
        rw [List.countP_cons, ih hp.2]
        by_cases h1 : e.1 = s
        · have h2 : ¬ ∃ x ∈ r, x.1 = s := by
            rintro ⟨x, hx, hx2⟩
            have := hp.1 x hx; omega
          rw [if_neg h2, if_pos (show ∃ x ∈ e :: r, x.1 = s from ⟨e, by simp, h1⟩), decide_eq_true h1]; rfl
        · by_cases h2 : ∃ x ∈ r, x.1 = s
          · have h3 : ∃ x ∈ e :: r, x.1 = s := by
              obtain ⟨x, hx, hx2⟩ := h2
              exact ⟨x, by simp [hx], hx2⟩
            rw [if_pos h2, if_pos h3, decide_eq_false h1]; rfl
          · have h3 : ¬ ∃ x ∈ e :: r, x.1 = s := by
              rintro ⟨x, hx, hx2⟩
              rcases List.mem_cons.1 hx with e1 | hx
              · rw [e1] at hx2; exact h1 hx2
              · exact h2 ⟨x, hx, hx2⟩
            rw [if_neg h2, if_neg h3, decide_eq_false h1]; rfl
    rw [this L h.up, if_pos ⟨_, h.has s h0, rfl⟩]
  have hl := List.length_eq_countP_add_countP (fun e : Nat × Nat => decide (e.1 = s)) (l := L)
  have e : (delL L s).length = L.countP (fun a => !decide (a.1 = s)) := by
    unfold delL
    rw [← List.countP_eq_length_filter]
    refine List.countP_congr fun e _ => ?_
    simp
    omega
  have e2 : L.countP (fun a => decide ¬decide (a.1 = s) = true) = L.countP (fun a => !decide (a.1 = s)) := List.countP_congr fun e _ => by simp
  rw [e]
  omega
end

open Go.ChangeShapes Go.WideShapes Go.ChangeAt Go.RowKit

def flat : List (Nat × Nat) → List Value
  | [] => []
  | e :: r => .int .i64 (e.1 : Nat) :: .int .i64 (e.2 : Nat) :: flat r

theorem flat_len : ∀ L : List (Nat × Nat), (flat L).length = L.length * 2
  | [] => rfl
  | e :: r => by show (flat r).length + 1 + 1 = (r.length + 1) * 2; rw [flat_len r]; omega

theorem flat_at : ∀ (L : List (Nat × Nat)) (k : Nat), k < L.length → (flat L)[2 * k]? = some (.int .i64 ((eN L k).1 : Nat)) ∧ (flat L)[2 * k + 1]? = some (.int .i64 ((eN L k).2 : Nat))
  | [], k, h => by simp at h
  | e :: r, 0, _ => ⟨rfl, rfl⟩
  | e :: r, k + 1, h => by
    have := flat_at r k (by simpa using h)
    exact ⟨this.1, this.2⟩

theorem flat_app (a b : List (Nat × Nat)) : flat (a ++ b) = flat a ++ flat b := by
  induction a with
  | nil => rfl
  | cons e r ih => show _ :: _ :: flat (r ++ b) = _ :: _ :: (flat r ++ flat b); rw [ih]

/-- v is a slice with the list -/
def oA (v : Value) (L : List (Nat × Nat)) : Asn := own 92 2 v L.length (flat L)

def OC (w : World) (a : Option Addr) (L : List (Nat × Nat)) : Prop := ∀ k, k < L.length → ∃ g, a = some ⟨g, 0, none⟩ ∧ w.cell? ⟨g, k * 2, none⟩ = some (.int .i64 ((eN L k).1 : Nat)) ∧ w.cell? ⟨g, k * 2 + 1, none⟩ = some (.int .i64 ((eN L k).2 : Nat))

theorem oc_of {w0 w : World} {S : Nat → Prop} {v : Value} {L : List (Nat × Nat)} {C : Asn} (h : At (oA v L * C) w0 S w) : ∃ a cap, v = .slice a L.length cap ∧ OC w a L := by
  have ho := At.ownIs h
  rcases ho.2 with ⟨rfl, h2⟩ | ⟨g, cap', cur, rfl, _⟩
  · rw [h2]
    exact ⟨none, 0, rfl, fun k hk => absurd hk (by rw [h2]; omega)⟩
  · refine ⟨some ⟨g, 0, none⟩, cap', rfl, fun k hk => ?_⟩
    have e1 := World.ownsRow.cellAt ho (2 * k) (by omega)
    have e2 := World.ownsRow.cellAt ho (2 * k + 1) (by omega)
    rw [(flat_at L k hk).1] at e1
    rw [(flat_at L k hk).2] at e2
    refine ⟨g, rfl, ?_, ?_⟩
    · rw [show k * 2 = 2 * k by omega]; exact e1
    · rw [show k * 2 + 1 = 2 * k + 1 by omega]; exact e2

theorem OC.drewN {w : World} {a : Option Addr} {L : List (Nat × Nat)} (h : OC w a L) (n : Nat) : OC (w.drewN n) a L := fun k hk => by
  obtain ⟨g, h1, h2, h3⟩ := h k hk
  exact ⟨g, h1, by simpa using h2, by simpa using h3⟩

/-- numbers of a list that are small -/
def Sm (L : List (Nat × Nat)) : Prop := L.length ≤ 1048576 ∧ ∀ k, k < L.length → (eN L k).1 ≤ 1048576 ∧ (eN L k).2 ≤ 1048576

section
variable {w : World} {a : Option Addr} {L : List (Nat × Nat)} {cap : Nat}

set_option maxRecDepth 100000 in
theorem r13_find (hS : Sm L) (x : Int) (hx : x ≤ 9223372036854775807) (hc : OC w a L) :
    Calls Tryd.prog 33 #[.slice a L.length cap, .int .i64 x] w fun e w' => e = .returned (.int .i64 (iV (nxF (hitB L x) 0 L.length))) ∧ ∃ m, w' = w.drewN m := by
  have hL := hS.1
  have BD := Lib.hid hS.2
  have I1 : Hid (∀ k, k < L.length → hitB L x k = true → (∀ j, j < k → hitB L x j = false) → iV (nxF (hitB L x) 0 L.length) = (k : Int)) := Lib.hid fun k hk h1 h2 => by rw [nxF_some _ _ (Nat.zero_le _) (by omega) h1 (fun j _ hj => h2 j hj)]; rfl
  have I2 : Hid ((∀ j, j < L.length → hitB L x j = false) → iV (nxF (hitB L x) 0 L.length) = -1) := Lib.hid fun h2 => by rw [nxF_none _ _ (fun j _ hj => h2 j (by omega))]; rfl
  have CE := Lib.hid hc
  generalize iV (nxF (hitB L x) 0 L.length) = fin at *
  clear hc hS
  go_enter Tryd.func33, Tryd.ntmps33
  go_wp2
  go_loopw [5] (fun v wr => ∃ k : Nat, v = .int .i64 k ∧ k ≤ L.length ∧ Hid (∀ j, j < k → hitB L x j = false) ∧ ∃ q, wr = w.drewN q) (fun v _ => L.length - (intOf v).toNat)
  case atStart => exact ⟨0, rfl, Nat.zero_le _, Lib.hid (fun j hj => absurd hj (by omega)), 0, rfl⟩
  case round =>
    obtain ⟨k, rfl, hk, HK, q, rfl⟩ := hrel
    by_cases hlt : k < L.length
    · have hltI : (k : Int) < (L.length : Int) := by omega
      obtain ⟨g, rfl, e0, e1⟩ := CE.out k hlt
      obtain ⟨b1, b2⟩ := BD.out k hlt
      have HB : Hid (hitB L x k = decide (((eN L k).1 : Int) ≤ x ∧ x - ((eN L k).1 : Int) < ((eN L k).2 : Int))) := Lib.hid rfl
      have HN : Hid (hitB L x k = false → ∀ j, j < k + 1 → hitB L x j = false) := Lib.hid fun h j hj => by
        by_cases e : j = k
        · rw [e]; exact h
        · exact HK.out j (by omega)
      have b1' : (0 : Int) ≤ ((eN L k).1 : Int) ∧ ((eN L k).1 : Int) ≤ 1048576 := by omega
      have b2' : (0 : Int) ≤ ((eN L k).2 : Int) ∧ ((eN L k).2 : Int) ≤ 1048576 := by omega
      clear b1 b2
      generalize ((eN L k).1 : Int) = s at *
      generalize ((eN L k).2 : Int) = z at *
      by_cases h1 : s ≤ x
      · have WS : IntKind.i64.wrap (x - s) = x - s := IntWalk.i64_in _ (by omega)
        by_cases h2 : x - s < z
        · have FN := Lib.hid (I1.out k hlt (by rw [HB.out]; exact decide_eq_true ⟨h1, h2⟩) HK.out)
          clear HB HN HK
          go_wp2
          go_quiet (fail)
          go_wp2
          go_ret
          exact ⟨by rw [FN.out]; rfl, _, World.drewN_drewN _ _ _⟩
        · have HK2 := Lib.hid (HN.out (by rw [HB.out]; exact decide_eq_false fun g => h2 g.2))
          clear HB HN HK
          go_wp2
          go_quiet (fail)
          go_wp2
          go_roundw
          case rel => exact ⟨k + 1, by go_num, by omega, HK2, _, rfl⟩
          case measure => simp [intOf]; omega
      · have HK2 := Lib.hid (HN.out (by rw [HB.out]; exact decide_eq_false fun g => h1 g.1))
        have hd : decide (s ≤ x) = false := by simpa using h1
        clear HB HN HK
        go_wp2
        go_quiet (fail)
        go_wp2
        go_roundw
        case rel => exact ⟨k + 1, by go_num, by omega, HK2, _, rfl⟩
        case measure => simp [intOf]; omega
    · obtain rfl : k = L.length := by omega
      have FN := Lib.hid (I2.out HK.out)
      go_wp2
      go_ret
      exact ⟨by rw [FN.out]; rfl, _, rfl⟩

set_option maxRecDepth 100000 in
theorem r13_next (hS : Sm L) (x : Int) (hc : OC w a L) :
    Calls Tryd.prog 35 #[.slice a L.length cap, .int .i64 x] w fun e w' => e = .returned (.int .i64 (iV (nxF (geB L x) 0 L.length))) ∧ w = w' := by
  have hL := hS.1
  have I1 : Hid (∀ k, k < L.length → geB L x k = true → (∀ j, j < k → geB L x j = false) → iV (nxF (geB L x) 0 L.length) = (k : Int)) := Lib.hid fun k hk h1 h2 => by rw [nxF_some _ _ (Nat.zero_le _) (by omega) h1 (fun j _ hj => h2 j hj)]; rfl
  have I2 : Hid ((∀ j, j < L.length → geB L x j = false) → iV (nxF (geB L x) 0 L.length) = -1) := Lib.hid fun h2 => by rw [nxF_none _ _ (fun j _ hj => h2 j (by omega))]; rfl
  have CE := Lib.hid hc
  generalize iV (nxF (geB L x) 0 L.length) = fin at *
  clear hc hS
  go_enter Tryd.func35, Tryd.ntmps35
  go_wp2
  go_loop [5] (fun v => ∃ k : Nat, v = .int .i64 k ∧ k ≤ L.length ∧ Hid (∀ j, j < k → geB L x j = false)) (fun v => L.length - (intOf v).toNat)
  case atStart => exact ⟨0, rfl, Nat.zero_le _, Lib.hid (fun j hj => absurd hj (by omega))⟩
  case round =>
    obtain ⟨k, rfl, hk, HK⟩ := hrel
    by_cases hlt : k < L.length
    · have hltI : (k : Int) < (L.length : Int) := by omega
      obtain ⟨g, rfl, e0, e1⟩ := CE.out k hlt
      have HB : Hid (geB L x k = decide (x ≤ ((eN L k).1 : Int))) := Lib.hid rfl
      have HN : Hid (geB L x k = false → ∀ j, j < k + 1 → geB L x j = false) := Lib.hid fun h j hj => by
        by_cases e : j = k
        · rw [e]; exact h
        · exact HK.out j (by omega)
      clear e1
      generalize ((eN L k).1 : Int) = s at *
      by_cases h1 : x ≤ s
      · have FN := Lib.hid (I1.out k hlt (by rw [HB.out]; exact decide_eq_true h1) HK.out)
        clear HB HN HK
        go_wp2
        go_ret
        exact ⟨by rw [FN.out]; rfl, rfl⟩
      · have HK2 := Lib.hid (HN.out (by rw [HB.out]; exact decide_eq_false h1))
        clear HB HN HK
        go_wp2
        go_round
        case rel => exact ⟨k + 1, by go_num, by omega, HK2⟩
        case measure => simp [intOf]; omega
    · obtain rfl : k = L.length := by omega
      have FN := Lib.hid (I2.out HK.out)
      go_wp2
      go_ret
      exact ⟨by rw [FN.out]; rfl, rfl⟩
end

open Go.ChangeShapes Go.WideShapes Go.ChangeAt Go.RowKit

theorem iV_or (r : Option Nat) : (iV r = -1 ∧ r = none) ∨ ∃ k : Nat, iV r = (k : Int) ∧ r.isSome = true := by
  cases r with
  | none => exact .inl ⟨rfl, rfl⟩
  | some k => exact .inr ⟨k, rfl, rfl⟩

def IsWord (e : Ending) : Prop := ∃ (y : Int) (z : Bool), e = .returned (.tuple #[.int .i64 y, .bool z])

section
variable {w : World} {a : Option Addr} {L : List (Nat × Nat)} {cap : Nat}

set_option maxRecDepth 100000 in
theorem r13_live (hS : Sm L) (n : Nat) (hn : n ≤ 1048576) (x y : Int) (hc : OC w a L) :
    Calls Tryd.prog 39 #[.slice a L.length cap, .int .i64 n, .int .i64 x, .int .i64 y] w fun e w' => e = .returned (.int .i64 (cp (lvL L x y) n : Nat)) ∧ ∃ m, w' = w.drewN m := by
  have FD : Hid (∀ q (j : Nat), j < n → Calls Tryd.prog 33 #[.slice a L.length cap, .int .i64 j] (w.drewN q) fun e w' => e = .returned (.int .i64 (iV (nxF (hitB L j) 0 L.length))) ∧ ∃ m, w' = (w.drewN q).drewN m) :=
    Lib.hid fun q j hj => r13_find hS j (by omega) (hc.drewN q)
  have ST : Hid (∀ j, cp (lvL L x y) (j + 1) = cp (lvL L x y) j + (lvL L x y j).toNat) := Lib.hid fun _ => rfl
  have LE := Lib.hid (fun j => cp_le (lvL L x y) j)
  have LV : Hid (∀ j : Nat, lvL L x y j = (decide (x ≤ (j : Int) ∧ (j : Int) < y) && (nxF (hitB L (j : Int)) 0 L.length).isSome)) := Lib.hid fun _ => rfl
  obtain ⟨G, hG⟩ : ∃ G : Nat → Nat, G = cp (lvL L x y) := ⟨_, rfl⟩
  rw [← hG] at ST LE ⊢
  have G0 : G 0 = 0 := by rw [hG]; rfl
  clear hG hc hS
  go_enter Tryd.func39, Tryd.ntmps39
  go_wp2_with fail
  go_loopw [9, 10] (fun u z wr => ∃ j : Nat, u = .int .i64 (G j : Nat) ∧ z = .int .i64 j ∧ j ≤ n ∧ ∃ q, wr = w.drewN q) (fun _ z _ => n - (intOf z).toNat)
  case atStart => exact ⟨0, by rw [G0]; rfl, rfl, Nat.zero_le _, 0, rfl⟩
  case round =>
    obtain ⟨j, rfl, rfl, hj, q, rfl⟩ := hrel
    by_cases hlt : j < n
    · have hltI : (j : Int) < (n : Int) := by omega
      have bd := LE.out j
      have st := ST.out j
      rw [LV.out j] at st
      have F0 := FD.out q j hlt
      by_cases h1 : x ≤ (j : Int)
      · by_cases h2 : (j : Int) < y
        · rw [decide_eq_true (And.intro h1 h2), Bool.true_and] at st
          rcases iV_or (nxF (hitB L (j : Int)) 0 L.length) with ⟨e1, e2⟩ | ⟨k, e1, e2⟩
          · rw [e1] at F0
            rw [e2] at st
            have st : Hid (G (j + 1) = G j) := Lib.hid st
            have F0 := Lib.hid F0
            clear e1 e2
            generalize G j = g at *
            go_wp2_with (go_at_call 33; with_reducible refine F0.out.mono ?_; rintro e1 w1 ⟨rfl, m, rfl⟩)
            exact ⟨⟨j + 1, by rw [st.out], by go_num, by omega, _, rfl⟩, by simp [intOf]; omega⟩
          · rw [e1] at F0
            rw [e2] at st
            have st : Hid (G (j + 1) = G j + 1) := Lib.hid st
            have F0 := Lib.hid F0
            clear e1 e2
            generalize G j = g at *
            go_wp2_with (go_at_call 33; with_reducible refine F0.out.mono ?_; rintro e1 w1 ⟨rfl, m, rfl⟩)
            exact ⟨⟨j + 1, by rw [st.out]; go_num, by go_num, by omega, _, rfl⟩, by simp [intOf]; omega⟩
        · rw [decide_eq_false (fun g => h2 g.2), Bool.false_and] at st
          have st : Hid (G (j + 1) = G j) := Lib.hid st
          clear F0
          generalize G j = g at *
          go_wp2_with fail
          exact ⟨⟨j + 1, by rw [st.out], by go_num, by omega, _, rfl⟩, by simp [intOf]; omega⟩
      · rw [decide_eq_false (fun g => h1 g.1), Bool.false_and] at st
        have st : Hid (G (j + 1) = G j) := Lib.hid st
        clear F0
        generalize G j = g at *
        go_wp2_with fail
        exact ⟨⟨j + 1, by rw [st.out], by go_num, by omega, _, rfl⟩, by simp [intOf]; omega⟩
    · obtain rfl : j = n := by omega
      have hltI : ¬ (j : Int) < (j : Int) := by omega
      go_wp2_with fail
      go_ret
      exact ⟨rfl, _, rfl⟩

set_option maxRecDepth 100000 in
/-- whatever number: there is an answer -/
theorem r13_word_any (hS : Sm L) (x : Int) (hc : OC w a L) :
    Calls Tryd.prog 37 #[.slice a L.length cap, .int .i64 x] w fun e w' => IsWord e ∧ w = w' := by
  have hL := hS.1
  have BD := Lib.hid hS.2
  have CE := Lib.hid hc
  clear hc hS
  go_enter Tryd.func37, Tryd.ntmps37
  go_wp2
  go_loop [1, 6, 7] (fun kv iv _ => ∃ (k : Nat), iv = .int .i64 k ∧ Hid (∃ y : Int, kv = .int .i64 y) ∧ k ≤ L.length) (fun _ iv _ => L.length - (intOf iv).toNat)
  case atStart => exact ⟨0, rfl, Lib.hid ⟨x, rfl⟩, Nat.zero_le _⟩
  case round =>
    obtain ⟨k, rfl, HY, hk⟩ := hrel
    obtain ⟨y, rfl⟩ := HY.out
    by_cases hlt : k < L.length
    · have hltI : (k : Int) < (L.length : Int) := by omega
      obtain ⟨g, rfl, e0, e1⟩ := CE.out k hlt
      obtain ⟨b1, b2⟩ := BD.out k hlt
      generalize (eN L k).1 = s at *
      generalize (eN L k).2 = z at *
      go_wp2
      go_loop [1, 7] (fun kv av => ∃ (i : Nat), av = .int .i64 i ∧ Hid (∃ y : Int, kv = .int .i64 y) ∧ i ≤ z) (fun _ av => z - (intOf av).toNat)
      case atStart => exact ⟨0, rfl, Lib.hid ⟨y, rfl⟩, Nat.zero_le _⟩
      case round =>
        obtain ⟨i, rfl, HZ, hi⟩ := hrel
        obtain ⟨y, rfl⟩ := HZ.out
        by_cases hlz : i < z
        · have hlzI : (i : Int) < (z : Int) := by omega
          by_cases hy : y = 0
          · subst hy
            go_wp2
            go_ret2
            exact ⟨⟨_, _, rfl⟩, rfl⟩
          · go_wp2
            exact ⟨⟨i + 1, by go_num, Lib.hid ⟨_, rfl⟩, by omega⟩, by simp [intOf]; omega⟩
        · have hlzI : ¬ (i : Int) < (z : Int) := by omega
          go_wp2
          exact ⟨⟨k + 1, by go_num, Lib.hid ⟨_, rfl⟩, by omega⟩, by simp [intOf]; omega⟩
    · obtain rfl : k = L.length := by omega
      go_wp2
      go_ret2
      exact ⟨⟨_, _, rfl⟩, rfl⟩

set_option maxRecDepth 100000 in
theorem r13_word (hS : Sm L) (x : Nat) (hx : (x : Int) ≤ 9223372036854775807) (hc : OC w a L) :
    Calls Tryd.prog 37 #[.slice a L.length cap, .int .i64 x] w fun e w' => e = .returned (oV (wdL L x)) ∧ w = w' := by
  have hL := hS.1
  have BD := Lib.hid hS.2
  have CE := Lib.hid hc
  obtain ⟨R, hR⟩ : ∃ R, wdL L x = R := ⟨_, rfl⟩
  rw [hR]
  have ST : Hid (∀ k, k < L.length → ∀ j, wdL (L.drop k) j = if j < (eN L k).2 then some ((eN L k).1 + j) else wdL (L.drop (k + 1)) (j - (eN L k).2)) := Lib.hid fun k hk j => by rw [drop_eN hk]; rfl
  have EN : Hid (∀ j, wdL (L.drop L.length) j = none) := Lib.hid fun j => by rw [List.drop_length]; rfl
  have I0 : Hid (wdL (L.drop 0) x = R) := Lib.hid (by rw [List.drop_zero]; exact hR)
  clear hc hS hR
  go_enter Tryd.func37, Tryd.ntmps37
  go_wp2
  go_loop [1, 6, 7] (fun kv iv _ => ∃ (k y : Nat), iv = .int .i64 k ∧ kv = .int .i64 y ∧ k ≤ L.length ∧ (y : Int) ≤ 9223372036854775807 ∧ Hid (wdL (L.drop k) y = R)) (fun _ iv _ => L.length - (intOf iv).toNat)
  case atStart => exact ⟨0, x, rfl, rfl, Nat.zero_le _, hx, I0⟩
  case round =>
    clear I0
    obtain ⟨k, y, rfl, rfl, hk, hyb, HI⟩ := hrel
    by_cases hlt : k < L.length
    · have hltI : (k : Int) < (L.length : Int) := by omega
      obtain ⟨g, rfl, e0, e1⟩ := CE.out k hlt
      obtain ⟨b1, b2⟩ := BD.out k hlt
      have S1 := ST.out k hlt y
      rw [HI.out] at S1
      generalize (eN L k).1 = s at *
      generalize (eN L k).2 = z at *
      have S1 := Lib.hid S1
      clear HI
      go_wp2
      go_loop [1, 7] (fun kv av => ∃ (i : Nat), av = .int .i64 i ∧ kv = .int .i64 ((y : Int) - (i : Int)) ∧ i ≤ z ∧ i ≤ y) (fun _ av => z - (intOf av).toNat)
      case atStart => exact ⟨0, rfl, by rw [show (y : Int) - ((0 : Nat) : Int) = y by omega], Nat.zero_le _, Nat.zero_le _⟩
      case round =>
        obtain ⟨i, rfl, rfl, hi, hiy⟩ := hrel
        by_cases hlz : i < z
        · have hlzI : (i : Int) < (z : Int) := by omega
          by_cases hy : i = y
          · subst hy
            have FN : Hid (R = some (s + i)) := Lib.hid (by rw [S1.out, if_pos hlz])
            have h0 : (i : Int) - (i : Int) = 0 := by omega
            rw [h0]
            clear S1 h0
            go_wp2
            go_ret2
            exact ⟨by (try rw [FN.out]); show _ = Ending.returned (Value.tuple #[.int .i64 ((s + i : Nat) : Int), .bool true]); push_cast; rfl, rfl⟩
          · obtain ⟨d, hd⟩ : ∃ d : Int, (y : Int) - (i : Int) = d := ⟨_, rfl⟩
            have d1 : 1 ≤ d := by omega
            have d2 : d ≤ 9223372036854775807 := by omega
            rw [hd]
            have HD := Lib.hid hd
            clear hd hy
            go_wp2
            exact ⟨⟨i + 1, by go_num, by rw [← HD.out]; congr 1; omega, by omega, by have := HD.out; omega⟩, by simp [intOf]; omega⟩
        · have hlzI : ¬ (i : Int) < (z : Int) := by omega
          obtain rfl : i = z := by omega
          have GO : Hid (wdL (L.drop (k + 1)) (y - i) = R) := Lib.hid (by rw [S1.out, if_neg (by omega)])
          clear S1
          go_wp2
          exact ⟨⟨k + 1, y - i, by go_num, by rw [show ((y - i : Nat) : Int) = (y : Int) - (i : Int) by omega], by omega, by omega, GO⟩, by simp [intOf]; omega⟩
    · obtain rfl : k = L.length := by omega
      have FN : Hid (R = none) := Lib.hid (by rw [← HI.out, EN.out])
      clear HI
      go_wp2
      go_ret2
      exact ⟨by rw [FN.out]; rfl, rfl⟩
end

end Go.Proofs.YtaaapbfhedgnjaaDoor.BV
