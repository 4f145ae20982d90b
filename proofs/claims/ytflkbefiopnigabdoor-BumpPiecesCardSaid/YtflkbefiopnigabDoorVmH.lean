/- A paged memory (layer 9): Free. -/
import Derived.Test.YtflkbefiopnigabDoorVmF
namespace Go.Proofs.YtflkbefiopnigabDoor.VM
open Go.ChangeShapes Go.WideShapes Go.ChangeAt Go.RowKit
open PT (QS upd pmA newQ)

theorem vm_up (n sh pg : Nat) (hp : pg = 2 ^ sh) (h8 : sh ≤ 8) (hn : n ≤ 524288) (w : World) : Calls Tryd.prog 65 #[.int .i64 n, .int .i64 pg] w fun e w' => e = .returned (.int .i64 ((n + pg - 1) / pg * pg : Nat)) ∧ w = w' := by
  have h2 : 1 ≤ pg ∧ pg ≤ 256 := by
    rw [hp]
    have : sh = 0 ∨ sh = 1 ∨ sh = 2 ∨ sh = 3 ∨ sh = 4 ∨ sh = 5 ∨ sh = 6 ∨ sh = 7 ∨ sh = 8 := by omega
    rcases this with rfl | rfl | rfl | rfl | rfl | rfl | rfl | rfl | rfl <;> decide
  have ap : andp (pg : Int) = true := by
    rw [hp]
    have : sh = 0 ∨ sh = 1 ∨ sh = 2 ∨ sh = 3 ∨ sh = 4 ∨ sh = 5 ∨ sh = 6 ∨ sh = 7 ∨ sh = 8 := by omega
    rcases this with rfl | rfl | rfl | rfl | rfl | rfl | rfl | rfl | rfl <;> decide +kernel
  have PW := Lib.hid (fun w => fm_power_pos (pg : Int) (by omega) (by omega) true ap w)
  have RD : Hid (∀ w, Calls Tryd.prog 96 #[.int .i64 n, .int .i64 pg] w fun e w' => e = .returned (.bool true) ∧ w = w') := Lib.hid (by
    intro w
    clear ap hp
    go_enter Tryd.func96, Tryd.ntmps96
    go_wp2_with (go_at_call 87; refine (PW.out _).mono ?_; rintro e1 w1 ⟨rfl, rfl⟩)
    go_ret
    exact ⟨by show Ending.returned (Value.bool (decide ((n : Int) ≤ 1152921504606846976))) = _; rw [decide_eq_true (by omega)], rfl⟩)
  have AN := andNot_low (n + pg - 1) sh (by omega) (by omega)
  rw [← hp, show ((n + pg - 1 : Nat) : Int) = (n : Int) + (pg : Int) - 1 by omega] at AN
  generalize (n + pg - 1) / pg * pg = r at *
  clear ap hp PW
  go_enter Tryd.func65, Tryd.ntmps65
  go_wp2_with (go_at_call 96; refine (RD.out _).mono ?_; rintro e1 w1 ⟨rfl, rfl⟩)
  go_ret
  exact ⟨rfl, rfl⟩

/-- how many pages of a run are mapped -/
def cntR (m : MV) (lo c : Nat) : Nat := PT.cnt (fun x => decide (lo ≤ x) && m.mp x) c

/-- the pages from lo up to c are unmapped -/
def MV.cut (m : MV) (lo c : Nat) : MV := { m with mp := fun x => m.mp x && !(decide (lo ≤ x) && decide (x < c)), used := m.used - cntR m lo c }

theorem cntR_low (m : MV) {lo c : Nat} (h : c ≤ lo) : cntR m lo c = 0 := by
  unfold cntR
  have : ∀ n, n ≤ lo → PT.cnt (fun x => decide (lo ≤ x) && m.mp x) n = 0 := fun n => by
    induction n with
    | zero => intro _; rfl
    | succ n ih =>
      intro hn
      unfold PT.cnt
      rw [ih (by omega), decide_eq_false (by omega)]; rfl
  exact this c h

theorem cntR_succ (m : MV) (lo c : Nat) : cntR m lo (c + 1) = cntR m lo c + (if lo ≤ c ∧ m.mp c = true then 1 else 0) := by
  unfold cntR
  show PT.cnt _ c + (if (decide (lo ≤ c) && m.mp c) = true then 1 else 0) = _
  have e : ((decide (lo ≤ c) && m.mp c) = true) ↔ (lo ≤ c ∧ m.mp c = true) := by simp
  simp only [e]

theorem cntR_skip (m : MV) (lo c : Nat) : ∀ d, (∀ x, c ≤ x → x < c + d → m.mp x = false) → cntR m lo (c + d) = cntR m lo c
  | 0, _ => rfl
  | d + 1, h => by
    rw [show c + (d + 1) = (c + d) + 1 by omega, cntR_succ, cntR_skip m lo c d (fun x a b => h x a (by omega)), if_neg (fun ⟨_, g⟩ => by rw [h (c + d) (by omega) (by omega)] at g; cases g), Nat.add_zero]

theorem cntR_le (m : MV) (lo c : Nat) : cntR m lo c ≤ c := PT.cnt_le _ _

theorem cut_eq {m : MV} {lo c d : Nat} (h : ∀ x, lo ≤ x → (x < c ↔ x < d) ∨ m.mp x = false) (hc : cntR m lo c = cntR m lo d) : m.cut lo c = m.cut lo d := by
  unfold MV.cut
  rw [hc]
  congr 1
  funext x
  by_cases h1 : lo ≤ x
  · rcases h x h1 with g | g
    · have : decide (x < c) = decide (x < d) := by rw [Bool.eq_iff_iff]; simp [g]
      rw [this]
    · rw [g]; rfl
  · rw [decide_eq_false h1]; rfl

theorem cut_zero {m : MV} {lo c : Nat} (h : c ≤ lo) : m.cut lo c = m := by
  unfold MV.cut
  rw [cntR_low m h]
  have : (fun x => m.mp x && !(decide (lo ≤ x) && decide (x < c))) = m.mp := by
    funext x
    by_cases h1 : lo ≤ x
    · rw [decide_eq_false (show ¬ x < c by omega)]; simp
    · rw [decide_eq_false h1]; simp
  rw [this]; rfl

theorem cut_next {m : MV} {lo c q : Nat} (hc : lo ≤ c) (hq : c ≤ q) (hm : m.mp q = true) (hz : ∀ x, c ≤ x → x < q → m.mp x = false) : (m.cut lo c).unmap q = m.cut lo (q + 1) ∧ cntR m lo (q + 1) = cntR m lo c + 1 ∧ (m.cut lo c).mp q = true := by
  have e1 : cntR m lo q = cntR m lo c := by
    have := cntR_skip m lo c (q - c) (fun x a b => hz x a (by omega))
    rw [show c + (q - c) = q by omega] at this; exact this
  have e2 : cntR m lo (q + 1) = cntR m lo c + 1 := by
    rw [cntR_succ, e1, if_pos ⟨by omega, hm⟩]
  refine ⟨?_, e2, ?_⟩
  · unfold MV.unmap MV.cut
    rw [e2]
    have : (fun x => if x = q then false else m.mp x && !(decide (lo ≤ x) && decide (x < c))) = (fun x => m.mp x && !(decide (lo ≤ x) && decide (x < q + 1))) := by
      funext x
      by_cases g : x = q
      · rw [if_pos g, g, decide_eq_true (show lo ≤ q by omega), decide_eq_true (show q < q + 1 by omega)]; simp
      · rw [if_neg g]
        by_cases h1 : lo ≤ x
        · by_cases h2 : x < c
          · rw [decide_eq_true h2, decide_eq_true (show x < q + 1 by omega)]
          · by_cases h3 : x < q
            · rw [hz x (by omega) h3]; rfl
            · rw [decide_eq_false h2, decide_eq_false (show ¬ x < q + 1 by omega)]
        · rw [decide_eq_false h1]; rfl
    simp only [this]
    rfl
  · show (m.mp q && !(decide (lo ≤ q) && decide (q < c))) = true
    rw [hm, decide_eq_false (show ¬ q < c by omega)]; simp

theorem MV.ok.cut {m : MV} (h : m.ok) (lo c : Nat) : (m.cut lo c).ok where
  w1 := h.w1
  w2 := h.w2
  pg := h.pg
  dv := h.dv
  r1 := h.r1
  r2 := h.r2
  ur := by show m.used - _ ≤ m.room; have := h.ur; omega
  uh := by show m.used - _ ≤ m.high; have := h.uh; omega
  hr := h.hr
  mb := fun x hx => by
    have hx' : (m.mp x && !(decide (lo ≤ x) && decide (x < c))) = true := hx
    rw [Bool.and_eq_true] at hx'
    exact h.mb x hx'.1

/-- what Next finds -/
structure Nxt (m : MV) (c : Nat) (v : Int) (b : Bool) : Prop where
  at_ : b = true → ∃ q : Nat, v = q ∧ c ≤ q ∧ q < m.pages ∧ m.mp q = true ∧ ∀ x, c ≤ x → x < q → m.mp x = false
  no : b = false → ∀ x, c ≤ x → m.mp x = false

theorem low_is (m : MV) (c : Nat) : ∀ n, (∃ q, c ≤ q ∧ q < n ∧ m.mp q = true ∧ ∀ x, c ≤ x → x < q → m.mp x = false) ∨ (∀ x, c ≤ x → x < n → m.mp x = false)
  | 0 => .inr fun x _ h => absurd h (by omega)
  | n + 1 => by
    rcases low_is m c n with ⟨q, a, b, d, e⟩ | h
    · exact .inl ⟨q, a, by omega, d, e⟩
    · by_cases g : c ≤ n ∧ m.mp n = true
      · exact .inl ⟨n, g.1, by omega, g.2, h⟩
      · refine .inr fun x a b => ?_
        by_cases e : x = n
        · subst e
          cases g2 : m.mp x with
          | false => rfl
          | true => exact absurd ⟨a, g2⟩ g
        · exact h x a (by omega)

theorem tab_next {m m0 : MV} {s : PS} {q : QS} (v : VI m s q) (hm : m.ok) (t c : Nat) (hc : c ≤ 9223372036854775807) (e0 : m0.pages = m.pages) (e1 : ∀ x, c ≤ x → m.mp x = m0.mp x) (hm0 : ∀ x, m0.mp x = true → x < m0.pages) : ∃ (r : Int) (b : Bool), Nxt m0 c r b ∧ Ask Tryd.prog 64 #[.pointer (some ⟨t, 0, none⟩), .int .i64 c] (pmA t q) (.tuple #[.int .i64 r, .bool b]) := by
  have hp := v.pages
  rcases low_is m c m.pages with ⟨j, a, b, d, e⟩ | h
  · refine ⟨j, true, ⟨fun _ => ⟨j, rfl, a, by rw [e0]; exact b, by rw [← e1 j a]; exact d, fun x hx hx2 => by rw [← e1 x hx]; exact e x hx hx2⟩, fun h => (by cases h)⟩, ?_⟩
    refine PT.pm_next v.qo c _ (fun j' hj' hc' hz' hmin => ?_) (fun hn => ?_) (by omega)
    · have : j = j' := by
        rcases Nat.lt_trichotomy j j' with g | g | g
        · exact absurd (hmin j (by omega) g) (v.nz d)
        · exact g
        · exact absurd (v.z (e j' (by omega) g)) hz'
      rw [this]
    · exact absurd (hn j (by omega) (by omega)) (v.nz d)
  · refine ⟨0, false, ⟨fun h => (by cases h), fun _ x hx => ?_⟩, ?_⟩
    · by_cases hlt : x < m.pages
      · rw [← e1 x hx]; exact h x hx hlt
      · cases g : m0.mp x with
        | false => rfl
        | true => exact absurd (hm0 x g) (by rw [e0]; exact hlt)
    refine PT.pm_next v.qo c _ (fun j' hj' hc' hz' _ => absurd (v.z (h j' (by omega) (by omega))) hz') (fun _ => rfl) (by omega)

theorem cut_end {m : MV} {lo hi c : Nat} (h1 : lo ≤ c) (h2 : c ≤ hi ∨ c = lo) (hz : ∀ x, c ≤ x → x < hi → m.mp x = false) : m.cut lo c = m.cut lo hi ∧ cntR m lo c = cntR m lo hi := by
  by_cases g : c ≤ hi
  · have e := cntR_skip m lo c (hi - c) (fun x a b => hz x a (by omega))
    rw [show c + (hi - c) = hi by omega] at e
    refine ⟨cut_eq (fun x hx => ?_) e.symm, e.symm⟩
    by_cases a : x < c
    · exact .inl ⟨fun _ => by omega, fun _ => a⟩
    · by_cases b : x < hi
      · exact .inr (hz x (by omega) b)
      · exact .inl ⟨fun h => absurd h a, fun h => absurd h b⟩
  · have e : c = lo := by omega
    subst e
    rw [cut_zero (Nat.le_refl _), cut_zero (show hi ≤ c by omega), cntR_low m (Nat.le_refl _), cntR_low m (show hi ≤ c by omega)]
    exact ⟨rfl, rfl⟩

def okNat : Value → Nat → Nat
  | .bool true, n => n
  | _, _ => 0
theorem okNat_t (n : Nat) : okNat (.bool true) n = n := rfl
theorem okNat_f (n : Nat) : okNat (.bool false) n = 0 := rfl
attribute [irreducible] okNat

theorem vm_free_none {p : Nat} {m : MV} (hm : m.ok) (F T : Nat) (hFT : T ≤ F) (hTw : T ≤ m.words) : Look Tryd.prog 16 #[.pointer (some ⟨p, 0, none⟩), .int .i64 F, .int .i64 T] (memA p m) (.int .i64 0) := by
  intro w S h
  obtain ⟨sh, c, t, s, q, v, e1, e8, hX⟩ := memA_open (At.refl h)
  obtain ⟨c0, c1, c2, c3, c4⟩ := mX_hdr hX
  have hw2 := hm.w2
  clear h hX v e1 e8
  go_enter Tryd.func16, Tryd.ntmps16
  go_wp2
  go_quiet (fail)
  go_wp2
  go_ret
  exact ⟨rfl, _, rfl⟩

set_option maxRecDepth 100000 in
set_option maxHeartbeats 4000000 in
theorem vm_free_ok {p : Nat} {m : MV} (hm : m.ok) (F T : Nat) (hFT : F < T) (hTw : T ≤ m.words) :
    Tri1 Tryd.prog 16 #[.pointer (some ⟨p, 0, none⟩), .int .i64 F, .int .i64 T] (memA p m) (.int .i64 (cntR m ((F + m.page - 1) / m.page) (T / m.page) : Nat)) (memA p (m.cut ((F + m.page - 1) / m.page) (T / m.page))) := by
  intro w S h
  obtain ⟨sh, c, t, s, q, v, e1, e8, hX⟩ := memA_open (At.refl h)
  obtain ⟨c0, c1, c2, c3, c4⟩ := mX_hdr hX
  have hw2 := hm.w2
  have p1 := hm.p1
  have p2 := hm.p2
  have ep : ((2 : Int) ^ sh) = (m.page : Int) := by rw [e1]; push_cast; rfl
  have s2 : ((T : Nat) : Int) / 2 ^ sh = ((T / m.page : Nat) : Int) := by rw [ep]; rfl
  have s3 : (((F + m.page - 1) / m.page * m.page : Nat) : Int) / 2 ^ sh = (((F + m.page - 1) / m.page : Nat) : Int) := by
    rw [ep]
    have : ((F + m.page - 1) / m.page * m.page) / m.page = (F + m.page - 1) / m.page := Nat.mul_div_cancel _ (by omega)
    exact_mod_cast congrArg (fun x : Nat => (x : Int)) this
  have hhi : T / m.page ≤ m.pages := Nat.div_le_div_right hTw
  have n2 := hm.n2
  have UP := Lib.hid (vm_up F sh m.page e1 e8 (by omega))
  have hlo : (F + m.page - 1) / m.page ≤ 1000000 := Nat.le_trans (Nat.div_le_self _ _) (by omega)
  obtain ⟨r0, b0, NX0, AX0⟩ := tab_next v hm t ((F + m.page - 1) / m.page) (by omega) rfl (fun _ _ => rfl) hm.mb
  have NX := Lib.hid NX0
  have AX := Lib.hid AX0
  have HX := Lib.hid hX
  have HA := Lib.hid (At.refl h)
  have HM := Lib.hid hm
  generalize T / m.page = hi at *
  generalize (F + m.page - 1) / m.page = lo at *
  obtain ⟨up, hup⟩ : ∃ up, lo * m.page = up := ⟨_, rfl⟩
  rw [hup] at s3 UP
  obtain ⟨pg, hpg⟩ : ∃ pg, m.page = pg := ⟨_, rfl⟩
  rw [hpg] at UP c3
  have hI : (F : Int) < (T : Int) := by omega
  have hI0 : (0 : Int) ≤ (F : Int) := by omega
  have hIw : (T : Int) ≤ (m.words : Int) := by omega
  have hIb : (T : Int) ≤ 524288 := by omega
  clear h hX v e1 ep NX0 AX0 hm hup hFT hTw
  generalize (F : Int) = Fi at *
  generalize (T : Int) = Ti at *
  go_enter Tryd.func16, Tryd.ntmps16
  go_wp2
  go_quiet (fail)
  have H1 := HX.out.drewN nq
  have HA1 := HA.out.drewN nq
  obtain ⟨wz, hwz⟩ : ∃ wz, w.drewN nq = wz := ⟨_, rfl⟩
  rw [hwz] at H1 HA1 ⊢
  clear c0 c1 c2 c3 c4 HX HA hwz
  obtain ⟨c0, c1, c2, c3, c4⟩ := mX_hdr H1
  rw [hpg] at c3
  have AXQ := Lib.hid (fun n => mX_task AX.out (H1.drewN n))
  have HA2 := Lib.hid HA1
  clear H1 HA1 AX
  go_wp2
  go_quiet (first | (go_at_call 65; exact Calls.quiet_of ((UP.out _).mono fun _ _ ⟨a, b⟩ => ⟨a, 0, b.symm⟩)) | (go_at_call 64; exact Calls.quiet_of ((AXQ.out _).mono fun _ _ ⟨a, b⟩ => ⟨a, 0, b.symm⟩)))
  go_wp2
  have A9 := Lib.hid (HA2.out.drewN nq)
  generalize wz.drewN nq = w9 at A9 ⊢
  clear c0 c1 c2 c3 c4 HA2 AXQ UP s2 s3
  go_loopw [8, 9, 10] (fun nv pv ov wr => ∃ (cc : Nat) (r : Int) (b : Bool), nv = .int .i64 (cntR m lo cc : Nat) ∧ pv = .int .i64 r ∧ ov = .bool b ∧ cc ≤ 1000000 ∧ Hid (lo ≤ cc ∧ (cc ≤ hi ∨ cc = lo) ∧ Nxt m cc r b ∧ At (memA p (m.cut lo cc)) w S wr)) (fun _ pv ov _ => okNat ov (600000 - (intOf pv).toNat))
  case atStart => exact ⟨lo, r0, b0, by rw [cntR_low m (Nat.le_refl _)]; rfl, rfl, rfl, hlo, Lib.hid ⟨Nat.le_refl _, .inr rfl, NX.out, by rw [cut_zero (Nat.le_refl _)]; exact A9.out⟩⟩
  case round =>
    clear A9 NX
    obtain ⟨cc, r, b, rfl, rfl, rfl, hcc, HR⟩ := hrel
    have hcn := cntR_le m lo cc
    cases b with
    | false =>
      have E := cut_end HR.out.1 HR.out.2.1 (hi := hi) (fun x hx _ => HR.out.2.2.1.no rfl x hx)
      have FIN : Hid (cntR m lo cc = cntR m lo hi ∧ At (memA p (m.cut lo hi)) w S wr) := Lib.hid ⟨E.2, E.1 ▸ HR.out.2.2.2⟩
      clear HR E
      go_wp2
      go_ret
      exact ⟨by rw [← FIN.out.1]; rfl, FIN.out.2⟩
    | true =>
      obtain ⟨q, rfl, hq1, hq2, hq3, hq4⟩ := HR.out.2.2.1.at_ rfl
      by_cases hqh : q < hi
      · have hqI : (q : Int) < (hi : Int) := by omega
        obtain ⟨u1, u2, u3⟩ := cut_next HR.out.1 hq1 hq3 hq4
        have U := vm_unmap_ok (p := p) (HM.out.cut lo cc) q u3
        rw [u1] at U
        have UU := Lib.hid (HR.out.2.2.2.tri0 U)
        have NW : Hid (∀ w', At (memA p (m.cut lo (q + 1))) w S w' → ∃ (t : Nat) (r1 : Int) (b1 : Bool), Nxt m (q + 1) r1 b1 ∧ w'.cell? ⟨p, 1, none⟩ = some (.pointer (some ⟨t, 0, none⟩)) ∧
            (Calls Tryd.prog 64 #[.pointer (some ⟨t, 0, none⟩), .int .i64 ((q : Int) + 1)] w' fun e w2 => e = .returned (.tuple #[.int .i64 r1, .bool b1]) ∧ w' = w2)) := Lib.hid fun w' h' => by
          obtain ⟨sh2, c2, t2, s2, q2, v2, _, _, hX2⟩ := memA_open h'
          obtain ⟨r1, b1, nx, ax⟩ := tab_next (m0 := m) v2 (HM.out.cut lo (q + 1)) t2 (q + 1) (by omega) rfl (fun x hx => by
            show (m.mp x && !(decide (lo ≤ x) && decide (x < q + 1))) = m.mp x
            rw [decide_eq_false (show ¬ x < q + 1 by omega)]; simp) HM.out.mb
          exact ⟨t2, r1, b1, nx, (mX_hdr hX2).2.1, by
            have := mX_task ax hX2
            rw [show ((q + 1 : Nat) : Int) = (q : Int) + 1 by omega] at this
            exact this⟩
        have hlc : lo ≤ q + 1 := by have := HR.out.1; omega
        have CN : Hid (((cntR m lo cc : Nat) : Int) + 1 = ((cntR m lo (q + 1) : Nat) : Int)) := Lib.hid (by rw [u2]; push_cast; rfl)
        generalize cntR m lo cc = cn at *
        clear HR u1 u2 u3 U
        go_wp2_with fail
        refine UU.out.mono ?_
        rintro e1 w1 ⟨rfl, hA⟩
        obtain ⟨t1, r1, b1, nx, ct, CX⟩ := NW.out _ hA
        have CXH := Lib.hid CX
        have GO : Hid (lo ≤ q + 1 ∧ (q + 1 ≤ hi ∨ q + 1 = lo) ∧ Nxt m (q + 1) r1 b1 ∧ At (memA p (m.cut lo (q + 1))) w S w1) := Lib.hid ⟨hlc, .inl (by omega), nx, hA⟩
        have NX1 := Lib.hid nx
        clear hA nx CX NW UU
        go_wp2_with (go_at_call 64; with_reducible refine CXH.out.mono ?_; rintro e1 w2 ⟨rfl, rfl⟩)
        cases b1 with
        | true =>
          obtain ⟨q2, hq2e, hq2a, hq2b, _⟩ := NX1.out.at_ rfl
          go_roundw
          case rel => exact ⟨q + 1, r1, true, by rw [← CN.out], rfl, rfl, by omega, GO⟩
          case measure => simp [intOf, okNat_t]; omega
        | false =>
          go_roundw
          case rel => exact ⟨q + 1, r1, false, by rw [← CN.out], rfl, rfl, by omega, GO⟩
          case measure => simp [intOf, okNat_t, okNat_f]; omega
      · have E := cut_end HR.out.1 HR.out.2.1 (hi := hi) (fun x hx hx2 => hq4 x hx (by omega))
        have FIN : Hid (cntR m lo cc = cntR m lo hi ∧ At (memA p (m.cut lo hi)) w S wr) := Lib.hid ⟨E.2, E.1 ▸ HR.out.2.2.2⟩
        have hqI : ¬ (q : Int) < (hi : Int) := by omega
        clear HR E
        go_wp2
        go_ret
        exact ⟨by rw [← FIN.out.1]; rfl, FIN.out.2⟩

end Go.Proofs.YtflkbefiopnigabDoor.VM
