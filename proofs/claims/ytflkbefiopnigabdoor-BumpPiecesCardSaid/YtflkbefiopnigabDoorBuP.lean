/- Pieces of a region (layer 16): plain numbers; the law BumpPieces, walked. -/
import Derived.Test.YtflkbefiopnigabDoorBuG
import Derived.Test.YtflkbefiopnigabDoorArgs
namespace Go.Proofs.YtflkbefiopnigabDoor.BU
open Go.ChangeShapes Go.WideShapes Go.ChangeAt Go.RowKit
open VM

theorem cnt_lt {g : Nat → Bool} {p n : Nat} (h : p < n) (hg : g p = false) : PT.cnt g n < n := by
  have a := PT.cnt_on p hg n h
  have b := PT.cnt_le (fun j => if j = p then true else g j) n
  omega

/-- as many frames are in use as pages are mapped -/
def cnI (m : MV) : Prop := m.used = PT.cnt m.mp m.pages

theorem cnI_map {m : MV} (h : cnI m) {p : Nat} (hp : p < m.pages) (hz : m.mp p = false) : cnI (m.map p) := by
  show m.used + 1 = PT.cnt (fun x => if x = p then true else m.mp x) m.pages
  rw [PT.cnt_on p hz _ hp, h]

theorem cnI_need {m : MV} (hm : m.ok) (h : cnI m) (hr : m.room = m.pages) (f : Nat) : ∀ i, f + i ≤ m.pages → cnI (needM m f i) ∧ needFits m f i
  | 0, _ => ⟨h, fun j hj => absurd hj (by omega)⟩
  | i + 1, hi => by
    obtain ⟨a, b⟩ := cnI_need hm h hr f i (by omega)
    have N := need_is m f i
    have hpg : (needM m f i).pages = m.pages := by show (needM m f i).words / (needM m f i).page = _; rw [N.words, N.page]; rfl
    have key : (needM m f i).mp (f + i) = true ∨ (needM m f i).used < m.room := by
      cases e : (needM m f i).mp (f + i) with
      | true => exact .inl rfl
      | false =>
        refine .inr ?_
        rw [a, hr, ← hpg]
        exact cnt_lt (by omega) e
    refine ⟨?_, fun j hj => ?_⟩
    · unfold needM
      by_cases e : (needM m f i).mp (f + i) = true
      · rw [if_pos e]; exact a
      · rw [if_neg e]
        exact cnI_map a (by omega) (by simpa using e)
    · by_cases ej : j = i
      · rw [ej]; exact key
      · exact b j (by omega)

/-- the addresses from base up to top are mapped, those up to at hold themselves -/
structure PcI (base at' top : Nat) (m : MV) : Prop where
  ok : m.ok
  words : m.words = 4096
  page : m.page = 16
  room : m.room = 256
  cn : cnI m
  mp : ∀ a, base ≤ a → a < top → m.mp (a / 16) = true
  val : ∀ a, base ≤ a → a < at' → m.val (a / 16) (a % 16) = (a : Int)

theorem PcI.pages {base at' top : Nat} {m : MV} (h : PcI base at' top m) : m.pages = 256 := by
  show m.words / m.page = 256
  rw [h.words, h.page]

theorem PcI.need {base at' : Nat} {m : MV} (h : PcI base at' at' m) (n : Nat) (hn : 1 ≤ n) (hl : at' + n ≤ 4096) : needFits m (at' / 16) (needN m at' (at' + n)) ∧ PcI base at' (at' + n) (needM m (at' / 16) (needN m at' (at' + n))) := by
  have hpg := h.pages
  have e : needN m at' (at' + n) = (at' + n - 1) / 16 - at' / 16 + 1 := by unfold needN; rw [h.page]
  have hb : at' / 16 + needN m at' (at' + n) ≤ m.pages := by rw [e, hpg]; omega
  obtain ⟨a, b⟩ := cnI_need h.ok h.cn (by rw [h.room, hpg]) (at' / 16) _ hb
  have N := need_is m (at' / 16) (needN m at' (at' + n))
  refine ⟨b, ⟨needM_ok h.ok _ _ hb b, by rw [N.words, h.words], by rw [N.page, h.page], by rw [N.room, h.room], a, fun x h1 h2 => ?_, fun x h1 h2 => ?_⟩⟩
  · by_cases g : x < at'
    · exact (N.mp _).2 (.inl (h.mp x h1 g))
    · exact N.all (x / 16) (by omega) (by rw [e]; omega)
  · rw [N.val]
    · exact h.val x h1 h2
    · intro hx
      have := (N.new _ hx).1
      rw [h.mp x h1 h2] at this; cases this

theorem PcI.put {base at' top : Nat} {m : MV} (h : PcI base at' top m) (hb : base ≤ at') (ht : at' < top) : PcI base (at' + 1) top (m.put (at' / 16) (at' % 16) (at' : Int)) where
  ok := h.ok.put _ _ _
  words := h.words
  page := h.page
  room := h.room
  cn := h.cn
  mp := h.mp
  val := fun a h1 h2 => by
    show (if a / 16 = at' / 16 then fun i => if i = at' % 16 then (at' : Int) else m.val (at' / 16) i else m.val (a / 16)) (a % 16) = (a : Int)
    by_cases e : a = at'
    · subst e
      rw [if_pos rfl, if_pos rfl]
    · have h3 := h.val a h1 (by omega)
      by_cases e2 : a / 16 = at' / 16
      · rw [if_pos e2]
        show (if a % 16 = at' % 16 then (at' : Int) else m.val (at' / 16) (a % 16)) = _
        rw [if_neg (by omega), ← e2]; exact h3
      · rw [if_neg e2]; exact h3

theorem PcI.start (base : Nat) : PcI base base base (newM 4096 16 256) where
  ok := newM_ok 4096 16 256 (by omega) (by omega) (by unfold powP; omega) (by omega) (by omega) (by decide)
  words := rfl
  page := rfl
  room := rfl
  cn := by
    show 0 = PT.cnt (fun _ => false) 256
    have : ∀ n, PT.cnt (fun _ => false) n = 0 := fun n => by
      induction n with
      | zero => rfl
      | succ n ih => unfold PT.cnt; rw [ih]; rfl
    exact (this 256).symm
  mp := fun a h1 h2 => by omega
  val := fun a h1 h2 => by omega

theorem PcI.top {base at' : Nat} {m : MV} (h : PcI base at' at' m) : PcI base at' at' m := h

set_option maxRecDepth 100000 in
theorem pieces_long (x0 : Int) (a : Option Addr) (len cap : Nat) (hl : len ≤ cap) (hc : cap ≤ 9223372036854775807) (h : 100 < len) (W : World) (hT : Tab W) :
    Calls Tryd.prog 6 #[.int .u8 x0, .slice a len cap] W fun e W' => e = .returned (.bool true) ∧ Below W.heap.size W W' := by
  have L := Lib.hid blives
  have HT := Lib.hid hT
  clear hT
  go_enter Tryd.func6, Tryd.ntmps6
  go_wp2_with (go_at_call 24; refine (L.out _ HT.out).mono ?_; rintro e1 w1 ⟨rfl, hb⟩)
  go_ret
  exact ⟨rfl, hb⟩

set_option maxHeartbeats 8000000 in
set_option maxRecDepth 100000 in
theorem pieces_short (base : Nat) (hb : base ≤ 255) (a : Option Addr) (len cap : Nat) (zs : List Int) (hl : len ≤ 100) (W : World) (hT : Tab W) (hrow : IntRow .u8 W a len cap zs) :
    Calls Tryd.prog 6 #[.int .u8 base, .slice a len cap] W fun e W' => e = .returned (.bool true) ∧ Below W.heap.size W W' := by
  have hcl : len ≤ cap := hrow.lc
  have hcm : cap ≤ 9223372036854775807 := by have := hrow.cm; unfold maxLen at this; omega
  have cell : Hid (∀ wr, Below W.heap.size W wr → ∀ j, j < len → ∃ q off z, a = some ⟨q, off, none⟩ ∧ wr.cell? ⟨q, off + j, none⟩ = some (.int .u8 (z : Nat)) ∧ z ≤ 255) := Lib.hid <| by
    intro wr hb j hj
    obtain ⟨q, off, ha, hq, hc⟩ := hrow.at_ j hj
    have hz : zs.getD j 0 ∈ zs := by
      have : j < zs.length := by rw [hrow.length]; exact hj
      rw [List.getD_eq_getElem?_getD, List.getElem?_eq_getElem this]; exact List.getElem_mem this
    have b0 := bounds_u8 (hrow.wf _ hz)
    refine ⟨q, off, (zs.getD j 0).toNat, ha, ?_, by omega⟩
    rw [show (((zs.getD j 0).toNat : Nat) : Int) = zs.getD j 0 by omega]
    exact (hb.cell (p := ⟨q, _, none⟩) hq).trans hc
  clear hrow
  have N := Lib.hid (vm_new_ok 4096 16 256 (by omega) (by omega) (by unfold powP; omega) (by omega) (by omega) (by decide) W hT (fun _ => False) ⟨trivial, fun _ => id⟩)
  have T0 := Lib.hid (fun p => bu_new_ok (p := p) (m := newM 4096 16 256) base 4096 (by omega) (by decide))
  have HT := Lib.hid hT
  clear hT
  go_enter Tryd.func6, Tryd.ntmps6
  go_wp2_with fail
  refine N.out.mono ?_
  rintro e w1 ⟨p, rfl, a1⟩
  have C0 := Lib.hid (a1.trix (T0.out p))
  clear a1 N T0
  go_wp2_with fail
  refine C0.out.mono ?_
  rintro e w2 ⟨r, rfl, a2⟩
  have A0 : Hid (∃ m, PcI base base base m ∧ At (buA r p base 4096 base m) W (fun _ => False) w2) := Lib.hid ⟨_, PcI.start base, a2⟩
  clear a2 C0
  go_wp2_with fail
  go_loopw [9, 43] (fun t i wr => ∃ (k top : Nat), k ≤ len ∧ t = .int .i64 top ∧ i = .int .i64 k ∧ Hid (base ≤ top ∧ top ≤ 4096 ∧ ∃ m : MV, PcI base top top m ∧ At (buA r p base 4096 top m) W (fun _ => False) wr)) (fun _ i _ => len - (intOf i).toNat)
  case atStart => exact ⟨0, base, Nat.zero_le _, rfl, rfl, Lib.hid ⟨Nat.le_refl _, by omega, A0.out⟩⟩
  case round =>
    clear A0
    obtain ⟨k, top, hk, rfl, rfl, HR⟩ := hrel
    obtain ⟨hb0, hb1, m, hP, hA⟩ := HR.out
    clear HR
    by_cases hlt : k < len
    · obtain ⟨q, off, n, rfl, hc0, hn⟩ := cell.out wr hA.below k hlt
      have hltI : (k : Int) < (len : Int) := by omega
      have hnI : (n : Int) ≤ 255 := by omega
      by_cases n0 : n = 0
      · subst n0
        have C := Lib.hid (At.ask1 hA (bu_alloc_size 0 (by omega)))
        have FIN := Lib.hid (And.intro hP hA)
        clear hA hP
        go_wp2_with fail
        refine C.out.mono ?_
        rintro e w3 ⟨rfl, rfl⟩
        clear C
        go_wp2_with fail
        exact ⟨⟨k + 1, top, by omega, rfl, by go_num, Lib.hid ⟨hb0, hb1, m, FIN.out.1, FIN.out.2⟩⟩, by simp [intOf]; omega⟩
      have n0I : ¬ (n : Int) = 0 := by omega
      have nb : ((n : Int) == 0) = false := by simp; omega
      have hbI : (top : Int) ≤ 4096 := by omega
      by_cases hful : 4096 - top < n
      · have hfI : (4096 : Int) - (top : Int) < (n : Int) := by omega
        have C := Lib.hid (At.ask1 hA (bu_alloc_full (by omega) (by omega) n (by omega) (by omega)))
        have C2 := Lib.hid (At.ask1 hA bu_topv)
        have FIN := Lib.hid (And.intro hP hA)
        clear hA hP
        go_wp2_with fail
        refine C.out.mono ?_
        rintro e w3 ⟨rfl, rfl⟩
        clear C
        go_wp2_with fail
        refine C2.out.mono ?_
        rintro e w3 ⟨rfl, rfl⟩
        clear C2
        go_wp2_with fail
        exact ⟨⟨k + 1, top, by omega, rfl, by go_num, Lib.hid ⟨hb0, hb1, m, FIN.out.1, FIN.out.2⟩⟩, by simp [intOf]; omega⟩
      have hfI : ¬ (4096 : Int) - (top : Int) < (n : Int) := by omega
      obtain ⟨nf, P2⟩ := hP.need n (by omega) (by omega)
      have T := vm_need_ok (p := p) hP.ok top (top + n) (by omega) (by rw [hP.words]; omega) (by rw [hP.page]; exact nf)
      rw [hP.page] at T
      have C := Lib.hid (At.tri0 hA (bu_alloc_ok (by omega) (by omega) n (by omega) (by omega) T))
      generalize needM m (top / 16) (needN m top (top + n)) = m2 at *
      have P2 := Lib.hid P2
      clear hA hP nf T
      go_wp2_with fail
      refine C.out.mono ?_
      rintro e w3 ⟨rfl, hA⟩
      have A1 : Hid (∃ m : MV, PcI base top (top + n) m ∧ At (buA r p base 4096 (top + n) m) W (fun _ => False) w3) := Lib.hid ⟨m2, P2.out, hA⟩
      clear C P2 hA hc0
      go_wp2_with fail
      clear n0I hfI nb
      go_loopw [80] (fun i wr => ∃ (x : Nat), x ≤ n ∧ i = .int .i64 x ∧ Hid (∃ m : MV, PcI base (top + x) (top + n) m ∧ At (buA r p base 4096 (top + n) m) W (fun _ => False) wr)) (fun i _ => n - (intOf i).toNat)
      case atStart => exact ⟨0, Nat.zero_le _, rfl, A1⟩
      case round =>
        clear A1
        obtain ⟨x, hx, rfl, HR⟩ := hrel
        obtain ⟨m, hP, hA⟩ := HR.out
        clear HR
        by_cases hxl : x < n
        · have hxI : (x : Int) < (n : Int) := by omega
          have T := vm_store_ok (p := p) hP.ok ((top + x) / 16) ((top + x) % 16) ((top + x : Nat) : Int) (hP.mp _ (by omega) (by omega)) (by rw [hP.page]; omega)
          rw [hP.page, show (top + x) / 16 * 16 + (top + x) % 16 = top + x by omega, show ((top + x : Nat) : Int) = (top : Int) + (x : Int) by omega] at T
          have C := Lib.hid (bu_mem T hA)
          have P2 := hP.put (by omega) (by omega)
          rw [show ((top + x : Nat) : Int) = (top : Int) + (x : Int) by omega] at P2
          have P2 := Lib.hid P2
          clear hA hP T
          go_wp2_with fail
          refine C.out.mono ?_
          rintro e w5 ⟨rfl, hA⟩
          have FIN := Lib.hid hA
          clear C hA
          go_wp2_with fail
          exact ⟨⟨x + 1, by omega, by go_num, Lib.hid ⟨_, P2.out, FIN.out⟩⟩, by simp [intOf]; omega⟩
        · obtain rfl : x = n := by omega
          have hxI : ¬ (x : Int) < (x : Int) := by omega
          have FIN := Lib.hid (And.intro hP hA)
          clear hA hP
          go_wp2_with fail
          exact ⟨⟨k + 1, top + x, by omega, by go_num, by go_num, Lib.hid ⟨by omega, by omega, m, FIN.out.1, FIN.out.2⟩⟩, by simp [intOf]; omega⟩
    · obtain rfl : k = len := by omega
      have hltI : ¬ (k : Int) < (k : Int) := by omega
      have A1 : Hid (∃ m : MV, PcI base top top m ∧ At (buA r p base 4096 top m) W (fun _ => False) wr) := Lib.hid ⟨m, hP, hA⟩
      clear hA hP
      obtain ⟨wz, hwz⟩ : ∃ wz, wr = wz := ⟨_, rfl⟩
      rw [hwz] at A1 ⊢
      clear hwz
      go_wp2_with fail
      go_loopw [15] (fun i wr => ∃ (x : Nat), base ≤ x ∧ x ≤ top ∧ i = .int .i64 x ∧ Hid (∃ m : MV, PcI base top top m ∧ At (buA r p base 4096 top m) W (fun _ => False) wr)) (fun i _ => top - (intOf i).toNat)
      case atStart => exact ⟨base, Nat.le_refl _, hb0, rfl, A1⟩
      case round =>
        clear A1
        obtain ⟨x, hx0, hx, rfl, HR⟩ := hrel
        obtain ⟨m, hP, hA⟩ := HR.out
        clear HR
        by_cases hxl : x < top
        · have hxI : (x : Int) < (top : Int) := by omega
          have T := vm_load_ok (p := p) hP.ok (x / 16) (x % 16) (hP.mp _ (by omega) (by omega)) (by rw [hP.page]; omega)
          rw [hP.page, show x / 16 * 16 + x % 16 = x by omega, hP.val x hx0 hxl] at T
          have C := Lib.hid (bu_look T hA)
          have P2 := Lib.hid hP
          have FIN := Lib.hid (fun n => At.drewN hA n)
          clear hA hP T
          have z1 : ((x : Int) != (x : Int)) = false := by simp
          go_wp2_with fail
          refine C.out.mono ?_
          rintro e w5 ⟨rfl, n5, rfl⟩
          clear C
          go_wp2_with fail
          exact ⟨⟨x + 1, by omega, by omega, by go_num, Lib.hid ⟨_, P2.out, FIN.out _⟩⟩, by simp [intOf]; omega⟩
        · obtain rfl : x = top := by omega
          have hxI : ¬ (x : Int) < (x : Int) := by omega
          have C := Lib.hid (At.ask1 hA bu_topv)
          have B := Lib.hid hA.below
          have SZ := hA.size
          have L0 := Lib.hid (blives wr (Tab.frame HT.out hA))
          clear hA hP
          go_wp2_with fail
          refine C.out.mono ?_
          rintro e w5 ⟨rfl, rfl⟩
          clear C
          go_wp2_with (go_at_call 24; refine L0.out.mono ?_; rintro e w3 ⟨rfl, hb⟩)
          go_ret
          exact ⟨rfl, Below.step B.out hb SZ⟩

theorem pieces_law (base : Int) (h0 : (Lit.int .u8 base).wf = true) (a : Option Addr) (len cap : Nat) (zs : List Int) (W : World) (hT : Tab W) (hrow : IntRow .u8 W a len cap zs) :
    Calls Tryd.prog 6 #[.int .u8 base, .slice a len cap] W fun e W' => e = .returned (.bool true) ∧ Below W.heap.size W W' := by
  have hcm : cap ≤ 9223372036854775807 := by have := hrow.cm; unfold maxLen at this; omega
  have hb := bounds_u8 h0
  by_cases hl : 100 < len
  · exact pieces_long base a len cap hrow.lc hcm hl W hT
  · obtain ⟨n, rfl⟩ := Int.eq_ofNat_of_zero_le hb.1
    exact pieces_short n (by omega) a len cap zs (by omega) W hT hrow

end Go.Proofs.YtflkbefiopnigabDoor.BU
