/- The document's pool of frames (layer 7): Take. -/
import Derived.Test.YtpdnbkibnpkfbadFmY
import Derived.Deep.RegionHeld3
import Derived.Deep.RegionLaw
import Derived.Deep.AppendLies
namespace Go.Proofs.Ytpdnbkibnpkfbad
open Go.ChangeShapes Go.WideShapes Go.ChangeAt Go.RowKit

theorem infFrF : (Try.prog.info? 79).map (fun i => (i.zero, i.size, i.bytes)) = some (some (.agg #[.int .i64 0, .slice none 0 0]), 2, 32) := by kernel_rfl

/-- the same, whatever the pool's own cells hold -/
def rpY (c : Nat) (r : RS) (C : Array Value) (vL vB : Value) : Asn :=
  blk c (.cells C 50 (0, 0)) * (own 79 2 vL r.L.length (ffl r.page r.L) * (own 3 1 vB r.back.length (natL r.back) * rowsA r.page r.L))

theorem rpY_set {w0 w : World} {S : Nat → Prop} {c : Nat} {r : RS} {C : Array Value} {vL vB : Value} (h : At (rpY c r C vL vB) w0 S w) (i : Nat) (v : Value) : At (rpY c r (C.setIfInBounds i v) vL vB) w0 S (w.setCell ⟨c, i, none⟩ v) := h.set_blk i v

theorem rpY_L {w0 w : World} {S : Nat → Prop} {c : Nat} {r : RS} {C : Array Value} {vL vB : Value} (h : At (rpY c r C vL vB) w0 S w) : w.ownsRow 0 79 2 vL r.L.length (ffl r.page r.L) :=
  At.ownIs (h.re (B := own 79 2 vL r.L.length (ffl r.page r.L) * (blk c (.cells C 50 (0, 0)) * (own 3 1 vB r.back.length (natL r.back) * rowsA r.page r.L))) (by unfold rpY; ac_rfl))

theorem rpY_B {w0 w : World} {S : Nat → Prop} {c : Nat} {r : RS} {C : Array Value} {vL vB : Value} (h : At (rpY c r C vL vB) w0 S w) : w.ownsRow 0 3 1 vB r.back.length (natL r.back) :=
  At.ownIs (h.re (B := own 3 1 vB r.back.length (natL r.back) * (blk c (.cells C 50 (0, 0)) * (own 79 2 vL r.L.length (ffl r.page r.L) * rowsA r.page r.L))) (by unfold rpY; ac_rfl))

/-- another frame -/
def RS.app (r : RS) (f b : Nat) : RS := { r with L := r.L ++ [⟨f, b, fun _ => 0⟩] }

theorem rpY_app {w0 w w1 : World} {S : Nat → Prop} {c : Nat} {r : RS} {C : Array Value} {vL vB v2 : Value} (f : Nat) (h : At (rpY c r C vL vB) w0 S w)
    (hown : w1.ownsRow 0 79 2 v2 (r.L.length + 1) (ffl r.page r.L ++ [.int .i64 (f : Nat), .slice (some ⟨w.heap.size, 0, none⟩) r.page r.page]))
    (hgrow : ((w.alloc (.cells (madeCells #[.int .u64 0] r.page) 31)).alloc (.cells #[.int .i64 (f : Nat), .slice (some ⟨w.heap.size, 0, none⟩) r.page r.page] 79)).grownBy w1 vL.ownBlock)
    (hwhere : ∀ g, v2.ownBlock = some g → vL.ownBlock = some g ∨ w.heap.size + 1 + 1 ≤ g) : At (rpY c (r.app f w.heap.size) C v2 vB) w0 S w1 := by
  have H1 := (h.made (.int .u64 0) r.page 31).alloc (.cells #[.int .i64 (f : Nat), .slice (some ⟨w.heap.size, 0, none⟩) r.page r.page] 79)
  rw [World.size_alloc] at H1
  have H2 := H1.re (B := own 79 2 vL r.L.length (ffl r.page r.L) * (blk (w.heap.size + 1) (.cells #[.int .i64 (f : Nat), .slice (some ⟨w.heap.size, 0, none⟩) r.page r.page] 79) * (row w.heap.size 31 r.page (fun _ => .int .u64 0) * (blk c (.cells C 50 (0, 0)) * (own 3 1 vB r.back.length (natL r.back) * rowsA r.page r.L))))) (by unfold rpY; ac_rfl)
  have H3 := H2.grow hown hgrow (fun q hq => by
    rcases hwhere q hq with h | h
    · exact .inl h
    · exact .inr (by simpa using h))
  have H4 := (H3.re (B := (blk c (.cells C 50 (0, 0)) * (own 79 2 v2 (r.L.length + 1) (ffl r.page r.L ++ [.int .i64 (f : Nat), .slice (some ⟨w.heap.size, 0, none⟩) r.page r.page]) * (own 3 1 vB r.back.length (natL r.back) * (rowsA r.page r.L * row w.heap.size 31 r.page (fun _ => .int .u64 0))))) * blk (w.heap.size + 1) (.cells #[.int .i64 (f : Nat), .slice (some ⟨w.heap.size, 0, none⟩) r.page r.page] 79)) (by ac_rfl)).dropr
  refine H4.re ?_
  unfold rpY RS.app
  show _ = blk c _ * (own _ 2 v2 (r.L ++ [(⟨f, w.heap.size, fun _ => 0⟩ : FE)]).length (ffl r.page (r.L ++ [(⟨f, w.heap.size, fun _ => 0⟩ : FE)])) * (_ * rowsA r.page (r.L ++ [(⟨f, w.heap.size, fun _ => 0⟩ : FE)])))
  rw [List.length_append, List.length_singleton, ffl_app, rowsA_app]
  show _ = blk c _ * (own _ 2 v2 (r.L.length + 1) (ffl r.page r.L ++ [.int .i64 (f : Nat), .slice (some ⟨w.heap.size, 0, none⟩) r.page r.page]) * (_ * (rowsA r.page r.L * (row w.heap.size 31 r.page (fun _ => .int .u64 0) * pur True))))
  rw [Asn.star_comm (row w.heap.size 31 r.page (fun _ => .int .u64 0)) (pur True), one_starF]

theorem two_nwF (wr : World) (x y : Value) : ∀ j u, [x, y][j]? = some u → (wr.alloc (.cells #[x, y] 79)).cell? ((⟨wr.heap.size, 0, none⟩ : Addr).add j) = some u := by
  intro j u hj
  match j, hj with
  | 0, hj => simp at hj; subst hj; simp [Addr.add]
  | 1, hj => simp at hj; subst hj; simp [Addr.add]

theorem rp_take_full {c : Nat} {r : RS} (hL : r.L.length = r.room) (hr : r.room ≤ 4096) : Look Try.prog 12 #[.pointer (some ⟨c, 0, none⟩)] (rpA c r) (.tuple #[.int .i64 0, .int .i64 14]) := by
  intro w S h
  obtain ⟨aL, cL, aB, cB, _, R⟩ := rp_open h
  have c0 := R.c0
  have c2 := R.c2
  rw [hL] at c2
  clear h R hL
  go_enter Try.func12, Try.ntmps12
  go_wp2
  go_quiet (fail)
  go_wp2
  go_ret2
  exact ⟨rfl, _, rfl⟩

/-- a frame is taken: f, whose words lie in block b -/
def RS.took (r : RS) (f b never : Nat) : RS := { r with L := r.L ++ [⟨f, b, fun _ => 0⟩], never := never, times := wrap64 (r.times + 1), high := max r.high (r.L.length + 1) }

theorem rpY_read {w0 w : World} {S : Nat → Prop} {c : Nat} {r : RS} {x0 x1 x2 x3 x4 x5 x6 vL vB : Value} (h : At (rpY c r #[x0, x1, x2, x3, x4, x5, x6] vL vB) w0 S w) :
    w.cell? ⟨c, 0, none⟩ = some x0 ∧ w.cell? ⟨c, 1, none⟩ = some x1 ∧ w.cell? ⟨c, 2, none⟩ = some x2 ∧ w.cell? ⟨c, 3, none⟩ = some x3 ∧ w.cell? ⟨c, 4, none⟩ = some x4 ∧ w.cell? ⟨c, 5, none⟩ = some x5 ∧ w.cell? ⟨c, 6, none⟩ = some x6 ∧ (∀ i, w.frozen? ⟨c, i, none⟩ = false) := cells7 (At.blkIs h)

theorem rpY_fin {w0 w1 : World} {S : Nat → Prop} {c : Nat} {r : RS} {x2 vL vB : Value} (f b never : Nat) (h : At (rpY c (r.app f b) #[.int .i64 r.room, .int .i64 r.page, x2, vB, .int .i64 (never : Nat), .int .i64 r.high, .int .i64 r.times] vL vB) w0 S w1)
    (hi : Int) (hh : hi = ((max r.high (r.L.length + 1) : Nat) : Int)) : At (rpA c (r.took f b never)) w0 S ((((w1.setCell ⟨c, 2, none⟩ vL).setCell ⟨c, 6, none⟩ (.int .i64 (wrap64 (r.times + 1)))).setCell ⟨c, 5, none⟩ (.int .i64 hi)).drew) := by
  subst hh
  exact rpA_of (vL := vL) (vB := vB) (rpY_set (rpY_set (rpY_set h 2 vL) 6 (.int .i64 (wrap64 (r.times + 1)))) 5 (.int .i64 ((max r.high (r.L.length + 1) : Nat) : Int))).drew

set_option maxRecDepth 100000 in
set_option maxHeartbeats 2000000 in
theorem rp_take_fresh {c : Nat} {r : RS} (hb : r.back = []) (hL : r.L.length < r.room) (hr : r.room ≤ 4096) (hp : r.page ≤ 256) (hp1 : 1 ≤ r.page) (hn : r.never ≤ 1000000) :
    Tri Try.prog 12 #[.pointer (some ⟨c, 0, none⟩)] (rpA c r) (fun _ : Nat => .tuple #[.int .i64 r.never, .int .i64 0]) (fun b => rpA c (r.took r.never b (r.never + 1))) := by
  intro w S h
  obtain ⟨aL, cL, aB, cB, hX, R⟩ := rp_open h
  have c0 := R.c0
  have c1 := R.c1
  have c2 := R.c2
  have c3 := R.c3
  rw [hb] at c3
  have c4 := R.c4
  have cf := R.fz
  have H0 := Lib.hid hX
  have MK := fun w => run_make_row' (P := Try.prog) 73 31 (.int .u64 0) 8 Try.underlying73 infU64F rfl .i64 .i64 r.page (by omega) (by omega) w
  obtain ⟨i0, hi, hz0, hz1, hz2⟩ := info_parts infFrF
  have HI := Lib.hid hi
  have HZ0 := Lib.hid hz0
  have HZ1 := Lib.hid hz1
  have HZ2 := Lib.hid hz2
  have HB := Lib.hid hb
  have hLI : ¬ (r.L.length : Int) = (r.room : Int) := by omega
  clear hi hz0 hz1 hz2 h hX R hb
  go_enter Try.func12, Try.ntmps12
  go_wp2
  go_quiet (fail)
  go_wp2
  have H1 := rpY_set (h := show At (rpY c r (rpC r (.slice aL r.L.length cL) (.slice aB r.back.length cB)) (.slice aL r.L.length cL) (.slice aB r.back.length cB)) w S (w.drewN nq) from H0.out.drewN nq) 4 (.int .i64 ((r.never : Int) + 1))
  generalize (w.drewN nq).setCell ⟨c, 4, none⟩ (.int .i64 ((r.never : Int) + 1)) = wa at H1 ⊢
  obtain ⟨d0, d1, d2, d3, d4, d5, d6, df⟩ := rpY_read (show At (rpY c r #[_, _, _, _, _, _, _] _ _) w S _ from H1)
  have HX := Lib.hid H1.drew
  have cl := At.hlt H1 (has_l (has_blk _ _))
  clear c0 c1 c2 c3 c4 cf H1
  have cA : (wa.alloc (.cells (madeCells #[.int .u64 0] r.page) 31)).cell? ⟨c, 2, none⟩ = some (.slice aL r.L.length cL) := by
    rw [Below.cell ((Below.refl wa.heap.size wa).alloc (Nat.le_refl _) _) cl]; exact d2
  have cB : ((wa.alloc (.cells (madeCells #[.int .u64 0] r.page) 31)).alloc (.cells #[.int .i64 (r.never : Nat), .slice (some ⟨wa.heap.size, 0, none⟩) r.page r.page] 79)).cell? ⟨c, 2, none⟩ = some (.slice aL r.L.length cL) := by
    rw [Below.cell (((Below.refl wa.heap.size wa).alloc (Nat.le_refl _) _).alloc (by simp) _) cl]; exact d2
  have TW : ∀ j u, [Value.int .i64 (r.never : Nat), .slice (some ⟨wa.heap.size, 0, none⟩) r.page r.page][j]? = some u → (((wa.alloc (.cells (madeCells #[.int .u64 0] r.page) 31)).alloc (.cells #[.int .i64 (r.never : Nat), .slice (some ⟨wa.heap.size, 0, none⟩) r.page r.page] 79)).drew).cell? ((⟨wa.heap.size + 1, 0, none⟩ : Addr).add j) = some u := by
    have := two_nwF (wa.alloc (.cells (madeCells #[.int .u64 0] r.page) 31)) (.int .i64 (r.never : Nat)) (.slice (some ⟨wa.heap.size, 0, none⟩) r.page r.page)
    rw [World.size_alloc] at this
    exact this
  have OW : (((wa.alloc (.cells (madeCells #[.int .u64 0] r.page) 31)).alloc (.cells #[.int .i64 (r.never : Nat), .slice (some ⟨wa.heap.size, 0, none⟩) r.page r.page] 79)).drew).ownsRow 0 79 2 (.slice aL r.L.length cL) r.L.length (ffl r.page r.L) := World.ownsRow.alloc (World.ownsRow.alloc (rpY_L HX.out) _) _
  have TWH := Lib.hid TW
  have OWH := Lib.hid OW
  clear TW OW
  go_region_law
    ((refine step_append_lies _ (by rfl) _ _ _ (by rfl) 0 79 i0 (.agg #[.int .i64 0, .slice none 0 0]) 2 32 Try.underlying47 HI.out HZ0.out HZ1.out HZ2.out rfl (by decide) _ _ _ (by rfl) OWH.out ⟨wa.heap.size + 1, 0, none⟩ 1 1 [.int .i64 (r.never : Nat), .slice (some ⟨wa.heap.size, 0, none⟩) r.page r.page] (by rfl) (by rfl) TWH.out (by simp [Value.oneCell']) (by omega) (by unfold maxLen; omega) (by omega) (Nat.zero_le _) _ rfl ?_; intro g' cap' w1 hown' hgrow hwhere hlt2; have A1 := rpY_app (r := r) (v2 := .slice (some ⟨g', 0, none⟩) (r.L.length + 1) cap') r.never HX.out hown' hgrow (fun q hq => by cases hq; exact hwhere.imp id (fun h => by rw [h]; simp)); obtain ⟨e0, e1, e2, e3, e4, e5, e6, ef⟩ := rpY_read (show At (rpY c _ #[_, _, _, _, _, _, _] _ _) w S _ from A1); have A2 := Lib.hid A1; clear A1 hown' hgrow hwhere hlt2))
  all_goals go_wp2
  all_goals go_region
  all_goals go_wp2
  all_goals go_ret2
  all_goals refine ⟨rfl, _, rpY_fin r.never _ (r.never + 1) A2.out _ ?_⟩
  all_goals omega

theorem rpY_back {w0 w : World} {S : Nat → Prop} {c m : Nat} {r : RS} {C : Array Value} {vL vB v : Value} {ys : List Nat} (hm : m = ys.length) (h : At (own 3 1 v m (natL ys) * rpY c r C vL vB) w0 S w) : At (rpY c { r with back := ys } C vL v) w0 S w := by
  subst hm
  exact (h.re (B := rpY c { r with back := ys } C vL v * own 3 1 vB r.back.length (natL r.back)) (by
    unfold rpY
    show _ = blk c (.cells C 50 (0, 0)) * (own 79 2 vL r.L.length (ffl r.page r.L) * (own 3 1 v ys.length (natL ys) * rowsA r.page r.L)) * own 3 1 vB r.back.length (natL r.back)
    ac_rfl)).dropr

theorem natL_one (l : List Nat) : ∀ u ∈ natL l, u.oneCell' = true := by
  intro u hu
  obtain ⟨n, _, rfl⟩ := List.mem_map.1 hu
  rfl

set_option maxRecDepth 100000 in
set_option maxHeartbeats 2000000 in
theorem rp_take_rel {c : Nat} {r : RS} {ys : List Nat} {z : Nat} (hb : r.back = ys ++ [z]) (hL : r.L.length < r.room) (hr : r.room ≤ 4096) (hp : r.page ≤ 256) (hp1 : 1 ≤ r.page) (hy : ys.length ≤ 1000000) :
    Tri Try.prog 12 #[.pointer (some ⟨c, 0, none⟩)] (rpA c r) (fun _ : Nat => .tuple #[.int .i64 z, .int .i64 0]) (fun b => rpA c (({ r with back := ys } : RS).took z b r.never)) := by
  intro w S h
  obtain ⟨aL, cL, aB, cB, hX, R⟩ := rp_open h
  have c0 := R.c0
  have c1 := R.c1
  have c2 := R.c2
  have c3 := R.c3
  have c4 := R.c4
  have cf := R.fz
  have ob := R.oB
  have e1 : r.back.length = ys.length + 1 := by rw [hb]; simp
  have e2 : natL r.back = natL ys ++ [.int .i64 (z : Nat)] := by rw [hb]; simp [natL]
  rw [e1] at c3
  have H0 := Lib.hid hX
  rw [e1, e2] at ob
  obtain ⟨q, cap', hv, hcap, hcapm⟩ := own_some' ob (by omega)
  cases hv
  have cz : w.cell? ⟨q, ys.length, none⟩ = some (.int .i64 z) := by rw [ob.cellAt _ (by omega)]; simp [natL]
  have OB := Lib.hid ob
  have MK := fun w => run_make_row' (P := Try.prog) 73 31 (.int .u64 0) 8 Try.underlying73 infU64F rfl .i64 .i64 r.page (by omega) (by omega) w
  obtain ⟨i0, hi, hz0, hz1, hz2⟩ := info_parts infFrF
  have HI := Lib.hid hi
  have HZ0 := Lib.hid hz0
  have HZ1 := Lib.hid hz1
  have HZ2 := Lib.hid hz2
  obtain ⟨i1, gi, gz0, gz1, gz2⟩ := info_parts infIntF
  have GI := Lib.hid gi
  have GZ0 := Lib.hid gz0
  have GZ1 := Lib.hid gz1
  have GZ2 := Lib.hid gz2
  have hLI : ¬ (r.L.length : Int) = (r.room : Int) := by omega
  clear hi hz0 hz1 hz2 gi gz0 gz1 gz2 h hX R hb e2 ob
  go_enter Try.func12, Try.ntmps12
  go_wp2
  go_quiet (fail)
  go_wp2_with (at_builtin; refine wpList_append_own_at _ rfl _ _ 48 rfl 0 3 i1 (.int .i64 0) 1 8 Try.underlying48 GI.out GZ0.out GZ1.out GZ2.out rfl (by decide) _ _ _ rfl (World.ownsRow_nil _ 0 3 1) ⟨q, 0, none⟩ ys.length cB (natL ys) rfl ?c0 ?c1 ?c2 ?c3 ?c4 ?c5 ?_)
  case c0 => simp [natL]
  case c1 =>
    intro j u hj
    refine OB.out.cells (g := q) rfl j u ?_
    rw [List.getElem?_append_left (List.getElem?_eq_some_iff.1 hj).1]; exact hj
  case c2 => exact natL_one _
  case c3 => unfold maxLen; omega
  case c4 => omega
  case c5 => exact Nat.zero_le _
  intro v1 w1 own1 grow1 _ hloc1
  obtain ⟨a1, cp1, rfl⟩ := own_form' own1
  have A0 := show At (rpY c r (rpC r (.slice aL r.L.length cL) (.slice (some ⟨q, 0, none⟩) r.back.length cB)) (.slice aL r.L.length cL) (.slice (some ⟨q, 0, none⟩) r.back.length cB)) w S (w.drewN nq) from H0.out.drewN nq
  have A1 := (A0.own_nil 3 1).grow own1 grow1 (fun p hp => by
    rcases hloc1 with h | h
    · rw [h] at hp; cases hp
    · rw [h] at hp; cases hp; exact .inr (Nat.le_refl _))
  have A2 := rpY_back rfl A1
  have HA2 := Lib.hid A2
  obtain ⟨b0, b1, b2, b3, b4, b5, b6, bf⟩ := rpY_read (show At (rpY c { r with back := ys } #[_, _, _, _, _, _, _] _ _) w S _ from A2)
  clear c0 c1 c2 c3 c4 cf own1 grow1 hloc1 A0 A1 A2 cz OB H0
  go_wp2
  have H1 := rpY_set HA2.out 3 (.slice a1 ys.length cp1)
  generalize w1.setCell ⟨c, 3, none⟩ (.slice a1 ys.length cp1) = wa at H1 ⊢
  clear b0 b1 b2 b3 b4 b5 b6 bf HA2
  obtain ⟨d0, d1, d2, d3, d4, d5, d6, df⟩ := rpY_read (show At (rpY c { r with back := ys } #[_, _, _, _, _, _, _] _ _) w S _ from H1)
  have HX := Lib.hid H1.drew
  have cl := At.hlt H1 (has_l (has_blk _ _))
  clear H1
  have cA : (wa.alloc (.cells (madeCells #[.int .u64 0] r.page) 31)).cell? ⟨c, 2, none⟩ = some (.slice aL r.L.length cL) := by
    rw [Below.cell ((Below.refl wa.heap.size wa).alloc (Nat.le_refl _) _) cl]; exact d2
  have cB : ((wa.alloc (.cells (madeCells #[.int .u64 0] r.page) 31)).alloc (.cells #[.int .i64 (z : Nat), .slice (some ⟨wa.heap.size, 0, none⟩) r.page r.page] 79)).cell? ⟨c, 2, none⟩ = some (.slice aL r.L.length cL) := by
    rw [Below.cell (((Below.refl wa.heap.size wa).alloc (Nat.le_refl _) _).alloc (by simp) _) cl]; exact d2
  have TW : ∀ j u, [Value.int .i64 (z : Nat), .slice (some ⟨wa.heap.size, 0, none⟩) r.page r.page][j]? = some u → (((wa.alloc (.cells (madeCells #[.int .u64 0] r.page) 31)).alloc (.cells #[.int .i64 (z : Nat), .slice (some ⟨wa.heap.size, 0, none⟩) r.page r.page] 79)).drew).cell? ((⟨wa.heap.size + 1, 0, none⟩ : Addr).add j) = some u := by
    have := two_nwF (wa.alloc (.cells (madeCells #[.int .u64 0] r.page) 31)) (.int .i64 (z : Nat)) (.slice (some ⟨wa.heap.size, 0, none⟩) r.page r.page)
    rw [World.size_alloc] at this
    exact this
  have OW : (((wa.alloc (.cells (madeCells #[.int .u64 0] r.page) 31)).alloc (.cells #[.int .i64 (z : Nat), .slice (some ⟨wa.heap.size, 0, none⟩) r.page r.page] 79)).drew).ownsRow 0 79 2 (.slice aL r.L.length cL) r.L.length (ffl r.page r.L) := World.ownsRow.alloc (World.ownsRow.alloc (rpY_L HX.out) _) _
  have TWH := Lib.hid TW
  have OWH := Lib.hid OW
  clear TW OW
  go_region_law
    ((refine step_append_lies _ (by rfl) _ _ _ (by rfl) 0 79 i0 (.agg #[.int .i64 0, .slice none 0 0]) 2 32 Try.underlying47 HI.out HZ0.out HZ1.out HZ2.out rfl (by decide) _ _ _ (by rfl) OWH.out ⟨wa.heap.size + 1, 0, none⟩ 1 1 [.int .i64 (z : Nat), .slice (some ⟨wa.heap.size, 0, none⟩) r.page r.page] (by rfl) (by rfl) TWH.out (by simp [Value.oneCell']) (by omega) (by unfold maxLen; omega) (by omega) (Nat.zero_le _) _ rfl ?_; intro g' cap' w1 hown' hgrow hwhere hlt2; have A1 := rpY_app (r := { r with back := ys }) (v2 := .slice (some ⟨g', 0, none⟩) (r.L.length + 1) cap') z HX.out hown' hgrow (fun q hq => by cases hq; exact hwhere.imp id (fun h => by rw [h]; simp)); obtain ⟨e0, e1, e2, e3, e4, e5, e6, ef⟩ := rpY_read (show At (rpY c _ #[_, _, _, _, _, _, _] _ _) w S _ from A1); have A2 := Lib.hid A1; clear A1 hown' hgrow hwhere hlt2))
  all_goals go_wp2
  all_goals go_region
  all_goals go_wp2
  all_goals go_ret2
  all_goals refine ⟨rfl, _, rpY_fin z _ r.never A2.out _ ?_⟩
  all_goals (show _ = ((max r.high (r.L.length + 1) : Nat) : Int); omega)

end Go.Proofs.Ytpdnbkibnpkfbad
