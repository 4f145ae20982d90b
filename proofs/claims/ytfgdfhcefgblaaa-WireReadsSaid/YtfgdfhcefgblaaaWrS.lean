/- The writer (layer 5): texts, parts. -/
import Derived.Test.YtfgdfhcefgblaaaWrF
import Derived.Lib.AppendStr
namespace Go.Proofs.Ytfgdfhcefgblaaa
open Go.ChangeShapes Go.WideShapes Go.ChangeAt Go.RowKit

theorem run_append_sep_string {P : Program} (w : World) (base : Nat) (t u ty e : TypeId) (i : TypeInfo) (ht : P.underlying t = some (.slice e)) (hu : P.underlying u = some .string) (hi : P.info? e = some i) (hz : i.zero = some (.int .u8 0))
    (hsize : i.size = 1) (hby : i.bytes = 1)
    (v : Value) (n : Nat) (xs : List Value) (hown : w.ownsRow base e 1 v n xs) (s : ByteArray)
    (h63 : n + s.size ≤ maxLen) (hbytes : n + s.size ≤ 140737488355328) (hbase : base ≤ w.heap.size) :
    ∃ v' w', (Builtin.append_ #[t, u] ty #[v, .string s]).run P w = .ok v' w' ∧ w'.ownsRow base e 1 v' (n + s.size) (xs ++ Lib.strCells s) ∧ w.grownBy w' v.ownBlock ∧ (∀ k, v'.ownBlock = some k → v.ownBlock = some k ∨ w.heap.size ≤ k) := by
  obtain ⟨v', w', hr, h2, h3, h4⟩ := Lib.run_append_own_string (P := P) w base t u ty e i ht hu hi hz hsize hby v n xs hown s h63 hbytes hbase
  refine ⟨v', w', hr, h2, h3, ?_⟩
  have hxl : xs.length = n := by simpa using hown.1
  have hsmall : n + s.size ≤ 9223372036854775807 := by simp only [maxLen] at h63; omega
  have h0 := hown
  rcases hown.2 with ⟨rfl, rfl⟩ | ⟨g, cap, cur, rfl, hbg, hg, hnc, hcm, hcs, htake⟩
  · have hx : xs = [] := List.eq_nil_of_length_eq_zero hxl
    subst hx
    obtain ⟨v2, w2, hr2, k2, _, _⟩ := Lib.run_append_own_string (P := P) w w.heap.size t u ty e i ht hu hi hz hsize hby (.slice none 0 0) 0 [] (World.ownsRow_nil _ _ _ _) s h63 hbytes (Nat.le_refl _)
    rw [hr] at hr2
    cases hr2
    intro k hk
    exact .inr (k2.lt k hk).1
  · by_cases hroom : n + s.size ≤ cap
    · have hcs' : cur.size = cap := by simpa using hcs
      have hr2 := Lib.run_append_room_string (P := P) w t u ty e i ht hu hi hsize g n cap cur hg s hroom (by omega)
      rw [hr] at hr2
      cases hr2
      intro k hk
      exact .inl hk
    · have holds : ∀ j u, xs[j]? = some u → w.cell? ((⟨g, 0, none⟩ : Addr).add j) = some u := h0.cells (g := g) rfl
      have hr2 := Lib.run_append_grow_string (P := P) w t u ty e i (.int .u8 0) ht hu hi hz ⟨g, 0, none⟩ n cap xs (by rw [hsize]; simpa using hxl) holds s (by omega) (by omega) (by rw [hby]; exact growslice_fits (by omega) (by omega))
      rw [hr] at hr2
      cases hr2
      intro k hk
      cases hk
      exact .inr (Nat.le_refl _)

theorem wpList_append_sep_string {P : Program} (w : World) {ops : Array Oper} {rest : List Oper} {o : Oper} {a : Act} {Q : Exit → Act → World → Prop} (hgd : o.guard = none) (sl x : Operand) (t u : TypeId)
    (ho : o.op = .call { callee := .builtin .append, args := #[sl, x], argTypes := #[t, u] })
    (base : Nat) (e : TypeId) (i : TypeInfo) (ht : P.underlying t = some (.slice e)) (hu : P.underlying u = some .string) (hi : P.info? e = some i) (hz : i.zero = some (.int .u8 0))
    (hsize : i.size = 1) (hby : i.bytes = 1)
    (v : Value) (n : Nat) (xs : List Value) (hs : a.eval sl = v) (hown : w.ownsRow base e 1 v n xs) (s : ByteArray) (hx : a.eval x = .string s)
    (h63 : n + s.size ≤ maxLen) (hbytes : n + s.size ≤ 140737488355328) (hbase : base ≤ w.heap.size)
    (h : ∀ v' w', w'.ownsRow base e 1 v' (n + s.size) (xs ++ Lib.strCells s) → w.grownBy w' v.ownBlock → (∀ k, v'.ownBlock = some k → v.ownBlock = some k ∨ w.heap.size ≤ k) → wpList P ops Q rest (a.put o.dst v') w') : wpList P ops Q (o :: rest) a w := by
  refine wpList_plain hgd fun K hK => ?_
  obtain ⟨v', w', hr, h2, h3, h4⟩ := run_append_sep_string (P := P) w base t u o.type e i ht hu hi hz hsize hby v n xs hown s h63 hbytes hbase
  unfold Oper.wp execOp
  simp only [ho, resolve, invoke, builtin, Sem.run_bind, Sem.run_pure, Result.andThen_ok, List.map_toArray, List.map_cons, List.map_nil, hs, hx, hr]
  exact hK _ _ (h v' w' h2 h3 h4)

theorem byV_str (bs : List UInt8) (s : ByteArray) : byV bs ++ Lib.strCells s = byV (bs ++ s.data.toList) := by simp [byV, Lib.strCells]

/-- a text behind the others -/
theorem wr_pushS {w0 w w1 : World} {S : Nat → Prop} {p : Nat} {bs : List UInt8} {lg : Bool} {v v' : Value} {s : ByteArray} (h : At (wrX p bs lg v) w0 S w)
    (hown : w1.ownsRow 0 5 1 v' (bs.length + s.size) (byV bs ++ Lib.strCells s)) (hgrow : w.grownBy w1 v.ownBlock) (hwhere : ∀ k, v'.ownBlock = some k → v.ownBlock = some k ∨ w.heap.size ≤ k) :
    (w1.cell? ⟨p, 0, none⟩ = some v ∧ w1.cell? ⟨p, 1, none⟩ = some (.bool lg) ∧ (∀ i, w1.frozen? ⟨p, i, none⟩ = false)) ∧ At (wrA p (bs ++ s.data.toList) lg) w0 S (w1.setCell ⟨p, 0, none⟩ v') := by
  rw [byV_str] at hown
  have H2 := h.re (B := own 5 1 v bs.length (byV bs) * blk p (.cells #[v, .bool lg] 63 (0, 0))) (by unfold wrX; ac_rfl)
  have H3 := H2.grow hown hgrow hwhere
  have H4 := H3.re (B := blk p (.cells #[v, .bool lg] 63 (0, 0)) * own 5 1 v' (bs.length + s.size) (byV (bs ++ s.data.toList))) (by ac_rfl)
  refine ⟨cells2 H4.blkIs, wrA_of (v := v') ?_⟩
  have H5 := H4.set_blk 0 v'
  unfold wrX
  rw [List.length_append, show s.data.toList.length = s.size by simp]
  exact H5

theorem wr_long {w0 w : World} {S : Nat → Prop} {p : Nat} {bs : List UInt8} {lg : Bool} {v : Value} (h : At (wrX p bs lg v) w0 S w) : At (wrA p bs true) w0 S (w.setCell ⟨p, 1, none⟩ (.bool true)) :=
  wrA_of (v := v) (At.set_blk (A := own 5 1 v bs.length (byV bs)) h 1 (.bool true))

def txB (s : ByteArray) : List UInt8 := if s.size ≤ 65535 then leb s.size ++ s.data.toList else []
def txL (s : ByteArray) : Bool := decide (65535 < s.size)

set_option maxRecDepth 100000 in
theorem wr_text {p : Nat} {bs : List UInt8} {lg : Bool} (s : ByteArray) (hs : s.size ≤ maxLen) (hb : bs.length ≤ 10000000) : Tri1 Try.prog 34 #[.pointer (some ⟨p, 0, none⟩), .string s] (wrA p bs lg) (.tuple #[]) (wrA p (bs ++ txB s) (lg || txL s)) := by
  intro w S h
  unfold txB txL
  by_cases hl : s.size ≤ 65535
  · rw [if_pos hl, decide_eq_false (by omega), Bool.or_false]
    have N := Lib.hid (wr_num (p := p) (bs := bs) (lg := lg) s.size (by omega) hb w S h)
    have l10 : (leb s.size).length ≤ 10 := leb_len 9 s.size (Nat.lt_of_le_of_lt hl (by decide))
    obtain ⟨i0, hi, hz0, hz1, hz2⟩ := info_parts infU8
    have HI := Lib.hid hi
    have HZ0 := Lib.hid hz0
    have HZ1 := Lib.hid hz1
    have HZ2 := Lib.hid hz2
    clear hi hz0 hz1 hz2 h hs
    have hcl : (bs ++ leb s.size).length ≤ 10000010 := by rw [List.length_append]; omega
    have AS := Lib.hid (List.append_assoc bs (leb s.size) s.data.toList)
    generalize hcs : bs ++ leb s.size = cs at *
    go_enter Try.func34, Try.ntmps34
    go_wp2_with fail
    refine N.out.mono ?_
    rintro e w1 ⟨rfl, a1⟩
    obtain ⟨a, cap, hX⟩ := wr_open a1
    obtain ⟨c0, c1, cf⟩ := wr_cells hX
    have HX := Lib.hid hX
    clear hX a1 N
    go_wp2_with (at_builtin; refine wpList_append_sep_string _ rfl _ _ 22 9 rfl 0 5 i0 Try.underlying22 Try.underlying9 HI.out HZ0.out HZ1.out HZ2.out _ _ _ rfl (wr_own HX.out) s rfl ?c1 ?c2 ?c3 ?_)
    case c1 => unfold maxLen; omega
    case c2 => omega
    case c3 => exact Nat.zero_le _
    intro v' w2 hown hgrow hwhere
    obtain ⟨a', cap', rfl⟩ := own_form' hown
    obtain ⟨⟨d0, d1, df⟩, A1⟩ := wr_pushS HX.out hown hgrow hwhere
    have FIN := Lib.hid A1
    clear A1 hown hgrow hwhere HX c0 c1 cf
    go_wp2
    go_end0
    refine ⟨rfl, ?_⟩
    rw [← AS.out]
    exact FIN.out
  · rw [if_neg hl, decide_eq_true (by omega), Bool.or_true, List.append_nil]
    obtain ⟨a, cap, hX⟩ := wr_open (At.refl h)
    obtain ⟨c0, c1, cf⟩ := wr_cells hX
    have FIN := Lib.hid (wr_long hX)
    have hs2 : s.size ≤ 9223372036854775807 := by unfold maxLen at hs; omega
    clear hX h hs
    go_enter Try.func34, Try.ntmps34
    go_wp2
    first | go_end0 | ((try simp only [Exit.inBlock, Exit.then]); refine bodyPost_ret (results_none rfl _ _ _) rfl ?_)
    exact ⟨rfl, FIN.out⟩

/-- an int's number -/
def zz (n : Nat) : Nat := if n < 9223372036854775808 then 2 * n else 2 * (18446744073709551616 - n) - 1

def paB (k : Int) (n : Nat) (s : ByteArray) : List UInt8 := if k % 4 = 0 then leb n else if k % 4 = 1 then leb (zz n) else if k % 4 = 2 then leK n 8 else txB s
def paL (k : Int) (s : ByteArray) : Bool := if k % 4 = 0 ∨ k % 4 = 1 ∨ k % 4 = 2 then false else txL s

theorem zz_of (n : Nat) (hn : n < 18446744073709551616) : -9223372036854775808 ≤ wrap64 (n : Int) ∧ wrap64 (n : Int) ≤ 9223372036854775807 ∧ (if 0 ≤ wrap64 (n : Int) then (2 * wrap64 (n : Int)).toNat else (-2 * wrap64 (n : Int) - 1).toNat) = zz n := by
  unfold wrap64 zz
  by_cases h : n < 9223372036854775808
  · rw [if_pos h, if_pos (by omega)]; omega
  · rw [if_neg h, if_neg (by omega)]; omega

theorem wr_int2 {p : Nat} {bs : List UInt8} {lg : Bool} (n : Nat) (hn : n < 18446744073709551616) (hb : bs.length ≤ 10000000) :
    Tri1 Try.prog 22 #[.pointer (some ⟨p, 0, none⟩), .int .i64 (wrap64 n)] (wrA p bs lg) (.tuple #[]) (wrA p (bs ++ leb (zz n)) lg) := by
  obtain ⟨z1, z2, z3⟩ := zz_of n hn
  have := wr_int (p := p) (bs := bs) (lg := lg) (wrap64 n) z1 z2 hb
  rw [z3] at this
  exact this

theorem wr_boxed {w0 w : World} {S : Nat → Prop} {p : Nat} {bs : List UInt8} {lg : Bool} (h : At (wrA p bs lg) w0 S w) (o : Obj) : At (wrA p bs lg * blk w.heap.size o) w0 S (w.alloc o) := (h.alloc o).re (by ac_rfl)

set_option maxHeartbeats 1000000 in
theorem w_write {p : Nat} {bs : List UInt8} {lg : Bool} (k : Int) (hk0 : 0 ≤ k) (hk1 : k ≤ 255) (n : Nat) (hn : n < 18446744073709551616) (s : ByteArray) (hs : s.size ≤ maxLen) (hb : bs.length ≤ 10000000) :
    Tri1 Try.prog 19 #[.pointer (some ⟨p, 0, none⟩), .agg #[.int .u8 k, .int .u64 n, .string s]] (wrA p bs lg) (.tuple #[]) (wrA p (bs ++ paB k n s) (lg || paL k s)) := by
  intro w S h
  have HB := wr_boxed (At.refl h) (.cells #[.int .u8 k, .int .u64 n, .string s] 46)
  unfold paB paL
  by_cases h0 : k % 4 = 0
  · rw [if_pos h0, if_pos (.inl h0), Bool.or_false]
    have C := Lib.hid (HB.tri1 (wr_num n hn hb))
    clear HB h hn hs
    go_enter Try.func19, Try.ntmps19
    go_wp2_with (go_at_call 21; refine C.out.mono ?_; rintro e1 w1 ⟨rfl, hA⟩)
    first | go_end0 | ((try simp only [Exit.inBlock, Exit.then]); refine bodyPost_ret (results_none rfl _ _ _) rfl ?_)
    exact ⟨rfl, hA.dropr⟩
  by_cases h1 : k % 4 = 1
  · rw [if_neg h0, if_pos h1, if_pos (.inr (.inl h1)), Bool.or_false]
    have C := Lib.hid (HB.tri1 (wr_int2 n hn hb))
    clear HB h hn hs
    go_enter Try.func19, Try.ntmps19
    go_wp2_with (go_at_call 22; refine C.out.mono ?_; rintro e1 w1 ⟨rfl, hA⟩)
    first | go_end0 | ((try simp only [Exit.inBlock, Exit.then]); refine bodyPost_ret (results_none rfl _ _ _) rfl ?_)
    exact ⟨rfl, hA.dropr⟩
  by_cases h2 : k % 4 = 2
  · rw [if_neg h0, if_neg h1, if_pos h2, if_pos (.inr (.inr h2)), Bool.or_false]
    have C := Lib.hid (HB.tri1 (wr_float n hn hb))
    clear HB h hn hs
    go_enter Try.func19, Try.ntmps19
    go_wp2_with (first | (go_at_call 33; refine (fl_of _ _).mono ?_; rintro e1 w1 ⟨rfl, rfl⟩) | (go_at_call 32; refine C.out.mono ?_; rintro e1 w1 ⟨rfl, hA⟩))
    first | go_end0 | ((try simp only [Exit.inBlock, Exit.then]); refine bodyPost_ret (results_none rfl _ _ _) rfl ?_)
    exact ⟨rfl, hA.dropr⟩
  · rw [if_neg h0, if_neg h1, if_neg h2, if_neg (by rintro (h | h | h) <;> contradiction)]
    have C := Lib.hid (HB.tri1 (wr_text s hs hb))
    clear HB h hn hs
    go_enter Try.func19, Try.ntmps19
    go_wp2_with (go_at_call 34; refine C.out.mono ?_; rintro e1 w1 ⟨rfl, hA⟩)
    first | go_end0 | ((try simp only [Exit.inBlock, Exit.then]); refine bodyPost_ret (results_none rfl _ _ _) rfl ?_)
    exact ⟨rfl, hA.dropr⟩

end Go.Proofs.Ytfgdfhcefgblaaa
