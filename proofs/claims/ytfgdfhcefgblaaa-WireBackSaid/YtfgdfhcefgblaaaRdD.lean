/- The reader (layer 5): next; Num, Int, Float, Text of any reading. -/
import Derived.Test.YtfgdfhcefgblaaaRdC
namespace Go.Proofs.Ytfgdfhcefgblaaa
open Go.ChangeShapes Go.WideShapes Go.ChangeAt Go.RowKit

theorem rd_un {w0 w : World} {S : Nat → Prop} {p q e : Nat} {s : ByteArray} (h : At (rdA p s q e) w0 S w) : w.cell? ⟨p, 0, none⟩ = some (.string s) ∧ w.cell? ⟨p, 1, none⟩ = some (.int .i64 q) ∧ w.cell? ⟨p, 2, none⟩ = some (.int .i64 e) ∧ (∀ i, w.frozen? ⟨p, i, none⟩ = false) := rd_cells h.unit

set_option maxRecDepth 100000 in
theorem nx_num_ok {p q q' : Nat} {s : ByteArray} {v : Int} (T : Tri1 Try.prog 24 #[.pointer (some ⟨p, 0, none⟩)] (rdA p s q 0) (.tuple #[.int .u64 v, .int .i64 0]) (rdA p s q' 0)) :
    Tri1 Try.prog 23 #[.pointer (some ⟨p, 0, none⟩), .func (.func 24) #[.pointer (some ⟨p, 0, none⟩)] #[]] (rdA p s q 0) (.int .u64 v) (rdA p s q' 0) := by
  intro w S h
  obtain ⟨c0, c1, c2, cf⟩ := rd_un (At.refl h)
  have T1 := Lib.hid (T w S h)
  clear h T
  go_enter Try.func23, Try.ntmps23
  go_wp2_with (go_at_call 24; with_reducible refine T1.out.mono ?_; rintro e1 w1 ⟨rfl, hA⟩; have HA := Lib.hid hA; clear hA)
  go_ret
  exact ⟨rfl, HA.out⟩

set_option maxRecDepth 100000 in
theorem nx_num_bad {p q q' e : Nat} {s : ByteArray} {v : Int} (he : e = 1 ∨ e = 2 ∨ e = 3) (T : Tri1 Try.prog 24 #[.pointer (some ⟨p, 0, none⟩)] (rdA p s q 0) (.tuple #[.int .u64 v, .int .i64 e]) (rdA p s q' 0)) :
    Tri1 Try.prog 23 #[.pointer (some ⟨p, 0, none⟩), .func (.func 24) #[.pointer (some ⟨p, 0, none⟩)] #[]] (rdA p s q 0) (.int .u64 0) (rdA p s q e) := by
  intro w S h
  obtain ⟨c0, c1, c2, cf⟩ := rd_un (At.refl h)
  have T1 := Lib.hid (T w S h)
  have hz : ((e : Int) != 0) = true := by simp; omega
  have hz2 : ((e : Int) == 0) = false := by simp; omega
  clear h T he
  go_enter Try.func23, Try.ntmps23
  go_wp2_with (go_at_call 24; with_reducible refine T1.out.mono ?_; rintro e1 w1 ⟨rfl, hA⟩; obtain ⟨d0, d1, d2, df⟩ := rd_un hA; have FIN := Lib.hid (At.nounit (rd_set2 (rd_set1 hA.unit q) e)); clear hA)
  go_ret
  exact ⟨rfl, FIN.out⟩

theorem nx_num_old {p q e : Nat} {s : ByteArray} (F : Value) (he : e = 1 ∨ e = 2 ∨ e = 3) :
    Ask Try.prog 23 #[.pointer (some ⟨p, 0, none⟩), F] (rdA p s q e) (.int .u64 0) := by
  intro w S h
  obtain ⟨c0, c1, c2, cf⟩ := rd_un (At.refl h)
  have hz : ((e : Int) != 0) = true := by simp; omega
  have hz2 : ((e : Int) == 0) = false := by simp; omega
  clear h he
  go_enter Try.func23, Try.ntmps23
  go_wp2
  go_ret
  exact ⟨rfl, rfl⟩

theorem tp_num_ok {p q q' : Nat} {s : ByteArray} {v : Int} (T : Tri1 Try.prog 24 #[.pointer (some ⟨p, 0, none⟩)] (rdA p s q 0) (.tuple #[.int .u64 v, .int .i64 0]) (rdA p s q' 0)) :
    Tri1 Try.prog 7 #[.pointer (some ⟨p, 0, none⟩)] (rdA p s q 0) (.int .u64 v) (rdA p s q' 0) := by
  intro w S h
  have T1 := Lib.hid (nx_num_ok T w S h)
  clear h T
  go_enter Try.func7, Try.ntmps7
  go_wp2_with (go_at_call 23; with_reducible refine T1.out.mono ?_; rintro e1 w1 ⟨rfl, hA⟩; have HA := Lib.hid hA; clear hA)
  go_ret
  exact ⟨rfl, HA.out⟩

theorem tp_num_bad {p q q' e : Nat} {s : ByteArray} {v : Int} (he : e = 1 ∨ e = 2 ∨ e = 3) (T : Tri1 Try.prog 24 #[.pointer (some ⟨p, 0, none⟩)] (rdA p s q 0) (.tuple #[.int .u64 v, .int .i64 e]) (rdA p s q' 0)) :
    Tri1 Try.prog 7 #[.pointer (some ⟨p, 0, none⟩)] (rdA p s q 0) (.int .u64 0) (rdA p s q e) := by
  intro w S h
  have T1 := Lib.hid (nx_num_bad he T w S h)
  clear h T he
  go_enter Try.func7, Try.ntmps7
  go_wp2_with (go_at_call 23; with_reducible refine T1.out.mono ?_; rintro e1 w1 ⟨rfl, hA⟩; have HA := Lib.hid hA; clear hA)
  go_ret
  exact ⟨rfl, HA.out⟩

theorem tp_num_old {p q e : Nat} {s : ByteArray} (he : e = 1 ∨ e = 2 ∨ e = 3) :
    Ask Try.prog 7 #[.pointer (some ⟨p, 0, none⟩)] (rdA p s q e) (.int .u64 0) := by
  intro w S h
  have T1 := Lib.hid (nx_num_old (.func (.func 24) #[.pointer (some ⟨p, 0, none⟩)] #[]) he w S h)
  clear h he
  go_enter Try.func7, Try.ntmps7
  go_wp2_with (go_at_call 23; with_reducible refine T1.out.mono ?_; rintro e1 w1 ⟨rfl, rfl⟩)
  go_ret
  exact ⟨rfl, rfl⟩

set_option maxRecDepth 100000 in
theorem nx_int_ok {p q q' : Nat} {s : ByteArray} {v : Int} (T : Tri1 Try.prog 26 #[.pointer (some ⟨p, 0, none⟩)] (rdA p s q 0) (.tuple #[.int .i64 v, .int .i64 0]) (rdA p s q' 0)) :
    Tri1 Try.prog 25 #[.pointer (some ⟨p, 0, none⟩), .func (.func 26) #[.pointer (some ⟨p, 0, none⟩)] #[]] (rdA p s q 0) (.int .i64 v) (rdA p s q' 0) := by
  intro w S h
  obtain ⟨c0, c1, c2, cf⟩ := rd_un (At.refl h)
  have T1 := Lib.hid (T w S h)
  clear h T
  go_enter Try.func25, Try.ntmps25
  go_wp2_with (go_at_call 26; with_reducible refine T1.out.mono ?_; rintro e1 w1 ⟨rfl, hA⟩; have HA := Lib.hid hA; clear hA)
  go_ret
  exact ⟨rfl, HA.out⟩

set_option maxRecDepth 100000 in
theorem nx_int_bad {p q q' e : Nat} {s : ByteArray} {v : Int} (he : e = 1 ∨ e = 2 ∨ e = 3) (T : Tri1 Try.prog 26 #[.pointer (some ⟨p, 0, none⟩)] (rdA p s q 0) (.tuple #[.int .i64 v, .int .i64 e]) (rdA p s q' 0)) :
    Tri1 Try.prog 25 #[.pointer (some ⟨p, 0, none⟩), .func (.func 26) #[.pointer (some ⟨p, 0, none⟩)] #[]] (rdA p s q 0) (.int .i64 0) (rdA p s q e) := by
  intro w S h
  obtain ⟨c0, c1, c2, cf⟩ := rd_un (At.refl h)
  have T1 := Lib.hid (T w S h)
  have hz : ((e : Int) != 0) = true := by simp; omega
  have hz2 : ((e : Int) == 0) = false := by simp; omega
  clear h T he
  go_enter Try.func25, Try.ntmps25
  go_wp2_with (go_at_call 26; with_reducible refine T1.out.mono ?_; rintro e1 w1 ⟨rfl, hA⟩; obtain ⟨d0, d1, d2, df⟩ := rd_un hA; have FIN := Lib.hid (At.nounit (rd_set2 (rd_set1 hA.unit q) e)); clear hA)
  go_ret
  exact ⟨rfl, FIN.out⟩

theorem nx_int_old {p q e : Nat} {s : ByteArray} (F : Value) (he : e = 1 ∨ e = 2 ∨ e = 3) :
    Ask Try.prog 25 #[.pointer (some ⟨p, 0, none⟩), F] (rdA p s q e) (.int .i64 0) := by
  intro w S h
  obtain ⟨c0, c1, c2, cf⟩ := rd_un (At.refl h)
  have hz : ((e : Int) != 0) = true := by simp; omega
  have hz2 : ((e : Int) == 0) = false := by simp; omega
  clear h he
  go_enter Try.func25, Try.ntmps25
  go_wp2
  go_ret
  exact ⟨rfl, rfl⟩

theorem tp_int_ok {p q q' : Nat} {s : ByteArray} {v : Int} (T : Tri1 Try.prog 26 #[.pointer (some ⟨p, 0, none⟩)] (rdA p s q 0) (.tuple #[.int .i64 v, .int .i64 0]) (rdA p s q' 0)) :
    Tri1 Try.prog 9 #[.pointer (some ⟨p, 0, none⟩)] (rdA p s q 0) (.int .i64 v) (rdA p s q' 0) := by
  intro w S h
  have T1 := Lib.hid (nx_int_ok T w S h)
  clear h T
  go_enter Try.func9, Try.ntmps9
  go_wp2_with (go_at_call 25; with_reducible refine T1.out.mono ?_; rintro e1 w1 ⟨rfl, hA⟩; have HA := Lib.hid hA; clear hA)
  go_ret
  exact ⟨rfl, HA.out⟩

theorem tp_int_bad {p q q' e : Nat} {s : ByteArray} {v : Int} (he : e = 1 ∨ e = 2 ∨ e = 3) (T : Tri1 Try.prog 26 #[.pointer (some ⟨p, 0, none⟩)] (rdA p s q 0) (.tuple #[.int .i64 v, .int .i64 e]) (rdA p s q' 0)) :
    Tri1 Try.prog 9 #[.pointer (some ⟨p, 0, none⟩)] (rdA p s q 0) (.int .i64 0) (rdA p s q e) := by
  intro w S h
  have T1 := Lib.hid (nx_int_bad he T w S h)
  clear h T he
  go_enter Try.func9, Try.ntmps9
  go_wp2_with (go_at_call 25; with_reducible refine T1.out.mono ?_; rintro e1 w1 ⟨rfl, hA⟩; have HA := Lib.hid hA; clear hA)
  go_ret
  exact ⟨rfl, HA.out⟩

theorem tp_int_old {p q e : Nat} {s : ByteArray} (he : e = 1 ∨ e = 2 ∨ e = 3) :
    Ask Try.prog 9 #[.pointer (some ⟨p, 0, none⟩)] (rdA p s q e) (.int .i64 0) := by
  intro w S h
  have T1 := Lib.hid (nx_int_old (.func (.func 26) #[.pointer (some ⟨p, 0, none⟩)] #[]) he w S h)
  clear h he
  go_enter Try.func9, Try.ntmps9
  go_wp2_with (go_at_call 25; with_reducible refine T1.out.mono ?_; rintro e1 w1 ⟨rfl, rfl⟩)
  go_ret
  exact ⟨rfl, rfl⟩

set_option maxRecDepth 100000 in
theorem nx_flt_ok {p q q' : Nat} {s : ByteArray} {v : Nat} (T : Tri1 Try.prog 29 #[.pointer (some ⟨p, 0, none⟩)] (rdA p s q 0) (.tuple #[.float .f64 v, .int .i64 0]) (rdA p s q' 0)) :
    Tri1 Try.prog 28 #[.pointer (some ⟨p, 0, none⟩), .func (.func 29) #[.pointer (some ⟨p, 0, none⟩)] #[]] (rdA p s q 0) (.float .f64 v) (rdA p s q' 0) := by
  intro w S h
  obtain ⟨c0, c1, c2, cf⟩ := rd_un (At.refl h)
  have T1 := Lib.hid (T w S h)
  clear h T
  go_enter Try.func28, Try.ntmps28
  go_wp2_with (go_at_call 29; with_reducible refine T1.out.mono ?_; rintro e1 w1 ⟨rfl, hA⟩; have HA := Lib.hid hA; clear hA)
  go_ret
  exact ⟨rfl, HA.out⟩

set_option maxRecDepth 100000 in
theorem nx_flt_bad {p q q' e : Nat} {s : ByteArray} {v : Nat} (he : e = 1 ∨ e = 2 ∨ e = 3) (T : Tri1 Try.prog 29 #[.pointer (some ⟨p, 0, none⟩)] (rdA p s q 0) (.tuple #[.float .f64 v, .int .i64 e]) (rdA p s q' 0)) :
    Tri1 Try.prog 28 #[.pointer (some ⟨p, 0, none⟩), .func (.func 29) #[.pointer (some ⟨p, 0, none⟩)] #[]] (rdA p s q 0) (.float .f64 0) (rdA p s q e) := by
  intro w S h
  obtain ⟨c0, c1, c2, cf⟩ := rd_un (At.refl h)
  have T1 := Lib.hid (T w S h)
  have hz : ((e : Int) != 0) = true := by simp; omega
  have hz2 : ((e : Int) == 0) = false := by simp; omega
  clear h T he
  go_enter Try.func28, Try.ntmps28
  go_wp2_with (go_at_call 29; with_reducible refine T1.out.mono ?_; rintro e1 w1 ⟨rfl, hA⟩; obtain ⟨d0, d1, d2, df⟩ := rd_un hA; have FIN := Lib.hid (At.nounit (rd_set2 (rd_set1 hA.unit q) e)); clear hA)
  go_ret
  exact ⟨rfl, FIN.out⟩

theorem nx_flt_old {p q e : Nat} {s : ByteArray} (F : Value) (he : e = 1 ∨ e = 2 ∨ e = 3) :
    Ask Try.prog 28 #[.pointer (some ⟨p, 0, none⟩), F] (rdA p s q e) (.float .f64 0) := by
  intro w S h
  obtain ⟨c0, c1, c2, cf⟩ := rd_un (At.refl h)
  have hz : ((e : Int) != 0) = true := by simp; omega
  have hz2 : ((e : Int) == 0) = false := by simp; omega
  clear h he
  go_enter Try.func28, Try.ntmps28
  go_wp2
  go_ret
  exact ⟨rfl, rfl⟩

theorem tp_flt_ok {p q q' : Nat} {s : ByteArray} {v : Nat} (T : Tri1 Try.prog 29 #[.pointer (some ⟨p, 0, none⟩)] (rdA p s q 0) (.tuple #[.float .f64 v, .int .i64 0]) (rdA p s q' 0)) :
    Tri1 Try.prog 12 #[.pointer (some ⟨p, 0, none⟩)] (rdA p s q 0) (.float .f64 v) (rdA p s q' 0) := by
  intro w S h
  have T1 := Lib.hid (nx_flt_ok T w S h)
  clear h T
  go_enter Try.func12, Try.ntmps12
  go_wp2_with (go_at_call 28; with_reducible refine T1.out.mono ?_; rintro e1 w1 ⟨rfl, hA⟩; have HA := Lib.hid hA; clear hA)
  go_ret
  exact ⟨rfl, HA.out⟩

theorem tp_flt_bad {p q q' e : Nat} {s : ByteArray} {v : Nat} (he : e = 1 ∨ e = 2 ∨ e = 3) (T : Tri1 Try.prog 29 #[.pointer (some ⟨p, 0, none⟩)] (rdA p s q 0) (.tuple #[.float .f64 v, .int .i64 e]) (rdA p s q' 0)) :
    Tri1 Try.prog 12 #[.pointer (some ⟨p, 0, none⟩)] (rdA p s q 0) (.float .f64 0) (rdA p s q e) := by
  intro w S h
  have T1 := Lib.hid (nx_flt_bad he T w S h)
  clear h T he
  go_enter Try.func12, Try.ntmps12
  go_wp2_with (go_at_call 28; with_reducible refine T1.out.mono ?_; rintro e1 w1 ⟨rfl, hA⟩; have HA := Lib.hid hA; clear hA)
  go_ret
  exact ⟨rfl, HA.out⟩

theorem tp_flt_old {p q e : Nat} {s : ByteArray} (he : e = 1 ∨ e = 2 ∨ e = 3) :
    Ask Try.prog 12 #[.pointer (some ⟨p, 0, none⟩)] (rdA p s q e) (.float .f64 0) := by
  intro w S h
  have T1 := Lib.hid (nx_flt_old (.func (.func 29) #[.pointer (some ⟨p, 0, none⟩)] #[]) he w S h)
  clear h he
  go_enter Try.func12, Try.ntmps12
  go_wp2_with (go_at_call 28; with_reducible refine T1.out.mono ?_; rintro e1 w1 ⟨rfl, rfl⟩)
  go_ret
  exact ⟨rfl, rfl⟩

set_option maxRecDepth 100000 in
theorem nx_txt_ok {p q q' : Nat} {s : ByteArray} {v : ByteArray} (T : Tri1 Try.prog 31 #[.pointer (some ⟨p, 0, none⟩)] (rdA p s q 0) (.tuple #[.string v, .int .i64 0]) (rdA p s q' 0)) :
    Tri1 Try.prog 30 #[.pointer (some ⟨p, 0, none⟩), .func (.func 31) #[.pointer (some ⟨p, 0, none⟩)] #[]] (rdA p s q 0) (.string v) (rdA p s q' 0) := by
  intro w S h
  obtain ⟨c0, c1, c2, cf⟩ := rd_un (At.refl h)
  have T1 := Lib.hid (T w S h)
  clear h T
  go_enter Try.func30, Try.ntmps30
  go_wp2_with (go_at_call 31; with_reducible refine T1.out.mono ?_; rintro e1 w1 ⟨rfl, hA⟩; have HA := Lib.hid hA; clear hA)
  go_ret
  exact ⟨rfl, HA.out⟩

set_option maxRecDepth 100000 in
theorem nx_txt_bad {p q q' e : Nat} {s : ByteArray} {v : ByteArray} (he : e = 1 ∨ e = 2 ∨ e = 3) (T : Tri1 Try.prog 31 #[.pointer (some ⟨p, 0, none⟩)] (rdA p s q 0) (.tuple #[.string v, .int .i64 e]) (rdA p s q' 0)) :
    Tri1 Try.prog 30 #[.pointer (some ⟨p, 0, none⟩), .func (.func 31) #[.pointer (some ⟨p, 0, none⟩)] #[]] (rdA p s q 0) (.string ⟨#[]⟩) (rdA p s q e) := by
  intro w S h
  obtain ⟨c0, c1, c2, cf⟩ := rd_un (At.refl h)
  have T1 := Lib.hid (T w S h)
  have hz : ((e : Int) != 0) = true := by simp; omega
  have hz2 : ((e : Int) == 0) = false := by simp; omega
  clear h T he
  go_enter Try.func30, Try.ntmps30
  go_wp2_with (go_at_call 31; with_reducible refine T1.out.mono ?_; rintro e1 w1 ⟨rfl, hA⟩; obtain ⟨d0, d1, d2, df⟩ := rd_un hA; have FIN := Lib.hid (At.nounit (rd_set2 (rd_set1 hA.unit q) e)); clear hA)
  go_ret
  exact ⟨rfl, FIN.out⟩

theorem nx_txt_old {p q e : Nat} {s : ByteArray} (F : Value) (he : e = 1 ∨ e = 2 ∨ e = 3) :
    Ask Try.prog 30 #[.pointer (some ⟨p, 0, none⟩), F] (rdA p s q e) (.string ⟨#[]⟩) := by
  intro w S h
  obtain ⟨c0, c1, c2, cf⟩ := rd_un (At.refl h)
  have hz : ((e : Int) != 0) = true := by simp; omega
  have hz2 : ((e : Int) == 0) = false := by simp; omega
  clear h he
  go_enter Try.func30, Try.ntmps30
  go_wp2
  go_ret
  exact ⟨rfl, rfl⟩

theorem tp_txt_ok {p q q' : Nat} {s : ByteArray} {v : ByteArray} (T : Tri1 Try.prog 31 #[.pointer (some ⟨p, 0, none⟩)] (rdA p s q 0) (.tuple #[.string v, .int .i64 0]) (rdA p s q' 0)) :
    Tri1 Try.prog 14 #[.pointer (some ⟨p, 0, none⟩)] (rdA p s q 0) (.string v) (rdA p s q' 0) := by
  intro w S h
  have T1 := Lib.hid (nx_txt_ok T w S h)
  clear h T
  go_enter Try.func14, Try.ntmps14
  go_wp2_with (go_at_call 30; with_reducible refine T1.out.mono ?_; rintro e1 w1 ⟨rfl, hA⟩; have HA := Lib.hid hA; clear hA)
  go_ret
  exact ⟨rfl, HA.out⟩

theorem tp_txt_bad {p q q' e : Nat} {s : ByteArray} {v : ByteArray} (he : e = 1 ∨ e = 2 ∨ e = 3) (T : Tri1 Try.prog 31 #[.pointer (some ⟨p, 0, none⟩)] (rdA p s q 0) (.tuple #[.string v, .int .i64 e]) (rdA p s q' 0)) :
    Tri1 Try.prog 14 #[.pointer (some ⟨p, 0, none⟩)] (rdA p s q 0) (.string ⟨#[]⟩) (rdA p s q e) := by
  intro w S h
  have T1 := Lib.hid (nx_txt_bad he T w S h)
  clear h T he
  go_enter Try.func14, Try.ntmps14
  go_wp2_with (go_at_call 30; with_reducible refine T1.out.mono ?_; rintro e1 w1 ⟨rfl, hA⟩; have HA := Lib.hid hA; clear hA)
  go_ret
  exact ⟨rfl, HA.out⟩

theorem tp_txt_old {p q e : Nat} {s : ByteArray} (he : e = 1 ∨ e = 2 ∨ e = 3) :
    Ask Try.prog 14 #[.pointer (some ⟨p, 0, none⟩)] (rdA p s q e) (.string ⟨#[]⟩) := by
  intro w S h
  have T1 := Lib.hid (nx_txt_old (.func (.func 31) #[.pointer (some ⟨p, 0, none⟩)] #[]) he w S h)
  clear h he
  go_enter Try.func14, Try.ntmps14
  go_wp2_with (go_at_call 30; with_reducible refine T1.out.mono ?_; rintro e1 w1 ⟨rfl, rfl⟩)
  go_ret
  exact ⟨rfl, rfl⟩

end Go.Proofs.Ytfgdfhcefgblaaa
