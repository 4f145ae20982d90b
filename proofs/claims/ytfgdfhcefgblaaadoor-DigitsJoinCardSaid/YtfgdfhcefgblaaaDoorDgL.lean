/- Digits (layer 4): lists of texts: the model, slices of texts. -/
import Derived.Test.YtfgdfhcefgblaaaDoorDgG
import Derived.Test.YtfgdfhcefgblaaaDoorSL
import Derived.Test.YtfgdfhcefgblaaaDoorSep
import Derived.Maps.AppendAt
import Derived.BigQuiet
namespace Go.Proofs.YtfgdfhcefgblaaaDoor
set_option linter.unusedVariables false
open Go.ChangeShapes Go.WideShapes Go.ChangeAt Go.RowKit

/-- the parts between separators -/
def ptS (p : UInt8 → Bool) (cur : List UInt8) : List UInt8 → List (List UInt8)
  | [] => [cur]
  | c :: r => if p c then cur :: ptS p [] r else ptS p (cur ++ [c]) r

def lfB (c : UInt8) : Bool := decide (c.toNat = 10)
def spB (c : UInt8) : Bool := decide (c.toNat = 32 ∨ c.toNat = 9)

/-- the document's lines -/
def liS (cur : List UInt8) : List UInt8 → List (List UInt8)
  | [] => if cur = [] then [] else [cur]
  | c :: r => if lfB c then cur :: liS [] r else liS (cur ++ [c]) r

/-- the document's fields -/
def fiS (cur : List UInt8) : List UInt8 → List (List UInt8)
  | [] => if cur = [] then [] else [cur]
  | c :: r => if spB c then (if cur = [] then fiS [] r else cur :: fiS [] r) else fiS (cur ++ [c]) r

theorem li_end : ∀ (r cur : List UInt8), ptS lfB cur r = liS cur (r ++ [10])
  | [], cur => rfl
  | c :: r, cur => by
    show (if lfB c then cur :: ptS lfB [] r else ptS lfB (cur ++ [c]) r) = (if lfB c then cur :: liS [] (r ++ [10]) else liS (cur ++ [c]) (r ++ [10]))
    rw [li_end r [], li_end r (cur ++ [c])]

theorem li_mid : ∀ (r cur : List UInt8), (r = [] → cur ≠ []) → (∀ m c, r = m ++ [c] → lfB c = false) → ptS lfB cur r = liS cur r
  | [], cur, h, _ => by show [cur] = if cur = [] then [] else [cur]; rw [if_neg (h rfl)]
  | c :: r, cur, h, hl => by
    show (if lfB c then cur :: ptS lfB [] r else ptS lfB (cur ++ [c]) r) = (if lfB c then cur :: liS [] r else liS (cur ++ [c]) r)
    by_cases hc : lfB c = true
    · rw [if_pos hc, if_pos hc, li_mid r [] (fun e => by
        have := hl [] c (by rw [e]; rfl)
        rw [this] at hc; cases hc) (fun m d e => hl (c :: m) d (by rw [e]; rfl))]
    · rw [if_neg hc, if_neg hc, li_mid r (cur ++ [c]) (fun _ => by simp) (fun m d e => hl (c :: m) d (by rw [e]; rfl))]

theorem fi_pt : ∀ (r cur : List UInt8), (ptS spB cur r).filter (fun x => decide (x ≠ [])) = fiS cur r
  | [], cur => by
    show List.filter _ [cur] = if cur = [] then [] else [cur]
    by_cases h : cur = []
    · subst h; rfl
    · rw [if_neg h, List.filter_cons_of_pos (by simpa using h)]; rfl
  | c :: r, cur => by
    show List.filter _ (if spB c then cur :: ptS spB [] r else ptS spB (cur ++ [c]) r) = (if spB c then (if cur = [] then fiS [] r else cur :: fiS [] r) else fiS (cur ++ [c]) r)
    by_cases hc : spB c = true
    · rw [if_pos hc, if_pos hc]
      by_cases h : cur = []
      · subst h; rw [if_pos rfl, ← fi_pt r []]; rfl
      · rw [if_neg h, List.filter_cons_of_pos (by simpa using h), fi_pt r []]
    · rw [if_neg hc, if_neg hc, fi_pt r (cur ++ [c])]

def bS (l : List UInt8) : ByteArray := ⟨l.toArray⟩
def tv (l : List UInt8) : Value := .string (bS l)
theorem bS_size (l : List UInt8) : (bS l).size = l.length := by show l.toArray.size = _; simp
theorem bS_nil : bS [] = ⟨#[]⟩ := rfl
theorem bS_app (a b : List UInt8) : bS a ++ bS b = bS (a ++ b) := by
  apply ByteArray.ext
  rw [ByteArray.data_append]
  simp [bS]
theorem bS_inj {a b : List UInt8} (h : bS a = bS b) : a = b := by
  have := congrArg (fun x : ByteArray => x.data.toList) h
  simpa [bS] using this
theorem bS_of (s : ByteArray) : s = bS s.data.toList := by
  apply ByteArray.ext
  simp [bS]
theorem ext_one {s : ByteArray} {i : Nat} (h : i < s.size) : s.extract i (i + 1) = bS [s[i]] := by
  apply ByteArray.ext
  rw [ByteArray.data_extract]
  apply Array.ext'
  rw [Array.toList_extract]
  have h' : i < s.data.toList.length := by simpa using h
  show (s.data.toList.drop i).take (i + 1 - i) = [s[i]]
  rw [List.drop_eq_getElem_cons h', show i + 1 - i = 1 by omega]
  rfl
theorem ext_drop {s : ByteArray} {i : Nat} (h : i < s.size) : s.data.toList.drop i = s[i] :: s.data.toList.drop (i + 1) := by
  have h' : i < s.data.toList.length := by simpa using h
  rw [List.drop_eq_getElem_cons h']; rfl
theorem ext_mid {s : ByteArray} {i j : Nat} : s.extract i j = bS ((s.data.toList.drop i).take (j - i)) := by
  apply ByteArray.ext
  rw [ByteArray.data_extract]
  apply Array.ext'
  rw [Array.toList_extract]
  simp [bS]

/-- a slice of texts of one's own -/
def sA (v : Value) (L : List (List UInt8)) : Asn := own 9 1 v L.length (L.map tv)

theorem infSt : (Tryd.prog.info? 9).map (fun i => (i.zero, i.size, i.bytes)) = some (some (.string ⟨#[]⟩), 1, 16) := by kernel_rfl

theorem info_parts' {T : TypeId} {z : Value} {a b : Nat} (h : (Tryd.prog.info? T).map (fun i => (i.zero, i.size, i.bytes)) = some (some z, a, b)) : ∃ i, Tryd.prog.info? T = some i ∧ i.zero = some z ∧ i.size = a ∧ i.bytes = b := by
  cases e : Tryd.prog.info? T with
  | none => rw [e] at h; cases h
  | some i =>
    rw [e] at h
    simp at h
    exact ⟨i, rfl, h.1, h.2.1, h.2.2⟩

theorem s_push {w0 w w1 : World} {S : Nat → Prop} {L : List (List UInt8)} {v v' : Value} {A : Asn} {x : List UInt8} (h : At (sA v L * A) w0 S w)
    (hown : w1.ownsRow 0 9 1 v' (L.length + 1) (L.map tv ++ [tv x]))
    (hgrow : (w.alloc (.cells #[tv x] 9)).grownBy w1 v.ownBlock)
    (hwhere : ∀ q, v'.ownBlock = some q → v.ownBlock = some q ∨ w.heap.size + 1 ≤ q) :
    At (sA v' (L ++ [x]) * A) w0 S w1 := by
  have H2 := (h.alloc (.cells #[tv x] 9)).re (B := own 9 1 v L.length (L.map tv) * (A * blk w.heap.size (.cells #[tv x] 9))) (by unfold sA; ac_rfl)
  have H3 := H2.grow hown hgrow (fun q hq => by
    rcases hwhere q hq with h | h
    · exact .inl h
    · exact .inr (by simpa using h))
  have H4 := (H3.re (B := (own 9 1 v' (L.length + 1) (L.map tv ++ [tv x]) * A) * blk w.heap.size (.cells #[tv x] 9)) (by ac_rfl)).dropr
  unfold sA
  rw [List.length_append, List.length_singleton, List.map_append]
  exact H4

theorem sA_own {w0 w : World} {S : Nat → Prop} {L : List (List UInt8)} {v : Value} {A : Asn} (h : At (sA v L * A) w0 S w) : w.ownsRow 0 9 1 v L.length (L.map tv) := At.ownIs h

/-- the cells of a slice of texts -/
def SC (w : World) (a : Option Addr) (L : List (List UInt8)) : Prop := ∀ k (h : k < L.length), ∃ g, a = some ⟨g, 0, none⟩ ∧ w.cell? ⟨g, k, none⟩ = some (tv L[k])

theorem sc_of {w0 w : World} {S : Nat → Prop} {v : Value} {L : List (List UInt8)} {C : Asn} (h : At (sA v L * C) w0 S w) : ∃ a cap, v = .slice a L.length cap ∧ SC w a L := by
  have ho := At.ownIs h
  rcases ho.2 with ⟨rfl, h2⟩ | ⟨g, cap', cur, rfl, _⟩
  · rw [h2]
    exact ⟨none, 0, rfl, fun k hk => absurd hk (by rw [h2]; omega)⟩
  · refine ⟨some ⟨g, 0, none⟩, cap', rfl, fun k hk => ⟨g, rfl, ?_⟩⟩
    have e1 := World.ownsRow.cellAt ho k (by omega)
    rw [e1, List.getElem?_map, List.getElem?_eq_getElem hk]
    rfl

theorem SC.drewN {w : World} {a : Option Addr} {L : List (List UInt8)} (h : SC w a L) (n : Nat) : SC (w.drewN n) a L := fun k hk => by
  obtain ⟨g, h1, h2⟩ := h k hk
  exact ⟨g, h1, by rw [World.cell?_drewN]; exact h2⟩

set_option maxRecDepth 100000 in
theorem same_law (L : List (List UInt8)) (hL : L.length ≤ 1000000) (a b : Option Addr) (ca cb : Nat) (w : World) (ha : SC w a L) (hb : SC w b L) :
    Calls Tryd.prog 20 #[.slice a L.length ca, .slice b L.length cb] w fun e w' => e = .returned (.bool true) ∧ ∃ m, w' = w.drewN m := by
  have HA := Lib.hid ha
  have HB := Lib.hid hb
  clear ha hb
  go_enter Tryd.func20, Tryd.ntmps20
  go_wp2
  go_loopw [5] (fun iv wr => ∃ i : Nat, iv = .int .i64 i ∧ i ≤ L.length ∧ ∃ q, wr = w.drewN q) (fun iv _ => L.length - (intOf iv).toNat)
  case atStart => exact ⟨0, rfl, Nat.zero_le _, 0, rfl⟩
  case round =>
    obtain ⟨i, rfl, hi, q, rfl⟩ := hrel
    by_cases hlt : i < L.length
    · have hltI : (i : Int) < (L.length : Int) := by omega
      obtain ⟨g, rfl, c1⟩ := HA.out i hlt
      obtain ⟨g2, rfl, c2⟩ := HB.out i hlt
      obtain ⟨t, ht⟩ : ∃ t, bS L[i] = t := ⟨_, rfl⟩
      unfold tv at c1 c2
      rw [ht] at c1 c2
      clear ht
      go_wp2_with fail
      go_quiet (fail)
      go_wp2_with fail
      exact ⟨⟨i + 1, by go_num, by omega, _, rfl⟩, by simp [intOf]; omega⟩
    · have hltI : ¬ (i : Int) < (L.length : Int) := by omega
      go_wp2
      go_ret
      exact ⟨rfl, _, rfl⟩

end Go.Proofs.YtfgdfhcefgblaaaDoor
