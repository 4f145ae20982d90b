/- Digits (layer 4): the law DigitsJoin. -/
import Derived.Test.YtfgdfhcefgblaaaDoorDgQ
namespace Go.Proofs.YtfgdfhcefgblaaaDoor
set_option linter.unusedVariables false
open Go.ChangeShapes Go.WideShapes Go.ChangeAt Go.RowKit

/-- lines put together, fields put together -/
def jL : List (List UInt8) → List UInt8
  | [] => []
  | x :: r => (x ++ [10]) ++ jL r
def jF : List (List UInt8) → List UInt8
  | [] => []
  | x :: r => ([32, 9] ++ x) ++ jF r

theorem jL_app : ∀ (a b : List (List UInt8)), jL (a ++ b) = jL a ++ jL b
  | [], b => rfl
  | x :: a, b => by show (x ++ [10]) ++ jL (a ++ b) = ((x ++ [10]) ++ jL a) ++ jL b; rw [jL_app a b]; simp
theorem jF_app : ∀ (a b : List (List UInt8)), jF (a ++ b) = jF a ++ jF b
  | [], b => rfl
  | x :: a, b => by show ([32, 9] ++ x) ++ jF (a ++ b) = (([32, 9] ++ x) ++ jF a) ++ jF b; rw [jF_app a b]; simp

theorem li_join : ∀ (r cur : List UInt8), jL (liS cur (r ++ [10])) = cur ++ (r ++ [10])
  | [], cur => by show (cur ++ [10]) ++ [] = cur ++ ([] ++ [10]); simp
  | c :: r, cur => by
    show jL (if lfB c then cur :: liS [] (r ++ [10]) else liS (cur ++ [c]) (r ++ [10])) = cur ++ (c :: (r ++ [10]))
    by_cases hc : lfB c = true
    · have h10 : c = 10 := UInt8.toNat_inj.1 (of_decide_eq_true hc)
      rw [if_pos hc, h10]
      show (cur ++ [10]) ++ jL (liS [] (r ++ [10])) = _
      rw [li_join r []]; simp
    · rw [if_neg hc, li_join r (cur ++ [c])]; simp

theorem fi_good : ∀ (r cur : List UInt8), (∀ c ∈ cur, spB c = false) → ∀ x ∈ fiS cur r, x ≠ [] ∧ ∀ c ∈ x, spB c = false
  | [], cur, h, x, hx => by
    have hx : x ∈ (if cur = [] then [] else [cur]) := hx
    by_cases hc : cur = []
    · rw [if_pos hc] at hx; cases hx
    · rw [if_neg hc] at hx
      have : x = cur := by simpa using hx
      subst this; exact ⟨hc, h⟩
  | c :: r, cur, h, x, hx => by
    have hx : x ∈ (if spB c then (if cur = [] then fiS [] r else cur :: fiS [] r) else fiS (cur ++ [c]) r) := hx
    by_cases hc : spB c = true
    · rw [if_pos hc] at hx
      by_cases he : cur = []
      · rw [if_pos he] at hx
        exact fi_good r [] (fun c hc => by cases hc) x hx
      · rw [if_neg he] at hx
        rcases List.mem_cons.1 hx with e | hx
        · subst e; exact ⟨he, h⟩
        · exact fi_good r [] (fun c hc => by cases hc) x hx
    · rw [if_neg hc] at hx
      refine fi_good r (cur ++ [c]) (fun d hd => ?_) x hx
      rcases List.mem_append.1 hd with hd | hd
      · exact h d hd
      · have : d = c := by simpa using hd
        subst this
        cases e : spB d with
        | true => exact absurd e hc
        | false => rfl

theorem fi_run : ∀ (x cur J : List UInt8), (∀ c ∈ x, spB c = false) → fiS cur (x ++ J) = fiS (cur ++ x) J
  | [], cur, J, _ => by rw [List.append_nil]; rfl
  | c :: x, cur, J, h => by
    show (if spB c then (if cur = [] then fiS [] (x ++ J) else cur :: fiS [] (x ++ J)) else fiS (cur ++ [c]) (x ++ J)) = _
    rw [h c (by simp)]
    show fiS (cur ++ [c]) (x ++ J) = _
    rw [fi_run x (cur ++ [c]) J (fun d hd => h d (by simp [hd]))]; simp

theorem fi_join : ∀ (M : List (List UInt8)) (cur : List UInt8), (∀ x ∈ M, x ≠ [] ∧ ∀ c ∈ x, spB c = false) → fiS cur (jF M) = (if cur = [] then M else cur :: M)
  | [], cur, _ => rfl
  | x :: M, cur, h => by
    obtain ⟨h1, h2⟩ := h x (by simp)
    have e : fiS [] (x ++ jF M) = x :: M := by
      rw [fi_run x [] (jF M) h2, fi_join M _ (fun y hy => h y (by simp [hy])), List.nil_append, if_neg h1]
    show (if cur = [] then fiS [] (x ++ jF M) else cur :: fiS [] (x ++ jF M)) = _
    rw [e]

theorem fi_jlen : ∀ (r cur : List UInt8), (jF (fiS cur r)).length ≤ cur.length + 3 * r.length + 2
  | [], cur => by
    show (jF (if cur = [] then [] else [cur])).length ≤ _
    by_cases h : cur = []
    · rw [if_pos h]; exact Nat.zero_le _
    · rw [if_neg h]; show (([32, 9] ++ cur) ++ []).length ≤ _; simp
  | c :: r, cur => by
    show (jF (if spB c then (if cur = [] then fiS [] r else cur :: fiS [] r) else fiS (cur ++ [c]) r)).length ≤ _
    have h1 := fi_jlen r []
    have h2 := fi_jlen r (cur ++ [c])
    by_cases hc : spB c = true
    · rw [if_pos hc]
      by_cases h : cur = []
      · rw [if_pos h]; simp at h1 ⊢; omega
      · rw [if_neg h]; show (([32, 9] ++ cur) ++ jF (fiS [] r)).length ≤ _; simp at h1 ⊢; omega
    · rw [if_neg hc]; simp at h2 ⊢; omega

theorem take_one {L : List (List UInt8)} {k : Nat} (h : k < L.length) : L.take (k + 1) = L.take k ++ [L[k]] := by rw [List.take_succ_eq_append_getElem h]

theorem jL_step {L : List (List UInt8)} {k : Nat} (h : k < L.length) : bS (jL (L.take k)) ++ (bS L[k] ++ ⟨#[10]⟩) = bS (jL (L.take (k + 1))) := by
  rw [show (⟨#[10]⟩ : ByteArray) = bS [10] from rfl, bS_app, bS_app, take_one h, jL_app]
  congr 2
  show _ = (L[k] ++ [10]) ++ []
  rw [List.append_nil]
theorem jF_step {L : List (List UInt8)} {k : Nat} (h : k < L.length) : bS (jF (L.take k)) ++ (⟨#[32, 9]⟩ ++ bS L[k]) = bS (jF (L.take (k + 1))) := by
  rw [show (⟨#[32, 9]⟩ : ByteArray) = bS [32, 9] from rfl, bS_app, bS_app, take_one h, jF_app]
  congr 2
  show _ = ([32, 9] ++ L[k]) ++ []
  rw [List.append_nil]

theorem jL_part {L : List (List UInt8)} (k : Nat) : (jL (L.take k)).length ≤ (jL L).length := by
  conv => rhs; rw [← List.take_append_drop k L]
  rw [jL_app, List.length_append]; omega
theorem jF_part {L : List (List UInt8)} (k : Nat) : (jF (L.take k)).length ≤ (jF L).length := by
  conv => rhs; rw [← List.take_append_drop k L]
  rw [jF_app, List.length_append]; omega
theorem jL_elt {L : List (List UInt8)} {k : Nat} (h : k < L.length) : (L[k]).length ≤ (jL L).length := by
  have h1 := jL_part (L := L) (k + 1)
  rw [take_one h, jL_app, List.length_append] at h1
  have : (jL [L[k]]).length = L[k].length + 1 := by show ((L[k] ++ [10]) ++ []).length = _; simp
  omega
theorem jF_elt {L : List (List UInt8)} {k : Nat} (h : k < L.length) : (L[k]).length ≤ (jF L).length := by
  have h1 := jF_part (L := L) (k + 1)
  rw [take_one h, jF_app, List.length_append] at h1
  have : (jF [L[k]]).length = L[k].length + 2 := by show (([32, 9] ++ L[k]) ++ []).length = _; simp
  omega

/-- what a loop over a list puts together -/
structure Put1 (L : List (List UInt8)) (f : ByteArray → ByteArray) (W : Nat → ByteArray) (fin : ByteArray) : Prop where
  zero : W 0 = ⟨#[]⟩
  on : ∀ k (h : k < L.length), W k ++ f (bS L[k]) = W (k + 1)
  fin : W L.length = fin
  size : ∀ k, (W k).size ≤ 100000
  elt : ∀ k (h : k < L.length), (bS L[k]).size ≤ 100000

theorem sc_at {w0 w : World} {S : Nat → Prop} {a : Option Addr} {c : Nat} {L : List (List UInt8)} {A : Asn} (h : Hid (At (sA (.slice a L.length c) L * A) w0 S w)) : Hid (SC w a L) := Lib.hid (by
  obtain ⟨a', c', e, h1⟩ := sc_of h.out
  cases e; exact h1)

theorem nl_data (s : ByteArray) : (s ++ (⟨#[10]⟩ : ByteArray)).data.toList = s.data.toList ++ [10] := by
  rw [ByteArray.data_append]; simp

set_option maxRecDepth 100000 in
set_option maxHeartbeats 4000000 in
theorem djoin_law (s : ByteArray) (hss : s.size ≤ maxLen) (w : World) (hT : PowTab w) : Calls Tryd.prog 6 #[.string s] w fun e w' => e = .returned (.bool true) ∧ Below w.heap.size w w' := by
  have E := ends_of hT
  have A0 := Lib.hid (At.emp w)
  unfold maxLen at hss
  clear hT
  by_cases h : 2000 < s.size
  · have hI : (2000 : Int) < (s.size : Int) := by omega
    clear h
    go_enter Tryd.func6, Tryd.ntmps6
    go_wp2_with (go_at_call 7; refine (E.out _ _ (by assumption)).mono ?_; rintro e1 w2 ⟨rfl, hb⟩)
    go_ret
    exact ⟨rfl, hb⟩
  · have hI : ¬ (2000 : Int) < (s.size : Int) := by omega
    have hlen : s.data.toList.length = s.size := by simp
    obtain ⟨sn, hsn⟩ : ∃ sn, s ++ (⟨#[10]⟩ : ByteArray) = sn := ⟨_, rfl⟩
    have hsd : sn.data.toList = s.data.toList ++ [10] := by rw [← hsn]; exact nl_data s
    have hsz : sn.size ≤ 2001 := by
      have : sn.data.toList.length = sn.size := by simp
      rw [hsd, List.length_append] at this; simp at this; omega
    have L1 := li_size sn
    have L2 := fi_size s
    obtain ⟨bl, hbl⟩ : ∃ bl, bS (jF (fiS [] s.data.toList)) = bl := ⟨_, rfl⟩
    have hbd : bl.data.toList = jF (fiS [] s.data.toList) := by rw [← hbl]; simp [bS]
    have hbz : bl.size ≤ 10000 := by
      rw [← hbl, bS_size]
      have := fi_jlen s.data.toList []
      simp at this; omega
    have hgood := fi_good s.data.toList [] (fun c hc => by cases hc)
    have hback : fiS [] bl.data.toList = fiS [] s.data.toList := by rw [hbd, fi_join _ [] hgood]; rfl
    have D1 : Hid (Lists 21 sn (liS [] sn.data.toList)) := lists_of fun w0 S A w hA => dg_lines sn (by omega) hA
    have D2 : Hid (Lists 23 s (fiS [] s.data.toList)) := lists_of fun w0 S A w hA => dg_fields s (by omega) hA
    have D3 : Hid (Lists 23 bl (fiS [] bl.data.toList)) := lists_of fun w0 S A w hA => dg_fields bl (by omega) hA
    rw [hback] at D3
    have hj1 : jL (liS [] sn.data.toList) = sn.data.toList := by rw [hsd, li_join]; rfl
    have P1 : Hid (Put1 (liS [] sn.data.toList) (fun x => x ++ ⟨#[10]⟩) (fun k => bS (jL ((liS [] sn.data.toList).take k))) sn) := Lib.hid ⟨rfl, fun k h => jL_step h, by
        rw [List.take_length, hj1]; exact (bS_of sn).symm, fun k => by
        rw [bS_size]
        have := jL_part (L := liS [] sn.data.toList) k
        rw [hj1] at this; simp at this; omega, fun k h => by
        rw [bS_size]
        have := jL_elt h
        rw [hj1] at this; simp at this; omega⟩
    have hj2 : (jF (fiS [] s.data.toList)).length ≤ 10000 := by
      have := fi_jlen s.data.toList []
      simp at this; omega
    have P2 : Hid (Put1 (fiS [] s.data.toList) (fun x => ⟨#[32, 9]⟩ ++ x) (fun k => bS (jF ((fiS [] s.data.toList).take k))) bl) := Lib.hid ⟨rfl, fun k h => jF_step h, by
        rw [List.take_length, hbl], fun k => by
        rw [bS_size]
        have := jF_part (L := fiS [] s.data.toList) k
        omega, fun k h => by
        rw [bS_size]
        have := jF_elt h
        omega⟩
    obtain ⟨U, hU⟩ : ∃ U, (fun k => bS (jL ((liS [] sn.data.toList).take k))) = U := ⟨_, rfl⟩
    obtain ⟨V, hV⟩ : ∃ V, (fun k => bS (jF ((fiS [] s.data.toList).take k))) = V := ⟨_, rfl⟩
    rw [hU] at P1
    rw [hV] at P2
    clear hU hV hj1 hj2 hgood hback hbd hbl hsd hlen
    generalize liS [] sn.data.toList = L at *
    generalize fiS [] s.data.toList = M at *
    have S2 := Lib.hid (same_at (L := M) (by omega))
    have U0 := P1.out.zero
    have V0 := P2.out.zero
    clear h
    go_enter Tryd.func6, Tryd.ntmps6
    go_wp2_with (go_at_call 21; with_reducible refine (D1.out _ _ _ _ (by assumption)).mono ?_; rintro e1 w1 ⟨a1, c1, rfl, A1⟩)
    have C1 := sc_at A1
    go_loop [3, 6, 17] (fun u _ v => ∃ k : Nat, u = .string (U k) ∧ v = .int .i64 k ∧ k ≤ L.length) (fun _ _ v => L.length - (intOf v).toNat)
    case atStart => exact ⟨0, by rw [U0], rfl, Nat.zero_le _⟩
    case round =>
      obtain ⟨k, rfl, rfl, hk⟩ := hrel
      by_cases hlt : k < L.length
      · have hltI : (k : Int) < (L.length : Int) := by omega
        obtain ⟨g, rfl, c⟩ := C1.out k hlt
        have X := Lib.hid (P1.out.on k hlt)
        have z1 := P1.out.size k
        have z2 := P1.out.elt k hlt
        unfold tv at c
        obtain ⟨t, ht⟩ : ∃ t, U k = t := ⟨_, rfl⟩
        obtain ⟨x, hx⟩ : ∃ x, bS L[k] = x := ⟨_, rfl⟩
        rw [ht] at X z1 ⊢
        rw [hx] at X z2 c
        have z3 : (x ++ (⟨#[10]⟩ : ByteArray)).size ≤ 100001 := by rw [ByteArray.size_append]; show x.size + 1 ≤ _; omega
        clear ht hx U0 V0
        go_wp2_with fail
        exact ⟨⟨k + 1, congrArg Value.string X.out, by go_num, by omega⟩, by simp [intOf]; omega⟩
      · have hltI : ¬ (k : Int) < (L.length : Int) := by omega
        have hkl : k = L.length := by omega
        have UF : U k = sn := by rw [hkl]; exact P1.out.fin
        rw [UF]
        clear UF hkl U0
        go_wp2_with (go_at_call 23; with_reducible refine (D2.out _ _ _ _ (by assumption)).mono ?_; rintro e2 w2 ⟨a2, c2, rfl, A2⟩)
        have C2 := sc_at A2
        go_loop [4, 8, 29] (fun u _ v => ∃ k : Nat, u = .string (V k) ∧ v = .int .i64 k ∧ k ≤ M.length) (fun _ _ v => M.length - (intOf v).toNat)
        case atStart => exact ⟨0, by rw [V0], rfl, Nat.zero_le _⟩
        case round =>
          obtain ⟨j, rfl, rfl, hj⟩ := hrel
          by_cases hlt : j < M.length
          · have hltJ : (j : Int) < (M.length : Int) := by omega
            obtain ⟨g, rfl, c⟩ := C2.out j hlt
            have X := Lib.hid (P2.out.on j hlt)
            have z1 := P2.out.size j
            have z2 := P2.out.elt j hlt
            unfold tv at c
            obtain ⟨t, ht⟩ : ∃ t, V j = t := ⟨_, rfl⟩
            obtain ⟨x, hx⟩ : ∃ x, bS M[j] = x := ⟨_, rfl⟩
            rw [ht] at X z1 ⊢
            rw [hx] at X z2 c
            have z3 : ((⟨#[32, 9]⟩ : ByteArray) ++ x).size ≤ 100002 := by rw [ByteArray.size_append]; show 2 + x.size ≤ _; omega
            clear ht hx V0
            go_wp2_with fail
            exact ⟨⟨j + 1, congrArg Value.string X.out, by go_num, by omega⟩, by simp [intOf]; omega⟩
          · have hltJ : ¬ (j : Int) < (M.length : Int) := by omega
            have hkl : j = M.length := by omega
            have VF : V j = bl := by rw [hkl]; exact P2.out.fin
            rw [VF]
            clear VF hkl V0
            go_wp2_with (first
              | (go_at_call 23; with_reducible refine (D3.out _ _ _ _ (by assumption)).mono ?_; rintro e3 w3 ⟨a3, c3, rfl, A3⟩)
              | (go_at_call 23; with_reducible refine (D2.out _ _ _ _ (by assumption)).mono ?_; rintro e4 w4 ⟨a4, c4, rfl, A4⟩)
              | (go_at_call 20; with_reducible refine (S2.out _ _ _ _ _ _ _ _ (by assumption)).mono ?_; rintro e5 w5 ⟨rfl, A5⟩)
              | (go_at_call 7; refine (E.out _ _ (by assumption)).mono ?_; rintro e6 w6 ⟨rfl, hb⟩))
            go_ret
            exact ⟨rfl, hb⟩

end Go.Proofs.YtfgdfhcefgblaaaDoor
