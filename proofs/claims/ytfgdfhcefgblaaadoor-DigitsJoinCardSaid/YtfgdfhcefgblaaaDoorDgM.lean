/- Digits (layer 4): the document's lines and fields, walked. -/
import Derived.Test.YtfgdfhcefgblaaaDoorDgL
namespace Go.Proofs.YtfgdfhcefgblaaaDoor
set_option linter.unusedVariables false
open Go.ChangeShapes Go.WideShapes Go.ChangeAt Go.RowKit

theorem lit_nw (wr : World) (x : Value) : ∀ j u, [x][j]? = some u → (wr.alloc (.cells #[x] 9)).cell? ((⟨wr.heap.size, 0, none⟩ : Addr).add j) = some u := by
  intro j u hj
  match j, hj with
  | 0, hj => simp at hj; subst hj; simp [Addr.add]

theorem li_len : ∀ (r cur : List UInt8), (liS cur r).length ≤ r.length + 1
  | [], cur => by show (if cur = [] then [] else [cur]).length ≤ _; split <;> simp
  | c :: r, cur => by
    show (if lfB c then cur :: liS [] r else liS (cur ++ [c]) r).length ≤ _
    have h1 := li_len r []
    have h2 := li_len r (cur ++ [c])
    split <;> simp <;> omega

theorem fi_len : ∀ (r cur : List UInt8), (fiS cur r).length ≤ r.length + 1
  | [], cur => by show (if cur = [] then [] else [cur]).length ≤ _; split <;> simp
  | c :: r, cur => by
    show (if spB c then (if cur = [] then fiS [] r else cur :: fiS [] r) else fiS (cur ++ [c]) r).length ≤ _
    have h1 := fi_len r []
    have h2 := fi_len r (cur ++ [c])
    split
    · split <;> simp <;> omega
    · simp; omega

/-- where the lines stand -/
def LiI (s : ByteArray) (L : List (List UInt8)) (now : List UInt8) (i : Nat) : Prop := L ++ liS now (s.data.toList.drop i) = liS [] s.data.toList ∧ now.length ≤ i ∧ L.length ≤ i
def FiI (s : ByteArray) (L : List (List UInt8)) (now : List UInt8) (i : Nat) : Prop := L ++ fiS now (s.data.toList.drop i) = fiS [] s.data.toList ∧ now.length ≤ i ∧ L.length ≤ i

theorem LiI.lf {s : ByteArray} {L : List (List UInt8)} {now : List UInt8} {i : Nat} (h : LiI s L now i) (hi : i < s.size) (hc : s[i].toNat = 10) : LiI s (L ++ [now]) [] (i + 1) := by
  obtain ⟨h1, h2, h3⟩ := h
  rw [ext_drop hi] at h1
  have hb : lfB s[i] = true := decide_eq_true hc
  refine ⟨?_, Nat.zero_le _, by simp; omega⟩
  rw [← h1, List.append_assoc]
  show _ = L ++ (if lfB s[i] then now :: liS [] _ else _)
  rw [if_pos hb]; rfl

theorem LiI.on {s : ByteArray} {L : List (List UInt8)} {now : List UInt8} {i : Nat} (h : LiI s L now i) (hi : i < s.size) (hc : s[i].toNat ≠ 10) : LiI s L (now ++ [s[i]]) (i + 1) := by
  obtain ⟨h1, h2, h3⟩ := h
  rw [ext_drop hi] at h1
  have hb : lfB s[i] = false := decide_eq_false hc
  refine ⟨?_, by simp; omega, by omega⟩
  rw [← h1]
  show _ = L ++ (if lfB s[i] then _ else liS (now ++ [s[i]]) _)
  rw [hb]; rfl

theorem LiI.fin {s : ByteArray} {L : List (List UInt8)} {now : List UInt8} {i : Nat} (h : LiI s L now i) (hi : i = s.size) : (now = [] → L = liS [] s.data.toList) ∧ (now ≠ [] → L ++ [now] = liS [] s.data.toList) := by
  obtain ⟨h1, h2, h3⟩ := h
  rw [show s.data.toList.drop i = [] from List.drop_eq_nil_of_le (by rw [hi]; exact Nat.le_of_eq (by simp))] at h1
  constructor
  · rintro rfl; rw [← h1]; show L = L ++ []; rw [List.append_nil]
  · intro hn; rw [← h1]; show L ++ [now] = L ++ (if now = [] then [] else [now]); rw [if_neg hn]

theorem FiI.sp {s : ByteArray} {L : List (List UInt8)} {now : List UInt8} {i : Nat} (h : FiI s L now i) (hi : i < s.size) (hc : s[i].toNat = 32 ∨ s[i].toNat = 9) : (now = [] → FiI s L [] (i + 1)) ∧ (now ≠ [] → FiI s (L ++ [now]) [] (i + 1)) := by
  obtain ⟨h1, h2, h3⟩ := h
  rw [ext_drop hi] at h1
  have hb : spB s[i] = true := decide_eq_true hc
  have h1 : L ++ (if spB s[i] then (if now = [] then fiS [] (s.data.toList.drop (i + 1)) else now :: fiS [] (s.data.toList.drop (i + 1))) else fiS (now ++ [s[i]]) (s.data.toList.drop (i + 1))) = _ := h1
  rw [if_pos hb] at h1
  constructor
  · rintro rfl; rw [if_pos rfl] at h1; exact ⟨h1, Nat.zero_le _, by omega⟩
  · intro hn; rw [if_neg hn] at h1
    exact ⟨by rw [← h1, List.append_assoc]; rfl, Nat.zero_le _, by simp; omega⟩

theorem FiI.on {s : ByteArray} {L : List (List UInt8)} {now : List UInt8} {i : Nat} (h : FiI s L now i) (hi : i < s.size) (hc : ¬ (s[i].toNat = 32 ∨ s[i].toNat = 9)) : FiI s L (now ++ [s[i]]) (i + 1) := by
  obtain ⟨h1, h2, h3⟩ := h
  rw [ext_drop hi] at h1
  have hb : spB s[i] = false := decide_eq_false hc
  refine ⟨?_, by simp; omega, by omega⟩
  rw [← h1]
  show _ = L ++ (if spB s[i] then _ else fiS (now ++ [s[i]]) _)
  rw [hb]; rfl

theorem FiI.fin {s : ByteArray} {L : List (List UInt8)} {now : List UInt8} {i : Nat} (h : FiI s L now i) (hi : i = s.size) : (now = [] → L = fiS [] s.data.toList) ∧ (now ≠ [] → L ++ [now] = fiS [] s.data.toList) := by
  obtain ⟨h1, h2, h3⟩ := h
  rw [show s.data.toList.drop i = [] from List.drop_eq_nil_of_le (by rw [hi]; exact Nat.le_of_eq (by simp))] at h1
  constructor
  · rintro rfl; rw [← h1]; show L = L ++ []; rw [List.append_nil]
  · intro hn; rw [← h1]; show L ++ [now] = L ++ (if now = [] then [] else [now]); rw [if_neg hn]

theorem ne_empty {l : List UInt8} (h : l ≠ []) : (bS l).toList.isEmpty = false ∧ 0 < (bS l).size := by
  rw [ByteArray.toList_eq]
  refine ⟨?_, by rw [bS_size]; exact List.length_pos_iff.2 h⟩
  cases l with
  | nil => exact absurd rfl h
  | cons c r => rfl

/-- with the last round -/
def FiJ (s : ByteArray) (L : List (List UInt8)) (now : List UInt8) (i : Nat) : Prop := (i ≤ s.size ∧ FiI s L now i) ∨ (i = s.size + 1 ∧ L = fiS [] s.data.toList)

set_option maxRecDepth 100000 in
set_option maxHeartbeats 4000000 in
theorem r4_lines (s : ByteArray) (hs : s.size ≤ 1000000) {w0 w : World} {S : Nat → Prop} {A : Asn} (h : At A w0 S w) :
    Calls Tryd.prog 22 #[.string s] w fun e w' => ∃ v, e = .returned v ∧ Hid (At (sA v (liS [] s.data.toList) * A) w0 S w') := by
  have H0 : Hid (LiI s [] [] 0) := Lib.hid ⟨rfl, Nat.le_refl _, Nat.le_refl _⟩
  have A0 : Hid (At (sA (.slice none 0 0) [] * A) w0 S w) := Lib.hid (h.own_nil _ _)
  obtain ⟨i0, hi, hz0, hz1', hz2⟩ := info_parts' infSt
  have HI := Lib.hid hi
  have HZ0 := Lib.hid hz0
  have HZ1 := Lib.hid hz1'
  have HZ2 := Lib.hid hz2
  clear hi hz0 hz1' hz2 h
  go_enter Tryd.func22, Tryd.ntmps22
  go_wp2
  go_loopw [3, 4, 5] (fun ov sv iv wr => ∃ (L : List (List UInt8)) (now : List UInt8) (i : Nat), sv = .string (bS now) ∧ iv = .int .i64 i ∧ i ≤ s.size ∧ Hid (LiI s L now i) ∧ Hid (At (sA ov L * A) w0 S wr)) (fun _ _ iv _ => s.size - (intOf iv).toNat)
  case atStart => exact ⟨[], [], 0, by rw [bS_nil], rfl, Nat.zero_le _, H0, A0⟩
  case round =>
    clear H0 A0
    obtain ⟨L, now, i, rfl, rfl, hi, HL, HA⟩ := hrel
    obtain ⟨_, l1, l2⟩ := HL.out
    by_cases hlt : i < s.size
    · have hltI : (i : Int) < (s.size : Int) := by omega
      by_cases hc : s[i].toNat = 10
      · have HL2 := Lib.hid (HL.out.lf hlt hc)
        have hcI : ((s[i].toNat : Int) == 10) = true := beq_iff_eq.2 (by omega)
        have HO := Lib.hid (sA_own HA.out)
        have PU := Lib.hid (fun v' w1 => s_push (w1 := w1) (v' := v') (x := now) HA.out)
        unfold tv at PU
        obtain ⟨t, ht⟩ : ∃ t, bS now = t := ⟨_, rfl⟩
        rw [ht] at PU ⊢
        obtain ⟨c0, hc0⟩ : ∃ c0, s[i].toNat = c0 := ⟨_, rfl⟩
        rw [hc0] at hcI
        clear HA HL hc ht
        go_wp2_with (at_builtin; refine wpList_append_sep _ rfl _ _ 38 rfl 0 9 i0 (.string ⟨#[]⟩) 1 16 Tryd.underlying38 HI.out HZ0.out HZ1.out HZ2.out rfl (by decide) _ _ _ rfl (World.ownsRow.alloc HO.out _) ⟨wr.heap.size, 0, none⟩ 1 1 [.string t] rfl rfl ?c1 ?c2 ?c3 ?c4 ?c5 ?c6 ?_)
        try (case c1 => exact lit_nw wr _)
        try (case c2 => simp [Value.oneCell'])
        try (case c3 => unfold maxLen; omega)
        try (case c4 => omega)
        try (case c5 => exact Nat.zero_le _)
        try (case c6 => omega)
        intro pg pc pw hown hgrow hwhere
        have A1 := Lib.hid (PU.out _ _ hown hgrow (fun q hq => by cases hq; simpa using hwhere))
        clear hown hgrow hwhere PU HO
        go_wp2_with fail
        exact ⟨⟨L ++ [now], [], i + 1, by rw [bS_nil], by go_num, by omega, HL2, A1⟩, by simp [intOf]; omega⟩
      · have HL2 := Lib.hid (HL.out.on hlt hc)
        have hcI : ((s[i].toNat : Int) == 10) = false := beq_eq_false_iff_ne.2 (by omega)
        have hsz : (bS now).size ≤ 1000000 := by rw [bS_size]; omega
        have X : Hid (bS now ++ s.extract i (i + 1) = bS (now ++ [s[i]])) := Lib.hid (by rw [ext_one hlt, bS_app])
        obtain ⟨t, ht⟩ : ∃ t, bS now = t := ⟨_, rfl⟩
        rw [ht] at hsz X ⊢
        obtain ⟨c0, hc0⟩ : ∃ c0, s[i].toNat = c0 := ⟨_, rfl⟩
        rw [hc0] at hcI
        clear HL hc ht
        go_wp2_with fail
        exact ⟨⟨L, now ++ [s[i]], i + 1, congrArg Value.string X.out, by go_num, by omega, HL2, HA⟩, by simp [intOf]; omega⟩
    · have hltI : ¬ (i : Int) < (s.size : Int) := by omega
      obtain ⟨F1, F2⟩ := HL.out.fin (by omega)
      by_cases hn : now = []
      · subst hn
        have F := F1 rfl
        subst F
        rw [bS_nil]
        clear F1 F2 HL
        go_wp2
        go_ret
        exact ⟨_, rfl, HA⟩
      · have F := F2 hn
        obtain ⟨e1, e2⟩ := ne_empty hn
        have HO := Lib.hid (sA_own HA.out)
        have PU := Lib.hid (fun v' w1 => s_push (w1 := w1) (v' := v') (x := now) HA.out)
        rw [F] at PU
        unfold tv at PU
        obtain ⟨t, ht⟩ : ∃ t, bS now = t := ⟨_, rfl⟩
        rw [ht] at PU e1 e2 ⊢
        clear F1 F2 HL ht F HA
        go_wp2_with (at_builtin; refine wpList_append_sep _ rfl _ _ 38 rfl 0 9 i0 (.string ⟨#[]⟩) 1 16 Tryd.underlying38 HI.out HZ0.out HZ1.out HZ2.out rfl (by decide) _ _ _ rfl (World.ownsRow.alloc HO.out _) ⟨wr.heap.size, 0, none⟩ 1 1 [.string t] rfl rfl ?c1 ?c2 ?c3 ?c4 ?c5 ?c6 ?_)
        try (case c1 => exact lit_nw wr _)
        try (case c2 => simp [Value.oneCell'])
        try (case c3 => unfold maxLen; omega)
        try (case c4 => omega)
        try (case c5 => exact Nat.zero_le _)
        try (case c6 => omega)
        intro pg pc pw hown hgrow hwhere
        have A1 := Lib.hid (PU.out _ _ hown hgrow (fun q hq => by cases hq; simpa using hwhere))
        clear hown hgrow hwhere PU HO
        go_wp2_with fail
        go_ret
        exact ⟨_, rfl, A1⟩

set_option maxRecDepth 100000 in
set_option maxHeartbeats 8000000 in
theorem r4_fields (s : ByteArray) (hs : s.size ≤ 1000000) {w0 w : World} {S : Nat → Prop} {A : Asn} (h : At A w0 S w) :
    Calls Tryd.prog 24 #[.string s] w fun e w' => ∃ v, e = .returned v ∧ Hid (At (sA v (fiS [] s.data.toList) * A) w0 S w') := by
  have H0 : Hid (FiJ s [] [] 0) := Lib.hid (.inl ⟨Nat.zero_le _, rfl, Nat.le_refl _, Nat.le_refl _⟩)
  have A0 : Hid (At (sA (.slice none 0 0) [] * A) w0 S w) := Lib.hid (h.own_nil _ _)
  obtain ⟨i0, hi, hz0, hz1', hz2⟩ := info_parts' infSt
  have HI := Lib.hid hi
  have HZ0 := Lib.hid hz0
  have HZ1 := Lib.hid hz1'
  have HZ2 := Lib.hid hz2
  clear hi hz0 hz1' hz2 h
  go_enter Tryd.func24, Tryd.ntmps24
  go_wp2
  go_loopw [3, 4, 5] (fun ov sv iv wr => ∃ (L : List (List UInt8)) (now : List UInt8) (i : Nat), sv = .string (bS now) ∧ iv = .int .i64 i ∧ i ≤ s.size + 1 ∧ Hid (FiJ s L now i) ∧ Hid (At (sA ov L * A) w0 S wr)) (fun _ _ iv _ => s.size + 1 - (intOf iv).toNat)
  case atStart => exact ⟨[], [], 0, by rw [bS_nil], rfl, Nat.zero_le _, H0, A0⟩
  case round =>
    clear H0 A0
    obtain ⟨L, now, i, rfl, rfl, hi, HJ, HA⟩ := hrel
    rcases HJ.out with ⟨hle, HLo⟩ | ⟨hgt, hlast⟩
    · have HL := Lib.hid HLo
      obtain ⟨_, l1, l2⟩ := HLo
      have hleI : (i : Int) ≤ (s.size : Int) := by omega
      clear HJ
      by_cases hon : ∃ h : i < s.size, ¬ (s[i].toNat = 32 ∨ s[i].toNat = 9)
      · obtain ⟨hlt, hc⟩ := hon
        have hltI : (i : Int) < (s.size : Int) := by omega
        have HL2 : Hid (FiJ s L (now ++ [s[i]]) (i + 1)) := Lib.hid (.inl ⟨by omega, HL.out.on hlt hc⟩)
        have hcI : ((s[i].toNat : Int) != 32) = true := bne_iff_ne.2 (by omega)
        have hcJ : ((s[i].toNat : Int) != 9) = true := bne_iff_ne.2 (by omega)
        have hsz : (bS now).size ≤ 1000000 := by rw [bS_size]; omega
        have X : Hid (bS now ++ s.extract i (i + 1) = bS (now ++ [s[i]])) := Lib.hid (by rw [ext_one hlt, bS_app])
        obtain ⟨t, ht⟩ : ∃ t, bS now = t := ⟨_, rfl⟩
        rw [ht] at hsz X ⊢
        obtain ⟨c0, hc0⟩ : ∃ c0, s[i].toNat = c0 := ⟨_, rfl⟩
        rw [hc0] at hcI hcJ
        clear HL hc ht
        go_wp2_with fail
        exact ⟨⟨L, now ++ [s[i]], i + 1, congrArg Value.string X.out, by go_num, by omega, HL2, HA⟩, by simp [intOf]; omega⟩
      · have HE : Hid ((now = [] → FiJ s L [] (i + 1)) ∧ (now ≠ [] → FiJ s (L ++ [now]) [] (i + 1))) := Lib.hid (by
          by_cases hlt : i < s.size
          · have hc : s[i].toNat = 32 ∨ s[i].toNat = 9 := Decidable.byContradiction fun h => hon ⟨hlt, h⟩
            obtain ⟨p1, p2⟩ := HL.out.sp hlt hc
            exact ⟨fun e => .inl ⟨by omega, p1 e⟩, fun e => .inl ⟨by omega, p2 e⟩⟩
          · obtain ⟨p1, p2⟩ := HL.out.fin (by omega)
            exact ⟨fun e => .inr ⟨by omega, p1 e⟩, fun e => .inr ⟨by omega, p2 e⟩⟩)
        have two : ¬ (i : Int) < (s.size : Int) ∨ ∃ h : i < s.size, (i : Int) < (s.size : Int) ∧ (((s[i].toNat : Int) != 32) = false ∨ ((s[i].toNat : Int) != 32) = true ∧ ((s[i].toNat : Int) != 9) = false) := by
          by_cases hlt : i < s.size
          · right
            have hc : s[i].toNat = 32 ∨ s[i].toNat = 9 := Decidable.byContradiction fun h => hon ⟨hlt, h⟩
            refine ⟨hlt, by omega, ?_⟩
            rcases hc with h | h
            · exact .inl (bne_eq_false_iff_eq.2 (by omega))
            · exact .inr ⟨bne_iff_ne.2 (by omega), bne_eq_false_iff_eq.2 (by omega)⟩
          · left; omega
        clear HL hon
        by_cases hn : now = []
        · subst hn
          have H2 := Lib.hid (HE.out.1 rfl)
          rw [bS_nil]
          clear HE
          rcases two with hltI | ⟨hlt, hltI, hc⟩
          · go_wp2_with fail
            exact ⟨⟨L, [], i + 1, by rw [bS_nil], by go_num, by omega, H2, HA⟩, by simp [intOf]; omega⟩
          · obtain ⟨c0, hc0⟩ : ∃ c0, s[i].toNat = c0 := ⟨_, rfl⟩
            rw [hc0] at hc
            rcases hc with hc | ⟨hc, hd⟩
            all_goals
              go_wp2_with fail
              exact ⟨⟨L, [], i + 1, by rw [bS_nil], by go_num, by omega, H2, HA⟩, by simp [intOf]; omega⟩
        · have H2 := Lib.hid (HE.out.2 hn)
          obtain ⟨e1, e2⟩ := ne_empty hn
          have HO := Lib.hid (sA_own HA.out)
          have PU := Lib.hid (fun v' w1 => s_push (w1 := w1) (v' := v') (x := now) HA.out)
          unfold tv at PU
          obtain ⟨t, ht⟩ : ∃ t, bS now = t := ⟨_, rfl⟩
          rw [ht] at PU e1 e2 ⊢
          clear HE ht HA
          rcases two with hltI | ⟨hlt, hltI, hc⟩
          · go_wp2_with (at_builtin; refine wpList_append_sep _ rfl _ _ 38 rfl 0 9 i0 (.string ⟨#[]⟩) 1 16 Tryd.underlying38 HI.out HZ0.out HZ1.out HZ2.out rfl (by decide) _ _ _ rfl (World.ownsRow.alloc HO.out _) ⟨wr.heap.size, 0, none⟩ 1 1 [.string t] rfl rfl ?c1 ?c2 ?c3 ?c4 ?c5 ?c6 ?_)
            try (case c1 => exact lit_nw wr _)
            try (case c2 => simp [Value.oneCell'])
            try (case c3 => unfold maxLen; omega)
            try (case c4 => omega)
            try (case c5 => exact Nat.zero_le _)
            try (case c6 => omega)
            intro pg pc pw hown hgrow hwhere
            have A1 := Lib.hid (PU.out _ _ hown hgrow (fun q hq => by cases hq; simpa using hwhere))
            clear hown hgrow hwhere PU HO
            go_wp2_with fail
            exact ⟨⟨L ++ [now], [], i + 1, by rw [bS_nil], by go_num, by omega, H2, A1⟩, by simp [intOf]; omega⟩
          · obtain ⟨c0, hc0⟩ : ∃ c0, s[i].toNat = c0 := ⟨_, rfl⟩
            rw [hc0] at hc
            rcases hc with hc | ⟨hc, hd⟩
            · go_wp2_with (at_builtin; refine wpList_append_sep _ rfl _ _ 38 rfl 0 9 i0 (.string ⟨#[]⟩) 1 16 Tryd.underlying38 HI.out HZ0.out HZ1.out HZ2.out rfl (by decide) _ _ _ rfl (World.ownsRow.alloc HO.out _) ⟨wr.heap.size, 0, none⟩ 1 1 [.string t] rfl rfl ?c1 ?c2 ?c3 ?c4 ?c5 ?c6 ?_)
              try (case c1 => exact lit_nw wr _)
              try (case c2 => simp [Value.oneCell'])
              try (case c3 => unfold maxLen; omega)
              try (case c4 => omega)
              try (case c5 => exact Nat.zero_le _)
              try (case c6 => omega)
              intro pg pc pw hown hgrow hwhere
              have A1 := Lib.hid (PU.out _ _ hown hgrow (fun q hq => by cases hq; simpa using hwhere))
              clear hown hgrow hwhere PU HO
              go_wp2_with fail
              exact ⟨⟨L ++ [now], [], i + 1, by rw [bS_nil], by go_num, by omega, H2, A1⟩, by simp [intOf]; omega⟩
            · go_wp2_with (at_builtin; refine wpList_append_sep _ rfl _ _ 38 rfl 0 9 i0 (.string ⟨#[]⟩) 1 16 Tryd.underlying38 HI.out HZ0.out HZ1.out HZ2.out rfl (by decide) _ _ _ rfl (World.ownsRow.alloc HO.out _) ⟨wr.heap.size, 0, none⟩ 1 1 [.string t] rfl rfl ?c1 ?c2 ?c3 ?c4 ?c5 ?c6 ?_)
              try (case c1 => exact lit_nw wr _)
              try (case c2 => simp [Value.oneCell'])
              try (case c3 => unfold maxLen; omega)
              try (case c4 => omega)
              try (case c5 => exact Nat.zero_le _)
              try (case c6 => omega)
              intro pg pc pw hown hgrow hwhere
              have A1 := Lib.hid (PU.out _ _ hown hgrow (fun q hq => by cases hq; simpa using hwhere))
              clear hown hgrow hwhere PU HO
              go_wp2_with fail
              exact ⟨⟨L ++ [now], [], i + 1, by rw [bS_nil], by go_num, by omega, H2, A1⟩, by simp [intOf]; omega⟩
    · subst hgt
      subst hlast
      have hltI : ¬ ((s.size : Int) + 1) ≤ (s.size : Int) := by omega
      clear HJ
      go_wp2
      go_ret
      exact ⟨_, rfl, HA⟩

end Go.Proofs.YtfgdfhcefgblaaaDoor
