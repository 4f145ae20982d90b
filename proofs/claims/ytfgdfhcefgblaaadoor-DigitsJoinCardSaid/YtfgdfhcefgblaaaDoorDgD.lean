/- The document's numbers (ullageref04): read. -/
import Derived.Test.YtfgdfhcefgblaaaDoorDgC
namespace Go.Proofs.YtfgdfhcefgblaaaDoor
open Go.ChangeShapes Go.WideShapes Go.ChangeAt Go.RowKit

/-- how far the document has read: no overflow and the number, or overflow -/
def OvI (g : Nat) (acc : Int) (o : Bool) : Prop := (o = false ∧ acc = (g : Int) ∧ g < 18446744073709551616) ∨ (o = true ∧ 18446744073709551616 ≤ g)

theorem ov_same10 {g d : Nat} {acc : Int} {o : Bool} (h : acc ≤ (18446744073709551615 - (d : Int)) / 10) (hd : d < 10) (H : OvI g acc o) : OvI (g * 10 + d) (IntKind.u64.wrap (IntKind.u64.wrap (acc * 10) + (d : Int))) o := by
  rcases H with ⟨h1, h2, h3⟩ | ⟨h1, h2⟩
  · left
    subst h2
    have hb : g * 10 + d < 18446744073709551616 := by omega
    refine ⟨h1, ?_, hb⟩
    rw [IntWalk.u64_in ((g : Int) * 10) (by omega), IntWalk.u64_in _ (by omega)]
    push_cast; rfl
  · exact .inr ⟨h1, by omega⟩

theorem ov_over10 {g d : Nat} {acc : Int} {o : Bool} (v : Int) (h : (18446744073709551615 - (d : Int)) / 10 < acc) (hd : d < 10) (H : OvI g acc o) : OvI (g * 10 + d) v true := by
  rcases H with ⟨h1, h2, h3⟩ | ⟨h1, h2⟩
  · exact .inr ⟨rfl, by omega⟩
  · exact .inr ⟨rfl, by omega⟩

theorem ov_same16 {g d : Nat} {acc : Int} {o : Bool} (h : acc ≤ (18446744073709551615 - (d : Int)) / 16) (hd : d < 16) (H : OvI g acc o) : OvI (g * 16 + d) (IntKind.u64.wrap (IntKind.u64.wrap (acc * 16) + (d : Int))) o := by
  rcases H with ⟨h1, h2, h3⟩ | ⟨h1, h2⟩
  · left
    subst h2
    have hb : g * 16 + d < 18446744073709551616 := by omega
    refine ⟨h1, ?_, hb⟩
    rw [IntWalk.u64_in ((g : Int) * 16) (by omega), IntWalk.u64_in _ (by omega)]
    push_cast; rfl
  · exact .inr ⟨h1, by omega⟩

theorem ov_over16 {g d : Nat} {acc : Int} {o : Bool} (v : Int) (h : (18446744073709551615 - (d : Int)) / 16 < acc) (hd : d < 16) (H : OvI g acc o) : OvI (g * 16 + d) v true := by
  rcases H with ⟨h1, h2, h3⟩ | ⟨h1, h2⟩
  · exact .inr ⟨rfl, by omega⟩
  · exact .inr ⟨rfl, by omega⟩

theorem fm_all {B : Nat} {s : ByteArray} (h0 : 0 < s.size) (hlead : ¬ (1 < s.size ∧ s[0].toNat = 48)) : fm B s.data.toList = s.data.toList.all (isD B) := by
  have hl : s.data.toList.length = s.size := rfl
  have hd0 : s.data.toList.headD 0 = s[0] := by
    have : s.data.toList = s[0] :: s.data.toList.drop 1 := by
      conv => lhs; rw [← List.drop_zero (l := s.data.toList)]
      rw [dg_drop h0]
    rw [this]; rfl
  unfold fm
  rw [hd0, hl, decide_eq_true h0, Bool.true_and]
  by_cases h1 : 1 < s.size
  · rw [decide_eq_true h1, decide_eq_false (fun e => hlead ⟨h1, e⟩)]; rfl
  · rw [decide_eq_false h1]; rfl

theorem fm_lead {B : Nat} {s : ByteArray} (h1 : 1 < s.size) (h48 : s[0].toNat = 48) : fm B s.data.toList = false := by
  have hl : s.data.toList.length = s.size := rfl
  have hd0 : s.data.toList.headD 0 = s[0] := by
    have : s.data.toList = s[0] :: s.data.toList.drop 1 := by
      conv => lhs; rw [← List.drop_zero (l := s.data.toList)]
      rw [dg_drop (by omega)]
    rw [this]; rfl
  unfold fm
  rw [hd0, hl, decide_eq_true h1, decide_eq_true h48]; simp

theorem fm_bad {B : Nat} {s : ByteArray} {r : Nat} (hr : r < s.size) (h : ¬ dv s[r].toNat < B) : fm B s.data.toList = false := by
  cases hf : fm B s.data.toList with
  | false => rfl
  | true => exact absurd (fm_digit hf hr) h

set_option maxRecDepth 100000 in
set_option maxHeartbeats 2000000 in
theorem r4_read10 (s : ByteArray) (hs : s.size ≤ 1000000) (w : World) :
    Calls Tryd.prog 29 #[.string s, .int .u64 10] w fun e w' => e = .returned (.tuple #[.int .u64 (rdV 10 s.data.toList), .int .i64 (rdE 10 s.data.toList)]) ∧ w = w' := by
  by_cases h0 : s.size = 0
  · have e : s.data.toList = [] := List.eq_nil_of_length_eq_zero h0
    have V1 : Hid (rdE 10 s.data.toList = 2) := Lib.hid (by rw [e]; rfl)
    have V2 : Hid (rdV 10 s.data.toList = 0) := Lib.hid (by rw [e]; rfl)
    have h0I : ((s.size : Int) == 0) = true := by rw [h0]; rfl
    rw [V1.out, V2.out]
    clear e h0
    go_enter Tryd.func29, Tryd.ntmps29
    go_wp2
    go_ret2
    exact ⟨rfl, rfl⟩
  · have h0' : 0 < s.size := by omega
    have h0I : ((s.size : Int) == 0) = false := beq_eq_false_iff_ne.2 (by omega)
    have hz : (0 : Int) < (s.size : Int) := by omega
    by_cases hlead : 1 < s.size ∧ s[0].toNat = 48
    · have hf : fm 10 s.data.toList = false := fm_lead hlead.1 hlead.2
      have V1 : Hid (rdE 10 s.data.toList = 2) := Lib.hid (by unfold rdE; rw [hf]; rfl)
      have V2 : Hid (rdV 10 s.data.toList = 0) := Lib.hid (by unfold rdV; rw [V1.out]; rfl)
      have q1 : (1 : Int) < (s.size : Int) := by omega
      obtain ⟨c0, hc0⟩ : ∃ c0, s[0].toNat = c0 := ⟨_, rfl⟩
      have q2 : ((c0 : Int) == 48) = true := by rw [← hc0]; simp; omega
      rw [V1.out, V2.out]
      clear hf hlead h0
      go_enter Tryd.func29, Tryd.ntmps29
      go_wp2
      go_ret2
      exact ⟨rfl, rfl⟩
    · have FA := Lib.hid (fm_all (B := 10) h0' hlead)
      have two : ¬ (1 : Int) < (s.size : Int) ∨ (1 : Int) < (s.size : Int) ∧ ((s[0].toNat : Int) == 48) = false := by
        by_cases h1 : 1 < s.size
        · right; exact ⟨by omega, by have : ¬ s[0].toNat = 48 := fun e => hlead ⟨h1, e⟩
                                     simp; omega⟩
        · left; omega
      have DC := Lib.hid (fun c => r4_digit c w)
      have BAD : Hid (∀ r (hr : r < s.size), ¬ dv s[r].toNat < 10 → rdE 10 s.data.toList = 2 ∧ rdV 10 s.data.toList = 0) := Lib.hid fun r hr h => by
        have hf := fm_bad hr h
        have e : rdE 10 s.data.toList = 2 := by unfold rdE; rw [hf]; rfl
        exact ⟨e, by unfold rdV; rw [e]; rfl⟩
      have END : Hid ((∀ r (hr : r < s.size), dv s[r].toNat < 10) → fm 10 s.data.toList = true) := Lib.hid fun h => by
        rw [FA.out, List.all_eq_true]
        intro x hx
        obtain ⟨k, hk, rfl⟩ := List.mem_iff_getElem.1 hx
        exact decide_eq_true (h k hk)
      have e0 : s.data.toList.take s.size = s.data.toList := List.take_of_length_le (by simp)
      have FIN : Hid (∀ acc o, fm 10 s.data.toList = true → OvI (nv 10 0 (s.data.toList.take s.size)) acc o → (o = false ∧ rdE 10 s.data.toList = 0 ∧ acc = (rdV 10 s.data.toList : Int)) ∨ (o = true ∧ rdE 10 s.data.toList = 4 ∧ rdV 10 s.data.toList = 0)) := Lib.hid fun acc o hf h => by
        rw [e0] at h
        rcases h with ⟨h1, h2, h3⟩ | ⟨h1, h2⟩
        · have e : rdE 10 s.data.toList = 0 := by unfold rdE; rw [hf, if_pos rfl, if_pos h3]
          exact .inl ⟨h1, e, by rw [h2]; unfold rdV; rw [e]; rfl⟩
        · have e : rdE 10 s.data.toList = 4 := by unfold rdE; rw [hf, if_pos rfl, if_neg (by omega)]
          exact .inr ⟨h1, e, by unfold rdV; rw [e]; rfl⟩
      have ST := Lib.hid (fun r (hr : r < s.size) => nv_step (B := 10) hr)
      have Z0 : Hid (nv 10 0 (s.data.toList.take 0) = 0) := Lib.hid rfl
      obtain ⟨G, hG⟩ : ∃ G : Nat → Nat, G = fun r => nv 10 0 (s.data.toList.take r) := ⟨_, rfl⟩
      have ST : Hid (∀ r (hr : r < s.size), G (r + 1) = G r * 10 + dv s[r].toNat) := Lib.hid (by rw [hG]; exact ST.out)
      have FIN : Hid (∀ acc o, fm 10 s.data.toList = true → OvI (G s.size) acc o → (o = false ∧ rdE 10 s.data.toList = 0 ∧ acc = (rdV 10 s.data.toList : Int)) ∨ (o = true ∧ rdE 10 s.data.toList = 4 ∧ rdV 10 s.data.toList = 0)) := Lib.hid (by rw [hG]; exact FIN.out)
      have Z0 : Hid (OvI (G 0) 0 false) := Lib.hid (.inl ⟨rfl, by rw [hG]; rfl, by rw [hG]; exact (by decide : (0 : Nat) < 18446744073709551616)⟩)
      clear hG hlead e0 h0
      obtain ⟨c0, hc0⟩ : ∃ c0, s[0].toNat = c0 := ⟨_, rfl⟩
      rw [hc0] at two
      rcases two with q1 | ⟨q1, q2⟩
      all_goals
        go_enter Tryd.func29, Tryd.ntmps29
        go_wp2
        clear hc0
        go_loop [6, 7, 8, 9, 10] (fun nw ow iv _ _ => ∃ (i : Nat) (acc : Int) (o : Bool), nw = .int .u64 acc ∧ ow = .bool o ∧ iv = .int .i64 i ∧ i ≤ s.size ∧ Hid (OvI (G i) acc o) ∧ Hid (∀ r (hr : r < s.size), r < i → dv s[r].toNat < 10)) (fun _ _ iv _ _ => s.size - (intOf iv).toNat)
        case atStart => exact ⟨0, 0, false, rfl, rfl, rfl, Nat.zero_le _, Z0, Lib.hid fun r _ hr => absurd hr (by omega)⟩
        case round =>
          clear Z0
          obtain ⟨i, acc, o, rfl, rfl, rfl, hi, HO, HD⟩ := hrel
          by_cases hlt : i < s.size
          · have hltI : (i : Int) < (s.size : Int) := by omega
            have st := ST.out i hlt
            have D1 := DC.out s[i]
            by_cases hd : dv s[i].toNat < 10
            · have HD2 : Hid (∀ r (hr : r < s.size), r < i + 1 → dv s[r].toNat < 10) := Lib.hid fun r hr h => by
                by_cases e : r = i
                · subst e; exact hd
                · exact HD.out r hr (by omega)
              obtain ⟨d, hdd⟩ : ∃ d, dv s[i].toNat = d := ⟨_, rfl⟩
              rw [hdd] at st D1 hd
              have D1 := Lib.hid D1
              have hdI : ¬ (10 : Int) ≤ (d : Int) := by omega
              obtain ⟨g, hg⟩ : ∃ g, G i = g := ⟨_, rfl⟩
              have HO1 := HO.out
              rw [hg] at st HO1
              clear HD hdd hg HO
              go_wp2_with (go_at_call 40; with_reducible refine D1.out.mono ?_; rintro e1 w1 ⟨rfl, rfl⟩)
              all_goals first
                | exact ⟨⟨i + 1, _, _, rfl, rfl, by go_num, by omega, Lib.hid (by rw [st]; exact ov_same10 (by assumption) hd HO1), HD2⟩, by simp [intOf]; omega⟩
                | exact ⟨⟨i + 1, _, _, rfl, rfl, by go_num, by omega, Lib.hid (by rw [st]; exact ov_over10 _ (by assumption) hd HO1), HD2⟩, by simp [intOf]; omega⟩
            · obtain ⟨v1, v2⟩ := BAD.out i hlt hd
              have V1 := Lib.hid v1
              have V2 := Lib.hid v2
              obtain ⟨d, hdd⟩ : ∃ d, dv s[i].toNat = d := ⟨_, rfl⟩
              rw [hdd] at D1 hd
              have D1 := Lib.hid D1
              have hdI : (10 : Int) ≤ (d : Int) := by omega
              clear v1 v2 st hdd HO HD
              go_wp2_with (go_at_call 40; with_reducible refine D1.out.mono ?_; rintro e1 w1 ⟨rfl, rfl⟩)
              go_ret2
              exact ⟨by rw [V1.out, V2.out]; rfl, rfl⟩
          · obtain rfl : i = s.size := by omega
            have hltI : ¬ (s.size : Int) < (s.size : Int) := by omega
            have hf := END.out fun r hr => HD.out r hr hr
            rcases FIN.out acc o hf HO.out with ⟨rfl, v1, v2⟩ | ⟨rfl, v1, v2⟩
            · have V1 := Lib.hid v1
              have V2 := Lib.hid v2
              clear v1 v2 hf HO HD
              go_wp2_with fail
              go_ret2
              exact ⟨by rw [V1.out, V2.out]; rfl, rfl⟩
            · have V1 := Lib.hid v1
              have V2 := Lib.hid v2
              clear v1 v2 hf HO HD
              go_wp2_with fail
              go_ret2
              exact ⟨by rw [V1.out, V2.out]; rfl, rfl⟩

set_option maxRecDepth 100000 in
set_option maxHeartbeats 2000000 in
theorem r4_read16 (s : ByteArray) (hs : s.size ≤ 1000000) (w : World) :
    Calls Tryd.prog 29 #[.string s, .int .u64 16] w fun e w' => e = .returned (.tuple #[.int .u64 (rdV 16 s.data.toList), .int .i64 (rdE 16 s.data.toList)]) ∧ w = w' := by
  by_cases h0 : s.size = 0
  · have e : s.data.toList = [] := List.eq_nil_of_length_eq_zero h0
    have V1 : Hid (rdE 16 s.data.toList = 2) := Lib.hid (by rw [e]; rfl)
    have V2 : Hid (rdV 16 s.data.toList = 0) := Lib.hid (by rw [e]; rfl)
    have h0I : ((s.size : Int) == 0) = true := by rw [h0]; rfl
    rw [V1.out, V2.out]
    clear e h0
    go_enter Tryd.func29, Tryd.ntmps29
    go_wp2
    go_ret2
    exact ⟨rfl, rfl⟩
  · have h0' : 0 < s.size := by omega
    have h0I : ((s.size : Int) == 0) = false := beq_eq_false_iff_ne.2 (by omega)
    have hz : (0 : Int) < (s.size : Int) := by omega
    by_cases hlead : 1 < s.size ∧ s[0].toNat = 48
    · have hf : fm 16 s.data.toList = false := fm_lead hlead.1 hlead.2
      have V1 : Hid (rdE 16 s.data.toList = 2) := Lib.hid (by unfold rdE; rw [hf]; rfl)
      have V2 : Hid (rdV 16 s.data.toList = 0) := Lib.hid (by unfold rdV; rw [V1.out]; rfl)
      have q1 : (1 : Int) < (s.size : Int) := by omega
      obtain ⟨c0, hc0⟩ : ∃ c0, s[0].toNat = c0 := ⟨_, rfl⟩
      have q2 : ((c0 : Int) == 48) = true := by rw [← hc0]; simp; omega
      rw [V1.out, V2.out]
      clear hf hlead h0
      go_enter Tryd.func29, Tryd.ntmps29
      go_wp2
      go_ret2
      exact ⟨rfl, rfl⟩
    · have FA := Lib.hid (fm_all (B := 16) h0' hlead)
      have two : ¬ (1 : Int) < (s.size : Int) ∨ (1 : Int) < (s.size : Int) ∧ ((s[0].toNat : Int) == 48) = false := by
        by_cases h1 : 1 < s.size
        · right; exact ⟨by omega, by have : ¬ s[0].toNat = 48 := fun e => hlead ⟨h1, e⟩
                                     simp; omega⟩
        · left; omega
      have DC := Lib.hid (fun c => r4_digit c w)
      have BAD : Hid (∀ r (hr : r < s.size), ¬ dv s[r].toNat < 16 → rdE 16 s.data.toList = 2 ∧ rdV 16 s.data.toList = 0) := Lib.hid fun r hr h => by
        have hf := fm_bad hr h
        have e : rdE 16 s.data.toList = 2 := by unfold rdE; rw [hf]; rfl
        exact ⟨e, by unfold rdV; rw [e]; rfl⟩
      have END : Hid ((∀ r (hr : r < s.size), dv s[r].toNat < 16) → fm 16 s.data.toList = true) := Lib.hid fun h => by
        rw [FA.out, List.all_eq_true]
        intro x hx
        obtain ⟨k, hk, rfl⟩ := List.mem_iff_getElem.1 hx
        exact decide_eq_true (h k hk)
      have e0 : s.data.toList.take s.size = s.data.toList := List.take_of_length_le (by simp)
      have FIN : Hid (∀ acc o, fm 16 s.data.toList = true → OvI (nv 16 0 (s.data.toList.take s.size)) acc o → (o = false ∧ rdE 16 s.data.toList = 0 ∧ acc = (rdV 16 s.data.toList : Int)) ∨ (o = true ∧ rdE 16 s.data.toList = 4 ∧ rdV 16 s.data.toList = 0)) := Lib.hid fun acc o hf h => by
        rw [e0] at h
        rcases h with ⟨h1, h2, h3⟩ | ⟨h1, h2⟩
        · have e : rdE 16 s.data.toList = 0 := by unfold rdE; rw [hf, if_pos rfl, if_pos h3]
          exact .inl ⟨h1, e, by rw [h2]; unfold rdV; rw [e]; rfl⟩
        · have e : rdE 16 s.data.toList = 4 := by unfold rdE; rw [hf, if_pos rfl, if_neg (by omega)]
          exact .inr ⟨h1, e, by unfold rdV; rw [e]; rfl⟩
      have ST := Lib.hid (fun r (hr : r < s.size) => nv_step (B := 16) hr)
      have Z0 : Hid (nv 16 0 (s.data.toList.take 0) = 0) := Lib.hid rfl
      obtain ⟨G, hG⟩ : ∃ G : Nat → Nat, G = fun r => nv 16 0 (s.data.toList.take r) := ⟨_, rfl⟩
      have ST : Hid (∀ r (hr : r < s.size), G (r + 1) = G r * 16 + dv s[r].toNat) := Lib.hid (by rw [hG]; exact ST.out)
      have FIN : Hid (∀ acc o, fm 16 s.data.toList = true → OvI (G s.size) acc o → (o = false ∧ rdE 16 s.data.toList = 0 ∧ acc = (rdV 16 s.data.toList : Int)) ∨ (o = true ∧ rdE 16 s.data.toList = 4 ∧ rdV 16 s.data.toList = 0)) := Lib.hid (by rw [hG]; exact FIN.out)
      have Z0 : Hid (OvI (G 0) 0 false) := Lib.hid (.inl ⟨rfl, by rw [hG]; rfl, by rw [hG]; exact (by decide : (0 : Nat) < 18446744073709551616)⟩)
      clear hG hlead e0 h0
      obtain ⟨c0, hc0⟩ : ∃ c0, s[0].toNat = c0 := ⟨_, rfl⟩
      rw [hc0] at two
      rcases two with q1 | ⟨q1, q2⟩
      all_goals
        go_enter Tryd.func29, Tryd.ntmps29
        go_wp2
        clear hc0
        go_loop [6, 7, 8, 9, 10] (fun nw ow iv _ _ => ∃ (i : Nat) (acc : Int) (o : Bool), nw = .int .u64 acc ∧ ow = .bool o ∧ iv = .int .i64 i ∧ i ≤ s.size ∧ Hid (OvI (G i) acc o) ∧ Hid (∀ r (hr : r < s.size), r < i → dv s[r].toNat < 16)) (fun _ _ iv _ _ => s.size - (intOf iv).toNat)
        case atStart => exact ⟨0, 0, false, rfl, rfl, rfl, Nat.zero_le _, Z0, Lib.hid fun r _ hr => absurd hr (by omega)⟩
        case round =>
          clear Z0
          obtain ⟨i, acc, o, rfl, rfl, rfl, hi, HO, HD⟩ := hrel
          by_cases hlt : i < s.size
          · have hltI : (i : Int) < (s.size : Int) := by omega
            have st := ST.out i hlt
            have D1 := DC.out s[i]
            by_cases hd : dv s[i].toNat < 16
            · have HD2 : Hid (∀ r (hr : r < s.size), r < i + 1 → dv s[r].toNat < 16) := Lib.hid fun r hr h => by
                by_cases e : r = i
                · subst e; exact hd
                · exact HD.out r hr (by omega)
              obtain ⟨d, hdd⟩ : ∃ d, dv s[i].toNat = d := ⟨_, rfl⟩
              rw [hdd] at st D1 hd
              have D1 := Lib.hid D1
              have hdI : ¬ (16 : Int) ≤ (d : Int) := by omega
              obtain ⟨g, hg⟩ : ∃ g, G i = g := ⟨_, rfl⟩
              have HO1 := HO.out
              rw [hg] at st HO1
              clear HD hdd hg HO
              go_wp2_with (go_at_call 40; with_reducible refine D1.out.mono ?_; rintro e1 w1 ⟨rfl, rfl⟩)
              all_goals first
                | exact ⟨⟨i + 1, _, _, rfl, rfl, by go_num, by omega, Lib.hid (by rw [st]; exact ov_same16 (by assumption) hd HO1), HD2⟩, by simp [intOf]; omega⟩
                | exact ⟨⟨i + 1, _, _, rfl, rfl, by go_num, by omega, Lib.hid (by rw [st]; exact ov_over16 _ (by assumption) hd HO1), HD2⟩, by simp [intOf]; omega⟩
            · obtain ⟨v1, v2⟩ := BAD.out i hlt hd
              have V1 := Lib.hid v1
              have V2 := Lib.hid v2
              obtain ⟨d, hdd⟩ : ∃ d, dv s[i].toNat = d := ⟨_, rfl⟩
              rw [hdd] at D1 hd
              have D1 := Lib.hid D1
              have hdI : (16 : Int) ≤ (d : Int) := by omega
              clear v1 v2 st hdd HO HD
              go_wp2_with (go_at_call 40; with_reducible refine D1.out.mono ?_; rintro e1 w1 ⟨rfl, rfl⟩)
              go_ret2
              exact ⟨by rw [V1.out, V2.out]; rfl, rfl⟩
          · obtain rfl : i = s.size := by omega
            have hltI : ¬ (s.size : Int) < (s.size : Int) := by omega
            have hf := END.out fun r hr => HD.out r hr hr
            rcases FIN.out acc o hf HO.out with ⟨rfl, v1, v2⟩ | ⟨rfl, v1, v2⟩
            · have V1 := Lib.hid v1
              have V2 := Lib.hid v2
              clear v1 v2 hf HO HD
              go_wp2_with fail
              go_ret2
              exact ⟨by rw [V1.out, V2.out]; rfl, rfl⟩
            · have V1 := Lib.hid v1
              have V2 := Lib.hid v2
              clear v1 v2 hf HO HD
              go_wp2_with fail
              go_ret2
              exact ⟨by rw [V1.out, V2.out]; rfl, rfl⟩

end Go.Proofs.YtfgdfhcefgblaaaDoor
