/- The document's pool of frames (layer 7): New; both pools, side by side. -/
import Derived.Test.YtpdnbkibnpkfbadFmG
namespace Go.Proofs.Ytpdnbkibnpkfbad
open Go.ChangeShapes Go.WideShapes Go.ChangeAt Go.RowKit

def pI (x : Int) : Prop := x = 1 ∨ x = 2 ∨ x = 4 ∨ x = 8 ∨ x = 16 ∨ x = 32 ∨ x = 64 ∨ x = 128 ∨ x = 256
instance (x : Int) : Decidable (pI x) := by unfold pI; infer_instance

/-- where the search stands -/
def nI (page m : Int) (b : Bool) : Prop := (pI m ∨ m = 512) ∧ b = decide (pI page ∧ page < m)

theorem nI_start (page : Int) : nI page 1 false := ⟨.inl (by unfold pI; omega), by
  rw [eq_comm, decide_eq_false_iff_not]
  unfold pI; omega⟩

theorem nI_step {page m : Int} {b : Bool} (h : nI page m b) (hm : m ≤ 256) : nI page (m * 2) (b || m == page) := by
  obtain ⟨h1, rfl⟩ := h
  unfold pI at h1
  refine ⟨by unfold pI; omega, ?_⟩
  rw [Bool.eq_iff_iff]
  simp only [Bool.or_eq_true, decide_eq_true_eq, beq_iff_eq]
  unfold pI
  omega

theorem nI_end {page m : Int} {b : Bool} (h : nI page m b) (hm : 256 < m) : b = decide (pI page) := by
  obtain ⟨h1, rfl⟩ := h
  unfold pI at h1
  have : m = 512 := by omega
  subst this
  rw [Bool.eq_iff_iff]
  simp only [decide_eq_true_eq]
  unfold pI
  omega

theorem nI_bd {page m : Int} {b : Bool} (h : nI page m b) : 1 ≤ m ∧ m ≤ 512 := by
  have := h.1
  unfold pI at this
  omega

def newR (room page : Nat) : RS := { room, page, L := [], back := [], never := 0, high := 0, times := 0 }

theorem rp_new_fin {w0 w : World} {S : Nat → Prop} {room page : Nat} (h : At (pur True) w0 S w) : At (rpA w.heap.size (newR room page)) w0 S (w.alloc (.cells #[.int .i64 room, .int .i64 page, .slice none 0 0, .slice none 0 0, .int .i64 0, .int .i64 0, .int .i64 0] 50)) := by
  refine rpA_of (vL := .slice none 0 0) (vB := .slice none 0 0) ?_
  have h1 := ((h.own_nil 3 1).own_nil 79 2).alloc (.cells #[.int .i64 room, .int .i64 page, .slice none 0 0, .slice none 0 0, .int .i64 0, .int .i64 0, .int .i64 0] 50)
  exact h1

theorem rp_new_ok (room page : Nat) (h1 : 1 ≤ room) (h2 : room ≤ 4096) (hp : pI page) : Tri Try.prog 10 #[.int .i64 room, .int .i64 page] (pur True) (fun c : Nat => .tuple #[.pointer (some ⟨c, 0, none⟩), .int .i64 0]) (fun c => rpA c (newR room page)) := by
  intro w S h
  have FIN := Lib.hid (rp_new_fin (room := room) (page := page) (At.refl h))
  have HP := Lib.hid hp
  have hpg : (0 : Int) ≤ page ∧ (page : Int) ≤ 256 := by unfold pI at hp; omega
  clear h hp
  have HS := Lib.hid (nI_start (page : Int))
  go_enter Try.func10, Try.ntmps10
  go_wp2
  go_loop [6, 7] (fun okv nv => ∃ (m : Int) (b : Bool), nv = .int .i64 m ∧ okv = .bool b ∧ Hid (nI page m b)) (fun _ nv => 513 - (intOf nv).toNat)
  case atStart => exact ⟨1, false, rfl, rfl, HS⟩
  case round =>
    obtain ⟨m, b, rfl, rfl, HN⟩ := hrel
    have bd := nI_bd HN.out
    by_cases hm : m ≤ 256
    · have H2 := Lib.hid (nI_step HN.out hm)
      cases b with
      | true =>
        have H3 : Hid (nI page (m * 2) true) := Lib.hid (by simpa using H2.out)
        clear H2 HN HS
        go_wp2
        go_round
        case rel => exact ⟨m * 2, true, by go_num, rfl, H3⟩
        case measure => simp [intOf]; omega
      | false =>
        have H3 : Hid (nI page (m * 2) (m == page)) := Lib.hid (by simpa using H2.out)
        clear H2 HN HS
        go_wp2
        go_round
        case rel => exact ⟨m * 2, m == page, by go_num, rfl, H3⟩
        case measure => simp [intOf]; omega
    · have hb := nI_end HN.out (by omega)
      rw [decide_eq_true HP.out] at hb
      subst hb
      clear HN HS
      go_wp2
      go_ret2
      exact ⟨_, rfl, FIN.out⟩

theorem rp_new_bad (room page : Int) (h : room < 1 ∨ 4096 < room ∨ ¬ pI page) (w : World) : Calls Try.prog 10 #[.int .i64 room, .int .i64 page] w fun e w' => e = .returned (.tuple #[.pointer none, .int .i64 5]) ∧ w = w' := by
  have HH := Lib.hid h
  clear h
  have HS := Lib.hid (nI_start page)
  go_enter Try.func10, Try.ntmps10
  go_wp2
  go_loop [6, 7] (fun okv nv => ∃ (m : Int) (b : Bool), nv = .int .i64 m ∧ okv = .bool b ∧ Hid (nI page m b)) (fun _ nv => 513 - (intOf nv).toNat)
  case atStart => exact ⟨1, false, rfl, rfl, HS⟩
  case round =>
    obtain ⟨m, b, rfl, rfl, HN⟩ := hrel
    have bd := nI_bd HN.out
    by_cases hm : m ≤ 256
    · have H2 := Lib.hid (nI_step HN.out hm)
      cases b with
      | true =>
        have H3 : Hid (nI page (m * 2) true) := Lib.hid (by simpa using H2.out)
        clear H2 HN HS
        go_wp2
        go_round
        case rel => exact ⟨m * 2, true, by go_num, rfl, H3⟩
        case measure => simp [intOf]; omega
      | false =>
        have H3 : Hid (nI page (m * 2) (m == page)) := Lib.hid (by simpa using H2.out)
        clear H2 HN HS
        go_wp2
        go_round
        case rel => exact ⟨m * 2, m == page, by go_num, rfl, H3⟩
        case measure => simp [intOf]; omega
    · have hb := Lib.hid (nI_end HN.out (by omega))
      clear HN HS
      by_cases r1 : room < 1
      · clear hb HH
        go_wp2
        go_ret2
        exact ⟨rfl, rfl⟩
      · by_cases r2 : 4096 < room
        · clear hb HH
          go_wp2
          go_ret2
          exact ⟨rfl, rfl⟩
        · have hb2 := hb.out
          rw [decide_eq_false (by rcases HH.out with h | h | h <;> first | omega | exact h)] at hb2
          subst hb2
          clear hb HH
          go_wp2
          go_ret2
          exact ⟨rfl, rfl⟩

/-- the two pools alike -/
structure RF (s : PS) (r : RS) : Prop where
  pi : PI s
  room : r.room = s.room
  page : r.page = s.page
  len : r.L.length = s.fresh - s.rel.length
  back : r.back = s.rel
  never : r.never = s.fresh
  high : r.high = s.high
  times : r.times = s.taken
  nd : (r.L.map (·.f)).Nodup
  has : ∀ e ∈ r.L, s.al e.f = true ∧ ∀ j, j < s.page → e.g j = s.ws (e.f * s.page + j)
  all : ∀ k, s.al k = true → ∃ e ∈ r.L, e.f = k

theorem RF.new (room page : Nat) (h1 : 1 ≤ room) (h2 : room ≤ 4096) (hp : powP page) : RF (newP room page) (newR room page) where
  pi := PI.new room page h1 h2 hp
  room := rfl
  page := rfl
  len := rfl
  back := rfl
  never := rfl
  high := rfl
  times := rfl
  nd := List.nodup_nil
  has := fun e he => by cases he
  all := fun k hk => by cases hk

theorem RF.lenb {s : PS} {r : RS} (h : RF s r) : r.L.length ≤ 4096 := by have := h.len; have := h.pi.ok.fr; have := h.pi.ok.r2; omega

theorem getD_memF {L : List FE} {k : Nat} (hk : k < L.length) : L.getD k fe0 ∈ L := by rw [getD_FE hk]; exact List.getElem_mem hk

theorem RF.fixn {s : PS} {r : RS} (h : RF s r) (q : Int) (hq : q < 0 ∨ (s.room : Int) ≤ q ∨ s.al q.toNat = false) : fix r.L q = -1 := by
  rcases fix_range r.L q with ⟨e, _⟩ | ⟨k, _, hk, e⟩
  · exact e
  · exfalso
    have h1 := (h.has _ (getD_memF hk)).1
    have h2 := h.pi.kr h1
    have h3 : q.toNat = (r.L.getD k fe0).f := by omega
    rw [h3, h1] at hq
    rcases hq with hq | hq | hq
    · omega
    · omega
    · cases hq

theorem RF.fixs {s : PS} {r : RS} (h : RF s r) (q : Nat) (hq : s.al q = true) : ∃ k : Nat, fix r.L q = k ∧ k < r.L.length ∧ (r.L.getD k fe0).f = q := by
  obtain ⟨e, he, hf⟩ := h.all q hq
  rcases fix_range r.L q with ⟨_, g⟩ | ⟨k, e1, hk, e2⟩
  · exact absurd (by rw [hf]) (g e he)
  · exact ⟨k, e1, hk, by omega⟩

theorem RF.took {s s1 : PS} {r r0 : RS} {f nv : Nat} (h : RF s r) (t : Took2 s f s1) (b : Nat) (h0 : r0.room = r.room ∧ r0.page = r.page ∧ r0.L = r.L ∧ r0.high = r.high ∧ r0.times = r.times) (hb : r0.back = s1.rel) (hn : nv = s1.fresh) : RF s1 (r0.took f b nv) where
  pi := t.pi
  room := by show r0.room = _; rw [h0.1, h.room, t.room]
  page := by show r0.page = _; rw [h0.2.1, h.page, t.page]
  len := by
    show (r0.L ++ [(⟨f, b, fun _ => 0⟩ : FE)]).length = _
    rw [h0.2.2.1, List.length_append, List.length_singleton, h.len, t.used]
  back := hb
  never := hn
  high := by
    show max r0.high (r0.L.length + 1) = _
    rw [h0.2.2.2.1, h0.2.2.1, h.high, h.len, t.high]
  times := by
    show wrap64 (r0.times + 1) = _
    rw [h0.2.2.2.2, h.times, t.taken]
  nd := by
    show ((r0.L ++ [(⟨f, b, fun _ => 0⟩ : FE)]).map (·.f)).Nodup
    rw [h0.2.2.1, List.map_append, List.nodup_append]
    refine ⟨h.nd, by simp, ?_⟩
    intro x hx y hy e
    have hy2 : y = f := by simpa using hy
    obtain ⟨z, hz, hz2⟩ := List.mem_map.1 hx
    have := (h.has z hz).1
    rw [hz2, e, hy2, t.was] at this; cases this
  has := fun e he => by
    have he' : e ∈ r.L ++ [⟨f, b, fun _ => 0⟩] := by rw [← h0.2.2.1]; exact he
    rw [t.al, t.ws, t.page]
    rcases List.mem_append.1 he' with g | g
    · obtain ⟨h1, h2⟩ := h.has e g
      have ne : e.f ≠ f := fun e2 => by rw [e2, t.was] at h1; cases h1
      refine ⟨by show (if e.f = f then true else s.al e.f) = true; rw [if_neg ne]; exact h1, fun j hj => ?_⟩
      show e.g j = if f * s.page ≤ e.f * s.page + j ∧ e.f * s.page + j < f * s.page + s.page then 0 else s.ws (e.f * s.page + j)
      rw [if_neg (page_apart f e.f s.page j (fun e2 => ne e2.symm) hj)]
      exact h2 j hj
    · have : e = ⟨f, b, fun _ => 0⟩ := by simpa using g
      subst this
      refine ⟨by simp, fun j hj => ?_⟩
      show (0 : Int) = if f * s.page ≤ f * s.page + j ∧ f * s.page + j < f * s.page + s.page then 0 else s.ws (f * s.page + j)
      rw [if_pos (by omega)]
  all := fun k hk => by
    rw [t.al] at hk
    show ∃ e ∈ r0.L ++ [⟨f, b, fun _ => 0⟩], e.f = k
    rw [h0.2.2.1]
    by_cases e : k = f
    · exact ⟨⟨f, b, fun _ => 0⟩, List.mem_append_right _ (by simp), e.symm⟩
    · have hk' : (if k = f then true else s.al k) = true := hk
      rw [if_neg e] at hk'
      obtain ⟨x, hx, hx2⟩ := h.all k hk'
      exact ⟨x, List.mem_append_left _ hx, hx2⟩

theorem memF_cut {L : List FE} {k : Nat} (hk : k < L.length) (e : FE) : e ∈ L ↔ e ∈ L.take k ++ L.drop (k + 1) ∨ e = L.getD k fe0 := by
  conv => lhs; rw [cutL L k hk]
  simp only [List.mem_append, List.mem_cons]
  constructor
  · rintro (h | h | h)
    · exact .inl (.inl h)
    · exact .inr h
    · exact .inl (.inr h)
  · rintro ((h | h) | h)
    · exact .inl h
    · exact .inr (.inr h)
    · exact .inr (.inl h)

theorem ndF_cut {L : List FE} {k : Nat} (hk : k < L.length) (nd : (L.map (·.f)).Nodup) : ((L.take k ++ L.drop (k + 1)).map (·.f)).Nodup ∧ ∀ e ∈ L.take k ++ L.drop (k + 1), e.f ≠ (L.getD k fe0).f := by
  rw [cutL L k hk, List.map_append, List.map_cons, List.nodup_append, List.nodup_cons] at nd
  obtain ⟨n1, ⟨n2, n3⟩, n4⟩ := nd
  generalize L.getD k fe0 = x at *
  constructor
  · rw [List.map_append, List.nodup_append]
    exact ⟨n1, n3, fun a ha b hb => n4 a ha b (List.mem_cons_of_mem _ hb)⟩
  · intro e he e2
    rcases List.mem_append.1 he with he | he
    · exact n4 e.f (List.mem_map.2 ⟨e, he, rfl⟩) x.f (by simp) e2
    · exact n2 (List.mem_map.2 ⟨e, he, e2⟩)

theorem RF.give {s : PS} {r : RS} (h : RF s r) {q k : Nat} (hq : s.al q = true) (hk : k < r.L.length) (he : (r.L.getD k fe0).f = q) : RF (s.give q) (r.give k q) where
  pi := (h.pi.give hq).1
  room := h.room
  page := h.page
  len := by
    have := (h.pi.give hq).2
    show (r.L.take k ++ r.L.drop (k + 1)).length = s.fresh - (s.rel ++ [q]).length
    have := h.len
    rw [List.length_append, List.length_take, List.length_drop, List.length_append, List.length_singleton]; omega
  back := by show r.back ++ [q] = s.rel ++ [q]; rw [h.back]
  never := h.never
  high := h.high
  times := h.times
  nd := (ndF_cut hk h.nd).1
  has := fun e hm => by
    obtain ⟨h1, h2⟩ := h.has e ((memF_cut hk e).2 (.inl hm))
    refine ⟨?_, h2⟩
    show (if e.f = q then false else s.al e.f) = true
    rw [if_neg (by rw [← he]; exact (ndF_cut hk h.nd).2 e hm)]
    exact h1
  all := fun j hj => by
    have hj' : (if j = q then false else s.al j) = true := hj
    by_cases e : j = q
    · rw [if_pos e] at hj'; cases hj'
    · rw [if_neg e] at hj'
      obtain ⟨x, hx, hx2⟩ := h.all j hj'
      rcases (memF_cut hk x).1 hx with g | g
      · exact ⟨x, g, hx2⟩
      · rw [g, he] at hx2; exact absurd hx2.symm e

theorem setF (L : List FE) (k : Nat) (x : FE) (hk : k < L.length) : L.set k x = L.take k ++ x :: L.drop (k + 1) := by
  rw [List.set_eq_take_append_cons_drop, if_pos hk]

theorem RF.put {s : PS} {r : RS} (h : RF s r) {q k : Nat} (j : Nat) (u : Int) (hk : k < r.L.length) (he : (r.L.getD k fe0).f = q) (hj : j < s.page) : RF (s.store q j u) (r.put k j u) where
  pi := h.pi.store _ _ _
  room := h.room
  page := h.page
  len := by show (r.L.set k _).length = _; rw [List.length_set]; exact h.len
  back := h.back
  never := h.never
  high := h.high
  times := h.times
  nd := by
    show ((r.L.set k ((r.L.getD k fe0).put j u)).map (·.f)).Nodup
    have := h.nd
    rw [cutL r.L k hk] at this
    rw [setF _ _ _ hk]
    simpa [FE.put] using this
  has := fun e hm => by
    have hm' : e ∈ r.L.set k ((r.L.getD k fe0).put j u) := hm
    rw [setF _ _ _ hk] at hm'
    show s.al e.f = true ∧ ∀ i, i < s.page → e.g i = if e.f * s.page + i = q * s.page + j then u else s.ws (e.f * s.page + i)
    have hm2 : e ∈ r.L.take k ++ r.L.drop (k + 1) ∨ e = (r.L.getD k fe0).put j u := by
      rcases List.mem_append.1 hm' with g | g
      · exact .inl (List.mem_append_left _ g)
      · rcases List.mem_cons.1 g with g | g
        · exact .inr g
        · exact .inl (List.mem_append_right _ g)
    rcases hm2 with g | g
    · obtain ⟨h1, h2⟩ := h.has e ((memF_cut hk e).2 (.inl g))
      refine ⟨h1, fun i hi => ?_⟩
      have ne := (ndF_cut hk h.nd).2 e g
      rw [he] at ne
      have := page_apart q e.f s.page i (fun e2 => ne e2.symm) hi
      rw [if_neg (by omega)]
      exact h2 i hi
    · obtain ⟨h1, h2⟩ := h.has _ (getD_memF hk)
      subst g
      refine ⟨h1, fun i hi => ?_⟩
      show (if i = j then u else (r.L.getD k fe0).g i) = if (r.L.getD k fe0).f * s.page + i = q * s.page + j then u else s.ws ((r.L.getD k fe0).f * s.page + i)
      rw [he] at h2 ⊢
      by_cases e : i = j
      · rw [if_pos e, if_pos (by rw [e])]
      · rw [if_neg e, if_neg (by omega)]; exact h2 i hi
  all := fun i hi => by
    obtain ⟨x, hx, hx2⟩ := h.all i hi
    show ∃ e ∈ r.L.set k ((r.L.getD k fe0).put j u), e.f = i
    rw [setF _ _ _ hk]
    rcases (memF_cut hk x).1 hx with g | g
    · refine ⟨x, ?_, hx2⟩
      rcases List.mem_append.1 g with g | g
      · exact List.mem_append_left _ g
      · exact List.mem_append_right _ (List.mem_cons_of_mem _ g)
    · exact ⟨_, List.mem_append_right _ (List.mem_cons_self), by rw [g] at hx2; exact hx2⟩

theorem pf_take {s : PS} {r : RS} (h : RF s r) (c d : Nat) : ∃ (f e : Int) (s' : PS) (R : Nat → RS), (∀ b, RF s' (R b)) ∧ s'.room = s.room ∧ s'.page = s.page ∧ Tri1 Try.prog 11 #[.pointer (some ⟨c, 0, none⟩)] (poolA c s) (.tuple #[.int .i64 f, .int .i64 e]) (poolA c s') ∧
    Tri Try.prog 12 #[.pointer (some ⟨d, 0, none⟩)] (rpA d r) (fun _ : Nat => .tuple #[.int .i64 f, .int .i64 e]) (fun b => rpA d (R b)) := by
  have hr := h.pi.ok.r2
  have hp := h.pi.ok.p2
  have hp1 := h.pi.ok.p1
  have hfr := h.pi.ok.fr
  have hrl := h.pi.ok.rl
  rcases h.pi.take c with ⟨e1, e2, T⟩ | ⟨hlt, f, s1, t, T⟩
  · refine ⟨0, 14, s, fun _ => r, fun _ => h, rfl, rfl, T.tri, ?_⟩
    have hL : r.L.length = r.room := by rw [h.len, h.room, e1, e2]; simp
    intro w S hw
    exact ((At.refl hw).tri0 (rp_take_full hL (by rw [h.room]; exact hr)).tri).mono fun _ _ ⟨a, b⟩ => ⟨0, a, b⟩
  · have hL : r.L.length < r.room := by rw [h.len, h.room]; exact hlt
    have g1 : r.room ≤ 4096 := by rw [h.room]; exact hr
    have g2 : r.page ≤ 256 := by rw [h.page]; exact hp
    have g3 : 1 ≤ r.page := by rw [h.page]; exact hp1
    have g4 : r.never ≤ 1000000 := by rw [h.never]; omega
    rcases t.mode with ⟨m1, m2, m3, m4⟩ | ⟨m1, m2⟩
    · have T2 := rp_take_fresh (c := d) (r := r) (by rw [h.back, m1]) hL g1 g2 g3 g4
      rw [h.never, ← m2] at T2
      exact ⟨f, 0, s1, fun b => r.took f b (f + 1), fun b => h.took t b ⟨rfl, rfl, rfl, rfl, rfl⟩ (by rw [h.back, m1, m3]) (by rw [m4, m2]), t.room, t.page, T, T2⟩
    · have T2 := rp_take_rel (c := d) (r := r) (ys := s1.rel) (z := f) (by rw [h.back, m1]) hL g1 g2 g3 (by
        have : s.rel.length = s1.rel.length + 1 := by rw [m1]; simp
        omega)
      exact ⟨f, 0, s1, fun b => ({ r with back := s1.rel } : RS).took f b r.never, fun b => h.took t b ⟨rfl, rfl, rfl, rfl, rfl⟩ rfl (by rw [h.never, m2]), t.room, t.page, T, T2⟩

theorem pf_give {s : PS} {r : RS} (h : RF s r) (q : Int) (c d : Nat) : ∃ (e : Int) (s' : PS) (r' : RS), RF s' r' ∧ s'.room = s.room ∧ s'.page = s.page ∧ Tri1 Try.prog 13 #[.pointer (some ⟨c, 0, none⟩), .int .i64 q] (poolA c s) (.int .i64 e) (poolA c s') ∧
    Tri1 Try.prog 14 #[.pointer (some ⟨d, 0, none⟩), .int .i64 q] (rpA d r) (.int .i64 e) (rpA d r') := by
  have hl := h.lenb
  have hfr := h.pi.ok.fr
  have hr := h.pi.ok.r2
  have hrl := h.pi.ok.rl
  by_cases hq : q < 0 ∨ (s.room : Int) ≤ q ∨ s.al q.toNat = false
  · exact ⟨6, s, r, h, rfl, rfl, (fm_give_bad h.pi.ok q hq).tri, (rp_give_bad (by omega) q (h.fixn q hq)).tri⟩
  · obtain ⟨k, rfl⟩ := Int.eq_ofNat_of_zero_le (show 0 ≤ q by omega)
    have hal : s.al k = true := by
      have : ¬ s.al k = false := fun e => hq (.inr (.inr (by simpa using e)))
      simpa using this
    obtain ⟨i, e1, e2, e3⟩ := h.fixs k hal
    exact ⟨0, _, _, h.give hal e2 e3, rfl, rfl, fm_give_ok h.pi.ok k (by omega) hal, rp_give_ok (by omega) (by rw [h.back]; omega) k i e1 e2⟩

theorem pf_store {s : PS} {r : RS} (h : RF s r) (q j u : Int) (c d : Nat) : ∃ (e : Int) (s' : PS) (r' : RS), RF s' r' ∧ s'.room = s.room ∧ s'.page = s.page ∧ Tri1 Try.prog 15 #[.pointer (some ⟨c, 0, none⟩), .int .i64 q, .int .i64 j, .int .u64 u] (poolA c s) (.int .i64 e) (poolA c s') ∧
    Tri1 Try.prog 16 #[.pointer (some ⟨d, 0, none⟩), .int .i64 q, .int .i64 j, .int .u64 u] (rpA d r) (.int .i64 e) (rpA d r') := by
  have hl := h.lenb
  have hp := h.page
  by_cases hq : q < 0 ∨ (s.room : Int) ≤ q ∨ s.al q.toNat = false
  · exact ⟨6, s, r, h, rfl, rfl, (fm_store_none h.pi.ok q j u hq).tri, (rp_store_none (by omega) q j u (h.fixn q hq)).tri⟩
  · obtain ⟨k, rfl⟩ := Int.eq_ofNat_of_zero_le (show 0 ≤ q by omega)
    have hal : s.al k = true := by
      have : ¬ s.al k = false := fun e => hq (.inr (.inr (by simpa using e)))
      simpa using this
    obtain ⟨i, e1, e2, e3⟩ := h.fixs k hal
    by_cases hj : j < 0 ∨ (s.page : Int) ≤ j
    · exact ⟨11, s, r, h, rfl, rfl, (fm_store_range h.pi.ok k j u (by omega) hal hj).tri, (rp_store_range (by omega) k j u i e1 (by rw [hp]; exact hj)).tri⟩
    · obtain ⟨m, rfl⟩ := Int.eq_ofNat_of_zero_le (show 0 ≤ j by omega)
      exact ⟨0, _, _, h.put m u e2 e3 (by omega), rfl, rfl, fm_store_ok h.pi.ok k m (by omega) hal (by omega) u, rp_store_ok (by omega) (by rw [hp]; exact h.pi.ok.p2) k m i u e1 e2 (by rw [hp]; omega)⟩

theorem pf_load {s : PS} {r : RS} (h : RF s r) (q j : Int) (c d : Nat) : ∃ (v e : Int), Look Try.prog 17 #[.pointer (some ⟨c, 0, none⟩), .int .i64 q, .int .i64 j] (poolA c s) (.tuple #[.int .u64 v, .int .i64 e]) ∧
    Ask Try.prog 18 #[.pointer (some ⟨d, 0, none⟩), .int .i64 q, .int .i64 j] (rpA d r) (.tuple #[.int .u64 v, .int .i64 e]) := by
  have hl := h.lenb
  have hp := h.page
  by_cases hq : q < 0 ∨ (s.room : Int) ≤ q ∨ s.al q.toNat = false
  · exact ⟨0, 6, (fm_load_none h.pi.ok q j hq).look, rp_load_none (by omega) q j (h.fixn q hq)⟩
  · obtain ⟨k, rfl⟩ := Int.eq_ofNat_of_zero_le (show 0 ≤ q by omega)
    have hal : s.al k = true := by
      have : ¬ s.al k = false := fun e => hq (.inr (.inr (by simpa using e)))
      simpa using this
    obtain ⟨i, e1, e2, e3⟩ := h.fixs k hal
    by_cases hj : j < 0 ∨ (s.page : Int) ≤ j
    · exact ⟨0, 11, (fm_load_range h.pi.ok k j (by omega) hal hj).look, rp_load_range (by omega) k j i e1 (by rw [hp]; exact hj)⟩
    · obtain ⟨m, rfl⟩ := Int.eq_ofNat_of_zero_le (show 0 ≤ j by omega)
      have L := rp_load_ok (c := d) (r := r) (by omega) (by rw [hp]; exact h.pi.ok.p2) k m i e1 e2 (by rw [hp]; omega)
      have e4 : (r.L.getD i fe0).g m = s.ws (k * s.page + m) := by
        rw [(h.has _ (getD_memF e2)).2 m (by omega), e3]
      rw [e4] at L
      exact ⟨_, 0, fm_load_ok h.pi.ok k m (by omega) hal (by omega), L⟩

end Go.Proofs.Ytpdnbkibnpkfbad
