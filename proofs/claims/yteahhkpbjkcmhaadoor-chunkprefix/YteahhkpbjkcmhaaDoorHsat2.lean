/- Points' bits, read strictly: the beginning and the end. -/
import Derived.Test.YteahhkpbjkcmhaaDoorHsat
import Derived.Test.YteahhkpbjkcmhaaDoorDwr
namespace Go.Proofs.YteahhkpbjkcmhaaDoor
set_option linter.unusedVariables false

theorem sh_ok {u a w : Int} (h0 : 0 ≤ u) (h1 : u < 2 ^ w.toNat) (ha : 0 ≤ a) (hw : 0 ≤ w) (h : ¬ a + w > 64) : okV (u * 2 ^ (64 - a - w).toNat) := by
  have hp := pow2_pos (64 - a - w).toNat
  have h2 := Int.mul_lt_mul_of_pos_right h1 hp
  rw [← Int.pow_add] at h2
  have h3 : (2 : Int) ^ (w.toNat + (64 - a - w).toNat) ≤ 2 ^ 64 := pow2_le (by omega)
  exact ⟨Int.mul_nonneg h0 (Int.le_of_lt hp), Int.lt_of_lt_of_le h2 h3⟩
theorem decV_ok {a w : Int} {l r : List Bool} {x a' w' : Int} (h : decV a w l = some ((x, a', w'), r)) (ha : 0 ≤ a) (hw : 0 ≤ w) : okV x ∧ 0 ≤ a' ∧ 0 ≤ w' := by
  match l, h with
  | false :: r', h =>
    simp only [decV, Option.some.injEq, Prod.mk.injEq] at h
    obtain ⟨⟨rfl, rfl, rfl⟩, rfl⟩ := h
    exact ⟨⟨by decide, by decide⟩, ha, hw⟩
  | true :: false :: r', h =>
    simp only [decV] at h
    split at h
    · cases h
    · rename_i hc
      cases hg : Go.Proofs.YteahhkpbjkcmhaaDoor.get w.toNat r' with
      | none => rw [hg] at h; cases h
      | some q =>
        rw [hg, Option.map_some] at h
        simp only [Option.some.injEq, Prod.mk.injEq] at h
        obtain ⟨⟨rfl, rfl, rfl⟩, rfl⟩ := h
        obtain ⟨_, b0, b1⟩ := get_back hg
        exact ⟨sh_ok b0 b1 ha hw hc, ha, hw⟩
  | true :: true :: r', h =>
    simp only [decV] at h
    obtain ⟨q, hq, h⟩ := Option.bind_eq_some_iff.1 h
    obtain ⟨s, hs, h⟩ := Option.bind_eq_some_iff.1 h
    split at h
    · cases h
    · rename_i hc
      obtain ⟨_, a0, _⟩ := get_back (v := q.1) (r := q.2) hq
      obtain ⟨_, c0, _⟩ := get_back (v := s.1) (r := s.2) hs
      cases hg : Go.Proofs.YteahhkpbjkcmhaaDoor.get (s.1 + 1).toNat s.2 with
      | none => rw [hg] at h; cases h
      | some u =>
        rw [hg, Option.map_some] at h
        simp only [Option.some.injEq, Prod.mk.injEq] at h
        obtain ⟨⟨rfl, rfl, rfl⟩, rfl⟩ := h
        obtain ⟨_, b0, b1⟩ := get_back hg
        exact ⟨sh_ok b0 b1 a0 (by omega) hc, a0, by omega⟩
  | [], h => cases h
  | [true], h => cases h
theorem decL_ok : ∀ {n : Nat} {t v d a w : Int} {l : List Bool} {ps : List Pt} {r : List Bool}, decL n t v d a w l = some (ps, r) → okV v → 0 ≤ a → 0 ≤ w → (∀ q ∈ ps, okV q.2) ∧ ps.length = n
  | 0, t, v, d, a, w, l, ps, r, h, hv, ha, hw => by
    simp only [decL, Option.some.injEq, Prod.mk.injEq] at h
    obtain ⟨rfl, rfl⟩ := h
    exact ⟨(fun q hq => by cases hq), rfl⟩
  | n + 1, t, v, d, a, w, l, ps, r, h, hv, ha, hw => by
    simp only [decL] at h
    obtain ⟨z, hz, h⟩ := Option.bind_eq_some_iff.1 h
    obtain ⟨x, hx, h⟩ := Option.bind_eq_some_iff.1 h
    obtain ⟨u, hu, h⟩ := Option.map_eq_some_iff.1 h
    simp only [Prod.mk.injEq] at h
    obtain ⟨rfl, rfl⟩ := h
    obtain ⟨k1, k2, k3⟩ := decV_ok (x := x.1.1) (a' := x.1.2.1) (w' := x.1.2.2) (r := x.2) hx ha hw
    have hv2 := xorI_bd hv k1
    obtain ⟨i1, i2⟩ := decL_ok (ps := u.1) (r := u.2) hu hv2 k2 k3
    refine ⟨fun q hq => ?_, by simp [i2]⟩
    rcases List.mem_cons.1 hq with rfl | hq
    · exact hv2
    · exact i1 q hq
theorem decR_ok {zs : List Int} {qs : List Pt} (h : decR zs = some qs) : okP qs ∧ okTimes qs = true ∧ qs.length ≤ 8191 ∧ pack (encP qs) = zs := by
  obtain ⟨h1, h2, r, h3⟩ := dec_strict h
  have hv : (∀ q ∈ qs, okV q.2) ∧ qs.length ≤ 8191 := by
    unfold decP at h3
    obtain ⟨n, hn, h3⟩ := Option.bind_eq_some_iff.1 h3
    obtain ⟨_, n0, n1⟩ := get_back (v := n.1) (r := n.2) hn
    have n1 : n.1 < 8192 := n1
    split at h3
    · simp only [Option.some.injEq, Prod.mk.injEq] at h3
      obtain ⟨rfl, _⟩ := h3
      exact ⟨(fun q hq => by cases hq), by simp⟩
    · obtain ⟨t, ht, h3⟩ := Option.bind_eq_some_iff.1 h3
      obtain ⟨v, hv, h3⟩ := Option.bind_eq_some_iff.1 h3
      obtain ⟨u, hu, h3⟩ := Option.map_eq_some_iff.1 h3
      simp only [Prod.mk.injEq] at h3
      obtain ⟨rfl, _⟩ := h3
      obtain ⟨_, v0, v1⟩ := get_back (v := v.1) (r := v.2) hv
      obtain ⟨i1, i2⟩ := decL_ok (ps := u.1) (r := u.2) hu ⟨v0, v1⟩ (by omega) (by omega)
      refine ⟨fun q hq => ?_, by rw [List.length_cons, i2]; omega⟩
      rcases List.mem_cons.1 hq with rfl | hq
      · exact ⟨v0, v1⟩
      · exact i1 q hq
  exact ⟨okP_of h1 hv.1, h1, hv.2, h2⟩
/-- All is read: the points are ps, l is left. -/
def EndsAt (zs : List Int) (ps : List Pt) (l : List Bool) : Prop := ∀ qs r, okP qs → qs.length ≤ 8191 → (unpack zs = encP qs ++ r ↔ qs = ps ∧ l = r)
def Nowhere (zs : List Int) : Prop := ∀ qs r, okP qs → qs.length ≤ 8191 → unpack zs ≠ encP qs ++ r
theorem Nowhere.dec {zs : List Int} (h : Nowhere zs) : decR zs = none := by
  cases hd : decR zs with
  | none => rfl
  | some qs =>
    obtain ⟨h1, h2, h3, h4⟩ := decR_ok hd
    have e := unpack_pack (encP qs)
    rw [h4] at e
    exact absurd e (h qs _ h1 h3)
theorem EndsAt.dec {zs : List Int} {ps : List Pt} {l : List Bool} {m : Nat} (h : EndsAt zs ps l) (hv : ∀ q ∈ ps, okV q.2) (hl : ps.length ≤ 8191) (hb : ∀ z ∈ zs, 0 ≤ z ∧ z ≤ 255) (hm : l = (unpack zs).drop m) (hm2 : m ≤ 8 * zs.length) :
    decR zs = if okTimes ps = true ∧ wholeB zs m = true then some ps else none := by
  have hll : l.length = 8 * zs.length - m := by rw [hm, List.length_drop, unpack_len]
  by_cases hc : okTimes ps = true ∧ wholeB zs m = true
  · rw [if_pos hc]
    obtain ⟨ht, hw⟩ := hc
    have e := (h ps l (okP_of ht hv) hl).2 ⟨rfl, rfl⟩
    have hlen : (encP ps).length = m := by
      have := congrArg List.length e
      rw [unpack_len, List.length_append, hll] at this
      omega
    have hL := (wholeB_n hw).2.1
    have hz : zs = pack (encP ps) := by
      refine eq_of_bits _ _ hb (pack_byte _) (by rw [pack_len, hlen]; omega) fun i hi => ?_
      rw [pack_bit]
      by_cases him : i < m
      · have h1 := unpack_bit zs i (by omega)
        rw [e, List.getElem?_append_left (by omega)] at h1
        rw [List.getD_eq_getElem?_getD, h1, Option.getD_some]
        have h01 : bitOf zs i = 0 ∨ bitOf zs i = 1 := by unfold bitOf; omega
        unfold b2i
        rcases h01 with h | h <;> rw [h] <;> simp
      · rw [whole_clear hw i (by omega), List.getD_eq_getElem?_getD, List.getElem?_eq_none (by omega)]
        rfl
    rw [hz]
    exact dec_back ht hv hl
  · rw [if_neg hc]
    cases hd : decR zs with
    | none => rfl
    | some qs =>
      obtain ⟨h1, h2, h3, h4⟩ := decR_ok hd
      have e := unpack_pack (encP qs)
      rw [h4] at e
      obtain ⟨rfl, h6⟩ := (h qs _ h1 h3).1 e
      have hlen : (encP qs).length = m := by
        have := congrArg List.length e
        rw [unpack_len, List.length_append, ← h6, hll] at this
        omega
      refine absurd ⟨h2, ?_⟩ hc
      rw [← h4, ← hlen]
      exact wholeB_pack _
theorem SAt.ends {zs : List Int} {n t v d a b : Int} {ps : List Pt} {l : List Bool} (h : SAt zs n ps (some l) t v d a b) (hn : (ps.length : Int) = n) : EndsAt zs ps l := by
  obtain ⟨_, _, hall⟩ := h
  intro qs r ho hl
  rw [hall qs r ho hl]
  constructor
  · rintro ⟨h1, rest, h2, h3⟩
    have : rest = [] := by
      refine List.eq_nil_of_length_eq_zero ?_
      have := congrArg List.length h2
      rw [List.length_append] at this
      omega
    subst this
    exact ⟨by rw [h2, List.append_nil], by rw [h3]; rfl⟩
  · rintro ⟨rfl, rfl⟩
    exact ⟨hn, [], by simp, rfl⟩
theorem encP_get (qs : List Pt) (r : List Bool) (hl : qs.length ≤ 8191) : ∃ l, get 13 (encP qs ++ r) = some ((qs.length : Int), l) ∧ (qs = [] → l = r) ∧ ∀ q r', qs = q :: r' → l = bitsI 64 q.1 ++ (bitsI 64 q.2 ++ (encL q.1 q.2 0 (-1) 0 r' ++ r)) := by
  cases qs with
  | nil => exact ⟨r, by rw [encP, get_bits]; rfl, fun _ => rfl, fun q r' h => by cases h⟩
  | cons q r' =>
    refine ⟨bitsI 64 q.1 ++ (bitsI 64 q.2 ++ (encL q.1 q.2 0 (-1) 0 r' ++ r)), ?_, (fun h => by cases h), fun q2 r2 h => by cases h; rfl⟩
    simp only [encP, List.append_assoc]
    rw [get_bits]
    have e : ((r'.length : Int) + 1) % 2 ^ 13 = ((q :: r').length : Int) := by
      rw [List.length_cons] at hl ⊢
      have e13 : (2 : Int) ^ 13 = 8192 := rfl
      rw [e13]
      omega
    rw [e]
theorem no_count {zs : List Int} (h : get 13 (unpack zs) = none) : Nowhere zs := by
  intro qs r ho hl e
  obtain ⟨l, h1, _⟩ := encP_get qs r hl
  rw [e, h1] at h
  cases h
theorem zero_count {zs : List Int} {l0 : List Bool} (h : get 13 (unpack zs) = some (0, l0)) : EndsAt zs [] l0 := by
  intro qs r ho hl
  constructor
  · intro e
    obtain ⟨l, h1, h2, h3⟩ := encP_get qs r hl
    rw [e, h1] at h
    simp only [Option.some.injEq, Prod.mk.injEq] at h
    have : qs = [] := List.eq_nil_of_length_eq_zero (by omega)
    exact ⟨this, by rw [← h.2, h2 this]⟩
  · rintro ⟨rfl, rfl⟩
    obtain ⟨e, _, _⟩ := get_back h
    rw [e]
    rfl
theorem no_point {zs : List Int} {n : Int} {l0 : List Bool} (h : get 13 (unpack zs) = some (n, l0)) (hn : n ≠ 0) (h2 : (get 64 l0).bind (fun q => get 64 q.2) = none) : Nowhere zs := by
  intro qs r ho hl e
  obtain ⟨l, h1, _, h3⟩ := encP_get qs r hl
  rw [e, h1] at h
  simp only [Option.some.injEq, Prod.mk.injEq] at h
  cases qs with
  | nil => simp at h; omega
  | cons q r' =>
    rw [← h.2, h3 q r' rfl, get_bits, Option.bind_some, get_bits] at h2
    cases h2
theorem SAt.start {zs : List Int} {n x y : Int} {l0 l1 l2 : List Bool} (h : get 13 (unpack zs) = some (n, l0)) (hn : n ≠ 0) (h1 : get 64 l0 = some (x, l1)) (h2 : get 64 l1 = some (y, l2)) : SAt zs n [(IntKind.i64.wrap x, y)] (some l2) (IntKind.i64.wrap x) y 0 (-1) 0 := by
  obtain ⟨k, w1, w2, w3⟩ := wrap_spec x
  obtain ⟨e0, n0, n1⟩ := get_back h
  obtain ⟨e1, x0, x1⟩ := get_back h1
  obtain ⟨e2, y0, y1⟩ := get_back h2
  have hbx : bitsI 64 (IntKind.i64.wrap x) = bitsI 64 x := by
    rw [w1, ← bitsI_mod, show (x + 18446744073709551616 * k) % 2 ^ 64 = x % 2 ^ 64 by rw [show (18446744073709551616 : Int) = 2 ^ 64 from rfl]; exact Int.add_mul_emod_self_left x (2 ^ 64) k, bitsI_mod]
  generalize IntKind.i64.wrap x = T at *
  have e64 : (2 : Int) ^ 64 = 18446744073709551616 := rfl
  refine ⟨rfl, fun _ _ => ⟨by omega, by omega⟩, fun qs r ho hl => ?_⟩
  constructor
  · intro e
    obtain ⟨l, g1, _, g3⟩ := encP_get qs r hl
    rw [e, g1] at h
    simp only [Option.some.injEq, Prod.mk.injEq] at h
    cases qs with
    | nil => simp at h; omega
    | cons q r' =>
      have g := g3 q r' rfl
      rw [h.2] at g
      rw [g, get_bits] at h1
      simp only [Option.some.injEq, Prod.mk.injEq] at h1
      rw [← h1.2, get_bits] at h2
      simp only [Option.some.injEq, Prod.mk.injEq] at h2
      obtain ⟨o1, o2, o3⟩ := ho
      obtain ⟨o4, o5⟩ := o1
      obtain ⟨o6, o7⟩ := o2
      have hq1 : q.1 = T := by rw [e64] at h1; omega
      have hq2 : q.2 = y := by have := h2.1; rw [e64] at this o7; omega
      refine ⟨h.1, r', ?_, ?_⟩
      · show q :: r' = (T, y) :: r'
        rw [← hq1, ← hq2]
      · rw [← h2.2, hq1, hq2]
  · rintro ⟨g1, rest, rfl, g3⟩
    rw [e0, e1, e2, g3]
    show _ = encP ((T, y) :: rest) ++ r
    simp only [encP, List.append_assoc]
    rw [hbx]
    congr 2
    rw [← g1]
    simp
end Go.Proofs.YteahhkpbjkcmhaaDoor
