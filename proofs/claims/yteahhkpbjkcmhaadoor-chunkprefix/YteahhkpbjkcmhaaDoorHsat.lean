/- Points' bits, read strictly: point by point. -/
import Derived.Test.YteahhkpbjkcmhaaDoorMh
import Derived.Test.YteahhkpbjkcmhaaDoorHdec
namespace Go.Proofs.YteahhkpbjkcmhaaDoor
set_option linter.unusedVariables false

theorem wrap_spec (x : Int) : ∃ k : Int, IntKind.i64.wrap x = x + 18446744073709551616 * k ∧ -9223372036854775808 ≤ IntKind.i64.wrap x ∧ IntKind.i64.wrap x ≤ 9223372036854775807 := by
  refine ⟨(IntKind.i64.wrap x - x) / 18446744073709551616, ?_⟩
  rw [IntKind.wrap_i64]
  omega
theorem xorI_back2 {v x : Int} (hv : 0 ≤ v) (hx : 0 ≤ x) : xorI (xorI v x) v = x := by
  unfold xorI
  rw [Int.toNat_natCast, Nat.xor_comm v.toNat, Nat.xor_assoc, Nat.xor_self, Nat.xor_zero]
  omega
theorem okL_split : ∀ {ps rest : List Pt} {t0 t v : Int}, okL t0 (ps ++ rest) → ps.getLast? = some (t, v) → okT t ∧ okV v ∧ okL t rest
  | [], _, _, _, _, _, h => by simp at h
  | [q], rest, t0, t, v, ho, h => by
    simp only [List.getLast?_singleton, Option.some.injEq] at h
    subst h
    exact ⟨ho.2.1, ho.2.2.1, ho.2.2.2⟩
  | q :: q2 :: r, rest, t0, t, v, ho, h => by
    rw [List.getLast?_cons_cons] at h
    exact okL_split (ps := q2 :: r) ho.2.2.2 h
theorem okP_split {ps rest : List Pt} {t v : Int} (ho : okP (ps ++ rest)) (h : ps.getLast? = some (t, v)) : okT t ∧ okV v ∧ okL t rest := by
  match ps, ho, h with
  | [], _, h => simp at h
  | [q], ho, h =>
    simp only [List.getLast?_singleton, Option.some.injEq] at h
    subst h
    exact ho
  | q :: q2 :: r, ho, h =>
    rw [List.getLast?_cons_cons] at h
    exact okL_split (ps := q2 :: r) (t0 := q.1) ho.2.2 h
def dist (d : Int) : Prop := -9223372036854 ≤ d ∧ d ≤ 9223372036854
/-- What is read so far, and what is left. -/
def SAt (zs : List Int) (n : Int) (ps : List Pt) (st : Option (List Bool)) (t v d a b : Int) : Prop :=
  match st with
  | none => ∀ qs r, okP qs → qs.length ≤ 8191 → unpack zs ≠ encP qs ++ r
  | some l => ps.getLast? = some (t, v) ∧ (∀ rest, okP (ps ++ rest) → dist d) ∧ ∀ qs r, okP qs → qs.length ≤ 8191 → (unpack zs = encP qs ++ r ↔ (qs.length : Int) = n ∧ ∃ rest, qs = ps ++ rest ∧ l = encL t v d a b rest ++ r)
theorem encZ_inj {z z' : Int} {r r' : List Bool} (hz : rngZ z) (hz' : rngZ z') (h : encZ z ++ r = encZ z' ++ r') : z = z' ∧ r = r' := by
  have h1 := decZ_enc z r hz
  rw [h, decZ_enc z' r' hz'] at h1
  simp only [Option.some.injEq, Prod.mk.injEq] at h1
  exact ⟨h1.1.symm, h1.2.symm⟩
theorem encV_inj {a b pa pb x x' : Int} {r r' : List Bool} (hw : WinP a b pa pb) (hx : okV x) (hx' : okV x') (h : (encV a b x).1 ++ r = (encV a b x').1 ++ r') : x = x' ∧ r = r' := by
  obtain ⟨A, w, h1⟩ := chg_dec hw hx rfl (r := r)
  obtain ⟨A', w', h2⟩ := chg_dec hw hx' h (r := r')
  rw [h1] at h2
  simp only [Option.some.injEq, Prod.mk.injEq] at h2
  exact ⟨h2.1.1, h2.2⟩
theorem rest_pos {ps rest qs : List Pt} {n : Int} (h1 : (qs.length : Int) = n) (h2 : qs = ps ++ rest) (hn : (ps.length : Int) < n) : ∃ q r, rest = q :: r := by
  cases rest with
  | nil => rw [h2, List.append_nil] at h1; omega
  | cons q r => exact ⟨q, r, rfl⟩
theorem SAt.bad {zs : List Int} {n t v d a b : Int} {ps : List Pt} {l : List Bool} (h : SAt zs n ps (some l) t v d a b) (hn : (ps.length : Int) < n) (hb : ∀ z' r, rngZ z' → l ≠ encZ z' ++ r) : ∀ qs r, okP qs → qs.length ≤ 8191 → unpack zs ≠ encP qs ++ r := by
  obtain ⟨hlast, hd, hall⟩ := h
  intro qs r ho hl e
  obtain ⟨h1, rest, h2, h3⟩ := (hall qs r ho hl).1 e
  obtain ⟨q, r', rfl⟩ := rest_pos h1 h2 hn
  rw [h2] at ho
  obtain ⟨k1, k2, k3⟩ := okP_split ho hlast
  obtain ⟨d1, d2⟩ := hd _ ho
  obtain ⟨m1, m2, m3, m4⟩ := k3
  obtain ⟨k4, k5⟩ := k1
  obtain ⟨m5, m6⟩ := m2
  simp only [encL, List.append_assoc] at h3
  exact hb (q.1 - t - d) _ (by constructor <;> omega) h3
theorem SAt.bad2 {zs : List Int} {n t v d a b z : Int} {ps : List Pt} {l l1 : List Bool} (h : SAt zs n ps (some l) t v d a b) (hn : (ps.length : Int) < n) (hz : rngZ z) (e : l = encZ z ++ l1) (hb : ∀ x' r, okV x' → l1 ≠ (encV a b x').1 ++ r) : ∀ qs r, okP qs → qs.length ≤ 8191 → unpack zs ≠ encP qs ++ r := by
  obtain ⟨hlast, hd, hall⟩ := h
  intro qs r ho hl e0
  obtain ⟨h1, rest, h2, h3⟩ := (hall qs r ho hl).1 e0
  obtain ⟨q, r', rfl⟩ := rest_pos h1 h2 hn
  rw [h2] at ho
  obtain ⟨k1, k2, k3⟩ := okP_split ho hlast
  obtain ⟨d1, d2⟩ := hd _ ho
  obtain ⟨m1, m2, m3, m4⟩ := k3
  obtain ⟨k4, k5⟩ := k1
  obtain ⟨m5, m6⟩ := m2
  simp only [encL, List.append_assoc] at h3
  rw [e] at h3
  obtain ⟨_, h4⟩ := encZ_inj hz (by constructor <;> omega) h3
  exact hb _ _ (xorI_bd m3 k2) h4
theorem SAt.more {zs : List Int} {n t v d a b z x pa pb : Int} {ps : List Pt} {l l1 l2 : List Bool} (h : SAt zs n ps (some l) t v d a b) (hn : (ps.length : Int) < n) (hw : WinP a b pa pb) (hz : rngZ z) (hx : okV x) (hv : okV v) (e1 : l = encZ z ++ l1) (e2 : l1 = (encV a b x).1 ++ l2) :
    SAt zs n (ps ++ [(IntKind.i64.wrap (t + IntKind.i64.wrap (d + z)), xorI v x)]) (some l2) (IntKind.i64.wrap (t + IntKind.i64.wrap (d + z))) (xorI v x) (IntKind.i64.wrap (d + z)) (encV a b x).2.1 (encV a b x).2.2 := by
  obtain ⟨hlast, hd, hall⟩ := h
  obtain ⟨k1, w1, w2, w3⟩ := wrap_spec (d + z)
  generalize IntKind.i64.wrap (d + z) = d' at *
  obtain ⟨k2, w4, w5, w6⟩ := wrap_spec (t + d')
  generalize IntKind.i64.wrap (t + d') = t' at *
  obtain ⟨hz1, hz2⟩ := hz
  have hz : rngZ z := ⟨hz1, hz2⟩
  have step : ∀ rest, okP (ps ++ [(t', xorI v x)] ++ rest) → d' = t' - t ∧ dist d' ∧ t' - t - d = z := by
    intro rest ho
    rw [List.append_assoc] at ho
    obtain ⟨m1, m2, m3⟩ := okP_split ho hlast
    obtain ⟨d1, d2⟩ := hd _ ho
    have m5 : okT t' := m3.2.1
    obtain ⟨a1, a2⟩ := m1
    obtain ⟨a3, a4⟩ := m5
    have : d' = t' - t := by omega
    exact ⟨this, by unfold dist; omega, by omega⟩
  refine ⟨by simp, fun rest ho => (step rest ho).2.1, fun qs r ho hl => ?_⟩
  rw [hall qs r ho hl]
  constructor
  · rintro ⟨h1, rest, h2, h3⟩
    obtain ⟨q, r', rfl⟩ := rest_pos h1 h2 hn
    have ho' := ho
    rw [h2] at ho'
    obtain ⟨m1, m2, m3⟩ := okP_split ho' hlast
    obtain ⟨d1, d2⟩ := hd _ ho'
    obtain ⟨a1, a2⟩ := m1
    obtain ⟨a3, a4⟩ := m3.2.1
    have m6 := m3.2.2.1
    simp only [encL, List.append_assoc] at h3
    rw [e1] at h3
    obtain ⟨h4, h5⟩ := encZ_inj hz (by constructor <;> omega) h3
    rw [e2] at h5
    obtain ⟨h6, h7⟩ := encV_inj hw hx (xorI_bd m6 m2) h5
    have hq1 : q.1 = t' := by omega
    have hq2 : q.2 = xorI v x := by rw [h6]; exact (xorI_back m2.1 m6.1).symm
    have hq3 : q.1 - t = d' := by omega
    refine ⟨h1, r', ?_, ?_⟩
    · rw [h2, List.append_assoc]
      congr 1
      show q :: r' = (t', xorI v x) :: r'
      rw [← hq1, ← hq2]
    · rw [h7, hq1, ← h6, ← hq2]
      rw [hq1] at hq3
      rw [hq3]
  · rintro ⟨h1, rest, h2, h3⟩
    have ho' := ho
    rw [h2] at ho'
    obtain ⟨s1, s2, s3⟩ := step rest ho'
    refine ⟨h1, (t', xorI v x) :: rest, by rw [h2, List.append_assoc]; rfl, ?_⟩
    simp only [encL, List.append_assoc]
    rw [e1, e2, h3, s3, xorI_back2 hv.1 hx.1, ← s1]
end Go.Proofs.YteahhkpbjkcmhaaDoor
