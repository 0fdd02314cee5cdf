/- Several texts in one: We, Wf, Wg. -/
import Derived.Test.YtboamjhlaehoaaaGreatNw
import Derived.Test.YtboamjhlaehoaaaGreatNx
import Derived.Test.YtboamjhlaehoaaaGreatMq
/- Rings: the document's Decode, as maths. -/
namespace Go.Proofs.YtboamjhlaehoaaaGreat
open Go.RowKit
set_option linter.unusedVariables false
set_option maxRecDepth 20000

/-- A token, and where the reader stands behind it. -/
def stepD (zs : List Int) (s : Int × Bool) : Int × Int × Bool := ((nxtU zs s).1 % 4294967296, (nxtU zs s).2.1, (nxtU zs s).2.2 || decide (4294967295 < (nxtU zs s).1))
def wordsD (zs : List Int) : Nat → Int → List Int → Int × Bool → List Int × Int × Bool
  | 0, _, ts, s => (ts, s)
  | f + 1, k, ts, s => if 0 < k ∧ s.2 = false then wordsD zs f (k - 1) (ts ++ [(stepD zs s).1]) (stepD zs s).2 else (ts, s)
def memD (zs : List Int) (s : Int × Bool) : Mem × Int × Bool :=
  ((min (nxtU zs s).1 1048576, min (nxtU zs (nxtU zs s).2).1 1048576, (wordsD zs (zs.length + 2) (nxtU zs (nxtU zs (nxtU zs s).2).2).1 [] (nxtU zs (nxtU zs (nxtU zs s).2).2).2).1), (wordsD zs (zs.length + 2) (nxtU zs (nxtU zs (nxtU zs s).2).2).1 [] (nxtU zs (nxtU zs (nxtU zs s).2).2).2).2)
def memsD (zs : List Int) : Nat → Int → List Mem → Int × Bool → List Mem × Int × Bool
  | 0, _, ms, s => (ms, s)
  | f + 1, n, ms, s => if 0 < n ∧ s.2 = false then memsD zs f (n - 1) (ms ++ [(memD zs s).1]) (memD zs s).2 else (ms, s)
/-- Epoch, members, and whether something was bad. -/
def docD (zs : List Int) : Int × List Mem × Bool :=
  ((nxtU zs (0, false)).1, (memsD zs (zs.length + 2) (nxtU zs (nxtU zs (0, false)).2).1 [] (nxtU zs (nxtU zs (0, false)).2).2).1, (memsD zs (zs.length + 2) (nxtU zs (nxtU zs (0, false)).2).1 [] (nxtU zs (nxtU zs (0, false)).2).2).2.2)
theorem wordsD_stop {zs : List Int} {k : Int} {ts : List Int} {s : Int × Bool} (h : ¬ (0 < k ∧ s.2 = false)) : ∀ f, wordsD zs f k ts s = (ts, s)
  | 0 => rfl
  | f + 1 => by unfold wordsD; rw [if_neg h]
theorem memsD_stop {zs : List Int} {k : Int} {ms : List Mem} {s : Int × Bool} (h : ¬ (0 < k ∧ s.2 = false)) : ∀ f, memsD zs f k ms s = (ms, s)
  | 0 => rfl
  | f + 1 => by unfold memsD; rw [if_neg h]
/-- How many numbers may still be read. -/
def mea (L : Nat) (s : Int × Bool) : Nat := if s.2 = true then 0 else ((L : Int) - s.1).toNat + 1
def InP (L : Nat) (s : Int × Bool) : Prop := 0 ≤ s.1 ∧ s.1 ≤ (L : Int)
theorem ud_bad (zs : List Int) (p : Nat) : ∀ (f i : Nat) (v : Int), (ud zs p f i v).2.2 ≠ 0 → (ud zs p f i v).1 = 0 ∧ (ud zs p f i v).2.1 = 0
  | 0, i, v, h => by unfold ud at h; simp at h
  | f + 1, i, v, h => by
    unfold ud at h ⊢
    split
    · exact ⟨rfl, rfl⟩
    · rename_i h1
      rw [if_neg h1] at h
      split
      · exact ⟨rfl, rfl⟩
      · rename_i h2
        rw [if_neg h2] at h
        split
        · rename_i h3
          rw [if_pos h3] at h
          simp at h
        · rename_i h3
          rw [if_neg h3] at h
          exact ud_bad zs p f (i + 1) _ h
theorem uintR_bad (zs : List Int) (p : Int) (h : (uintR zs p).2.2 ≠ 0) : (uintR zs p).1 = 0 ∧ (uintR zs p).2.1 = 0 := by
  unfold uintR at h ⊢
  split
  · exact ⟨rfl, rfl⟩
  · rename_i h1
    rw [if_neg h1] at h
    exact ud_bad zs _ _ _ _ h
section
variable {zs : List Int} (hz : ∀ k, 0 ≤ zs.getD k 0 ∧ zs.getD k 0 ≤ 255)
include hz
theorem nxtU_range (s : Int × Bool) : 0 ≤ (nxtU zs s).1 ∧ (nxtU zs s).1 ≤ 18446744073709551615 := by
  unfold nxtU
  split
  · exact ⟨Int.le_refl _, by show (0 : Int) ≤ _; decide⟩
  · by_cases h0 : (uintR zs s.1).2.2 = 0
    · have := uintR_ok (zs := zs) (p := s.1) (r1 := (uintR zs s.1).1) (r2 := (uintR zs s.1).2.1) hz (by rw [← h0])
      exact this.2.2.2
    · have := uintR_bad zs s.1 h0
      simp only [this.1]
      decide
theorem nxtU_adv (s : Int × Bool) (hs : InP zs.length s) : InP zs.length (nxtU zs s).2 ∧ mea zs.length (nxtU zs s).2 ≤ mea zs.length s ∧ (s.2 = false → mea zs.length (nxtU zs s).2 + 1 ≤ mea zs.length s) := by
  obtain ⟨p, b⟩ := s
  unfold InP at hs ⊢
  cases b with
  | true =>
    have e : nxtU zs (p, true) = (0, p, true) := rfl
    rw [e]
    exact ⟨hs, Nat.le_refl _, fun h => by cases h⟩
  | false =>
    have e : nxtU zs (p, false) = ((uintR zs p).1, (uintR zs p).2.1, decide ((uintR zs p).2.2 ≠ 0)) := rfl
    rw [e]
    simp only at hs ⊢
    by_cases h0 : (uintR zs p).2.2 = 0
    · have h1 := uintR_ok (zs := zs) (p := p) (r1 := (uintR zs p).1) (r2 := (uintR zs p).2.1) hz (by rw [← h0])
      generalize (uintR zs p).2.1 = r2 at h1 ⊢
      have hd : decide ((uintR zs p).2.2 ≠ 0) = false := by simp [h0]
      rw [hd]
      unfold mea
      simp only [Bool.false_eq_true, if_false]
      omega
    · have h1 := uintR_bad zs p h0
      have hd : decide ((uintR zs p).2.2 ≠ 0) = true := by simp [h0]
      rw [hd, h1.2]
      unfold mea
      simp only [Bool.false_eq_true, if_false, if_true]
      omega
theorem stepD_adv (s : Int × Bool) (hs : InP zs.length s) : InP zs.length (stepD zs s).2 ∧ mea zs.length (stepD zs s).2 ≤ mea zs.length s ∧ (s.2 = false → mea zs.length (stepD zs s).2 + 1 ≤ mea zs.length s) ∧ (0 ≤ (stepD zs s).1 ∧ (stepD zs s).1 < 4294967296) := by
  obtain ⟨h1, h2, h3⟩ := nxtU_adv hz s hs
  unfold stepD
  generalize nxtU zs s = r at h1 h2 h3 ⊢
  obtain ⟨v, p, b⟩ := r
  simp only at h1 h2 h3 ⊢
  have hm : mea zs.length (p, b || decide (4294967295 < v)) ≤ mea zs.length (p, b) := by
    cases decide (4294967295 < v) with
    | true => simp [mea]
    | false => simp
  exact ⟨h1, Nat.le_trans hm h2, fun h => by have := h3 h; omega, by omega⟩
theorem wordsD_adv : ∀ (f : Nat) (k : Int) (ts : List Int) (s : Int × Bool), InP zs.length s → InP zs.length (wordsD zs f k ts s).2 ∧ mea zs.length (wordsD zs f k ts s).2 ≤ mea zs.length s
  | 0, k, ts, s, hs => ⟨hs, Nat.le_refl _⟩
  | f + 1, k, ts, s, hs => by
    unfold wordsD
    split
    · obtain ⟨h1, h2, _⟩ := stepD_adv hz s hs
      obtain ⟨h3, h4⟩ := wordsD_adv f (k - 1) (ts ++ [(stepD zs s).1]) _ h1
      exact ⟨h3, Nat.le_trans h4 h2⟩
    · exact ⟨hs, Nat.le_refl _⟩
theorem memD_adv (s : Int × Bool) (hs : InP zs.length s) : InP zs.length (memD zs s).2 ∧ (s.2 = false → mea zs.length (memD zs s).2 + 1 ≤ mea zs.length s) := by
  obtain ⟨h1, h2, h3⟩ := nxtU_adv hz s hs
  obtain ⟨h4, h5, h6⟩ := nxtU_adv hz _ h1
  obtain ⟨h7, h8, h9⟩ := nxtU_adv hz _ h4
  obtain ⟨ha, hb⟩ := wordsD_adv hz (zs.length + 2) (nxtU zs (nxtU zs (nxtU zs s).2).2).1 [] _ h7
  exact ⟨ha, fun h => by have := h3 h; unfold memD; simp only; omega⟩
end
/-- Numbers that were laid are read by the document. -/
theorem nxtU_at (pre post : List Int) (v : Int) (hv : InU v) : nxtU (encAll (pre ++ [v] ++ post)) (posE pre) = (v, posE (pre ++ [v])) := by
  have h := uintR_enc (encAll pre) (encAll post) v.toNat (by have := hv.2; have := hv.1; omega)
  have e : encAll (pre ++ [v] ++ post) = encAll pre ++ (enc v.toNat ++ encAll post) := by rw [encAll_app, encAll_app, encAll_one, List.append_assoc]
  have e2 : encAll (pre ++ [v]) = encAll pre ++ enc v.toNat := by rw [encAll_app, encAll_one]
  unfold nxtU posE
  rw [e, e2, if_neg (by simp)]
  simp only [h]
  rw [List.length_append, Int.toNat_of_nonneg hv.1]
  simp
theorem enc_pos (v : Nat) : 1 ≤ (enc v).length := by
  by_cases h : v < 128
  · rw [enc_small h]; simp
  · rw [enc_big (by omega)]; simp
theorem encAll_ge (xs : List Int) : xs.length ≤ (encAll xs).length := by
  induction xs with
  | nil => simp
  | cons x r ih =>
    have e : encAll (x :: r) = enc x.toNat ++ encAll r := by simp [encAll]
    rw [e, List.length_append, List.length_cons]
    have := enc_pos x.toNat
    omega
theorem wordsD_at (pre post ts : List Int) (ht : ∀ t ∈ ts, 0 ≤ t ∧ t < 4294967296) : ∀ (f j : Nat), j ≤ ts.length → ts.length - j ≤ f → wordsD (encAll (pre ++ ts ++ post)) f ((ts.length - j : Nat) : Int) (ts.take j) (posE (pre ++ ts.take j)) = (ts, posE (pre ++ ts))
  | 0, j, hj, hf => by
    obtain rfl : j = ts.length := by omega
    unfold wordsD
    rw [List.take_length]
  | f + 1, j, hj, hf => by
    by_cases hjl : j = ts.length
    · subst hjl
      rw [wordsD_stop (by omega), List.take_length]
    · obtain ⟨x, hx⟩ : ∃ x, ts[j]? = some x := ⟨_, List.getElem?_eq_getElem (by omega)⟩
      have hr := ht x (List.mem_of_getElem? hx)
      have e1 : ts.take (j + 1) = ts.take j ++ [x] := by rw [List.take_add_one, hx]; rfl
      have e2 : pre ++ ts ++ post = (pre ++ ts.take j) ++ [x] ++ (ts.drop (j + 1) ++ post) := by
        have e3 : ts = ts.take j ++ [x] ++ ts.drop (j + 1) := by rw [← e1, List.take_append_drop]
        generalize ts.take j = A at e3 ⊢
        generalize ts.drop (j + 1) = D at e3 ⊢
        rw [e3]; simp
      have hn := nxtU_at (pre ++ ts.take j) (ts.drop (j + 1) ++ post) x ⟨hr.1, by omega⟩
      rw [← e2] at hn
      have hs : stepD (encAll (pre ++ ts ++ post)) (posE (pre ++ ts.take j)) = (x, posE (pre ++ ts.take (j + 1))) := by
        unfold stepD
        rw [hn, e1, ← List.append_assoc]
        simp only
        rw [show x % 4294967296 = x by omega, decide_eq_false (by omega : ¬ 4294967295 < x), Bool.or_false]
      unfold wordsD
      rw [if_pos ⟨by omega, rfl⟩, hs, ← e1, show (((ts.length - j : Nat) : Int) - 1) = ((ts.length - (j + 1) : Nat) : Int) by omega]
      exact wordsD_at pre post ts ht f (j + 1) (by omega) (by omega)
theorem memD_at (pre post : List Int) (m : Mem) (h1 : 0 ≤ m.1 ∧ m.1 ≤ 15) (h2 : 0 ≤ m.2.1 ∧ m.2.1 ≤ 3) (h3 : m.2.2.length ≤ 64) (ht : ∀ t ∈ m.2.2, 0 ≤ t ∧ t < 4294967296) : memD (encAll (pre ++ nmem m ++ post)) (posE pre) = (m, posE (pre ++ nmem m)) := by
  obtain ⟨i, s, ts⟩ := m
  simp only at h1 h2 h3 ht
  have a1 := nxtU_at pre ([s, (ts.length : Int)] ++ ts ++ post) i ⟨h1.1, by omega⟩
  have a2 := nxtU_at (pre ++ [i]) ([(ts.length : Int)] ++ ts ++ post) s ⟨h2.1, by omega⟩
  have a3 := nxtU_at (pre ++ [i] ++ [s]) (ts ++ post) (ts.length : Int) ⟨by omega, by omega⟩
  have a4 := wordsD_at (pre ++ [i] ++ [s] ++ [(ts.length : Int)]) post ts ht ((encAll (pre ++ nmem (i, s, ts) ++ post)).length + 2) 0 (Nat.zero_le _) (by
    have h5 := encAll_ge (pre ++ nmem (i, s, ts) ++ post)
    have h6 : ts.length ≤ (pre ++ nmem (i, s, ts) ++ post).length := by simp [nmem]; omega
    omega)
  have e : ∀ z, z = encAll (pre ++ nmem (i, s, ts) ++ post) → z = encAll (pre ++ [i] ++ ([s, (ts.length : Int)] ++ ts ++ post)) ∧ z = encAll (pre ++ [i] ++ [s] ++ ([(ts.length : Int)] ++ ts ++ post)) ∧ z = encAll (pre ++ [i] ++ [s] ++ [(ts.length : Int)] ++ (ts ++ post)) ∧ z = encAll (pre ++ [i] ++ [s] ++ [(ts.length : Int)] ++ ts ++ post) := fun z hz => by
    subst hz
    simp [nmem]
  obtain ⟨e1, e2, e3, e4⟩ := e _ rfl
  rw [← e1] at a1
  rw [← e2] at a2
  rw [← e3] at a3
  rw [← e4] at a4
  simp only [List.take_zero, List.append_nil, Nat.sub_zero] at a4
  unfold memD
  rw [a1]
  simp only
  rw [a2]
  simp only
  rw [a3]
  simp only
  rw [a4]
  simp only
  rw [Int.min_eq_left (by omega), Int.min_eq_left (by omega)]
  simp [nmem]
theorem memsD_at (pre : List Int) (ms : List Mem) (h : ∀ m ∈ ms, (0 ≤ m.1 ∧ m.1 ≤ 15) ∧ (0 ≤ m.2.1 ∧ m.2.1 ≤ 3) ∧ m.2.2.length ≤ 64 ∧ ∀ t ∈ m.2.2, 0 ≤ t ∧ t < 4294967296) : ∀ (f j : Nat), j ≤ ms.length → ms.length - j ≤ f → memsD (encAll (pre ++ ms.flatMap nmem)) f ((ms.length - j : Nat) : Int) (ms.take j) (posE (pre ++ (ms.take j).flatMap nmem)) = (ms, posE (pre ++ ms.flatMap nmem))
  | 0, j, hj, hf => by
    obtain rfl : j = ms.length := by omega
    unfold memsD
    rw [List.take_length]
  | f + 1, j, hj, hf => by
    by_cases hjl : j = ms.length
    · subst hjl
      rw [memsD_stop (by omega), List.take_length]
    · obtain ⟨m, hm⟩ : ∃ x, ms[j]? = some x := ⟨_, List.getElem?_eq_getElem (by omega)⟩
      obtain ⟨h1, h2, h3, h4⟩ := h m (List.mem_of_getElem? hm)
      have e1 : ms.take (j + 1) = ms.take j ++ [m] := by rw [List.take_add_one, hm]; rfl
      have e2 : pre ++ ms.flatMap nmem = (pre ++ (ms.take j).flatMap nmem) ++ nmem m ++ (ms.drop (j + 1)).flatMap nmem := by
        have e3 : ms = ms.take j ++ [m] ++ ms.drop (j + 1) := by rw [← e1, List.take_append_drop]
        generalize ms.take j = A at e3 ⊢
        generalize ms.drop (j + 1) = D at e3 ⊢
        rw [e3]; simp
      have ha := memD_at (pre ++ (ms.take j).flatMap nmem) ((ms.drop (j + 1)).flatMap nmem) m h1 h2 h3 h4
      rw [← e2] at ha
      have e5 : pre ++ (ms.take j).flatMap nmem ++ nmem m = pre ++ (ms.take (j + 1)).flatMap nmem := by rw [e1, List.flatMap_append, List.append_assoc]; simp
      rw [e5] at ha
      unfold memsD
      rw [if_pos ⟨by omega, rfl⟩, ha, ← e1, show (((ms.length - j : Nat) : Int) - 1) = ((ms.length - (j + 1) : Nat) : Int) by omega]
      exact memsD_at pre ms h f (j + 1) (by omega) (by omega)
/-- A ring's numbers, read again by the document. -/
theorem doc_back (E : Int) (ms : List Mem) (hE : InU E) (ho : ringOk ms = true) (ht : wfT ms) : docD (encAll (nrs E ms.length ms)) = (E, ms, false) := by
  have hl := ringOk_len ho
  have a1 := nxtU_at [] ([(ms.length : Int)] ++ ms.flatMap nmem) E hE
  have a2 := nxtU_at [E] (ms.flatMap nmem) (ms.length : Int) ⟨by omega, by omega⟩
  have a3 := memsD_at ([E] ++ [(ms.length : Int)]) ms (fun m hm => by
    obtain ⟨q1, q2, q3⟩ := memOk_of ho hm
    exact ⟨by omega, by omega, by omega, ht m hm⟩) ((encAll (nrs E ms.length ms)).length + 2) 0 (Nat.zero_le _) (by
    have h5 := encAll_ge (nrs E ms.length ms)
    have h6 : 2 ≤ (nrs E ms.length ms).length := by simp [nrs]
    have h7 : ms.length ≤ (nrs E ms.length ms).length := by
      have h8 : ∀ l : List Mem, l.length ≤ (l.flatMap nmem).length := fun l => by
        induction l with
        | nil => simp
        | cons x r ih =>
          rw [List.flatMap_cons, List.length_append, List.length_cons]
          have h9 : 1 ≤ (nmem x).length := by simp [nmem]
          omega
      have := h8 ms
      unfold nrs
      rw [List.length_append]
      omega
    omega)
  have e1 : encAll ([] ++ [E] ++ ([(ms.length : Int)] ++ ms.flatMap nmem)) = encAll (nrs E ms.length ms) := by simp [nrs]
  have e2 : encAll ([E] ++ [(ms.length : Int)] ++ ms.flatMap nmem) = encAll (nrs E ms.length ms) := by simp [nrs]
  have e0 : ((0 : Int), false) = posE [] := by simp [posE, encAll]
  rw [e1] at a1
  rw [e2] at a2 a3
  simp only [List.take_zero, List.flatMap_nil, List.append_nil, Nat.sub_zero] at a3
  simp only [List.nil_append] at a1
  simp only [docD, e0, a1, a2, a3]
  rfl
theorem wordsD_wf (zs : List Int) : ∀ (f : Nat) (k : Int) (ts : List Int) (s : Int × Bool), (∀ t ∈ ts, 0 ≤ t ∧ t < 4294967296) → ∀ t ∈ (wordsD zs f k ts s).1, 0 ≤ t ∧ t < 4294967296
  | 0, k, ts, s, h => h
  | f + 1, k, ts, s, h => by
    unfold wordsD
    split
    · refine wordsD_wf zs f (k - 1) _ _ (fun t ht => ?_)
      rcases List.mem_append.1 ht with ht | ht
      · exact h t ht
      · rw [List.mem_singleton] at ht
        subst ht
        unfold stepD
        simp only
        omega
    · exact h
theorem wordsD_len (zs : List Int) : ∀ (f : Nat) (k : Int) (ts : List Int) (s : Int × Bool), (wordsD zs f k ts s).1.length ≤ ts.length + f
  | 0, k, ts, s => Nat.le_refl _
  | f + 1, k, ts, s => by
    unfold wordsD
    split
    · have := wordsD_len zs f (k - 1) (ts ++ [(stepD zs s).1]) (stepD zs s).2
      rw [List.length_append, List.length_singleton] at this
      omega
    · simp only; omega
theorem memsD_wf (zs : List Int) : ∀ (f : Nat) (k : Int) (ms : List Mem) (s : Int × Bool), wfT ms → wfT (memsD zs f k ms s).1
  | 0, k, ms, s, h => h
  | f + 1, k, ms, s, h => by
    unfold memsD
    split
    · refine memsD_wf zs f (k - 1) _ _ (fun m hm => ?_)
      rcases List.mem_append.1 hm with hm | hm
      · exact h m hm
      · rw [List.mem_singleton] at hm
        subst hm
        exact wordsD_wf zs _ _ _ _ (by simp)
    · exact h
theorem docD_wf (zs : List Int) : wfT (docD zs).2.1 := memsD_wf zs _ _ _ _ (fun m hm => by simp at hm)
theorem memsD_small (zs : List Int) (B : Nat) (hB : zs.length + 2 ≤ B) : ∀ (f : Nat) (k : Int) (ms : List Mem) (s : Int × Bool), (∀ m ∈ ms, m.2.2.length ≤ B) → ((memsD zs f k ms s).1.length ≤ ms.length + f ∧ ∀ m ∈ (memsD zs f k ms s).1, m.2.2.length ≤ B)
  | 0, k, ms, s, h => ⟨Nat.le_refl _, h⟩
  | f + 1, k, ms, s, h => by
    unfold memsD
    split
    · have h1 := memsD_small zs B hB f (k - 1) (ms ++ [(memD zs s).1]) (memD zs s).2 (fun m hm => by
        rcases List.mem_append.1 hm with hm | hm
        · exact h m hm
        · rw [List.mem_singleton] at hm
          subst hm
          have := wordsD_len zs (zs.length + 2) (nxtU zs (nxtU zs (nxtU zs s).2).2).1 [] (nxtU zs (nxtU zs (nxtU zs s).2).2).2
          unfold memD
          simp only [List.length_nil] at this ⊢
          omega)
      rw [List.length_append, List.length_singleton] at h1
      exact ⟨by omega, h1.2⟩
    · exact ⟨by simp only; omega, h⟩
theorem docD_small (zs : List Int) : (docD zs).2.1.length ≤ zs.length + 2 ∧ ∀ m ∈ (docD zs).2.1, m.2.2.length ≤ zs.length + 2 := by
  have h := memsD_small zs (zs.length + 2) (Nat.le_refl _) (zs.length + 2) (nxtU zs (nxtU zs (0, false)).2).1 [] (nxtU zs (nxtU zs (0, false)).2).2 (by simp)
  rw [List.length_nil] at h
  exact ⟨by have := h.1; unfold docD; simp only; omega, h.2⟩
theorem memsR_wf {zs : List Int} (hz : ∀ k, 0 ≤ zs.getD k 0 ∧ zs.getD k 0 ≤ 255) (s : Int × Bool) : ∀ k, wfT (memsR zs k s).1
  | 0 => fun m hm => by simp [memsR] at hm
  | k + 1 => fun m hm => by
    simp only [memsR, List.mem_append, List.mem_cons, List.mem_nil_iff, or_false] at hm
    rcases hm with hm | rfl
    · exact memsR_wf hz s k m hm
    · exact wordsR_wf hz _ _
theorem ringR_wf {zs : List Int} (hz : ∀ k, 0 ≤ zs.getD k 0 ∧ zs.getD k 0 ≤ 255) : wfT (ringR zs).2.1 := memsR_wf hz _ _
/-- The document and the program tell the same. -/
theorem doc_same {zs : List Int} (hz : ∀ k, 0 ≤ zs.getD k 0 ∧ zs.getD k 0 ≤ 255) :
    ((docD zs).2.2 = false ∧ ringOk (docD zs).2.1 = true ∧ encAll (nrs (docD zs).1 (docD zs).2.1.length (docD zs).2.1) = zs → decC zs = 0 ∧ (ringR zs).1 = (docD zs).1 ∧ (ringR zs).2.1 = (docD zs).2.1) ∧
    (¬ ((docD zs).2.2 = false ∧ ringOk (docD zs).2.1 = true ∧ encAll (nrs (docD zs).1 (docD zs).2.1.length (docD zs).2.1) = zs) → decC zs = 130) := by
  have hE : InU (docD zs).1 := nxtU_range hz (0, false)
  constructor
  · rintro ⟨h1, h2, h3⟩
    have hb := ring_back _ _ hE h2 (docD_wf zs)
    rw [h3] at hb
    unfold decC
    rw [hb]
    simp only
    rw [if_pos ⟨trivial, h2⟩]
    simp
  · intro h
    unfold decC
    rw [if_neg]
    rintro ⟨h1, h2⟩
    apply h
    have hc := ring_canon hz h1
    have hwf : wfT (ringR zs).2.1 := ringR_wf hz
    have hb := doc_back (ringR zs).1 (ringR zs).2.1 (nxt_range hz (0, false)) h2 hwf
    rw [← hc] at hb
    rw [hb]
    exact ⟨rfl, h2, hc.symm⟩
end Go.Proofs.YtboamjhlaehoaaaGreat

/- Rings: the document's Decode: what lies in memory. -/
namespace Go.Proofs.YtboamjhlaehoaaaGreat
open Go.RowKit
set_option linter.unusedVariables false
set_option maxRecDepth 20000

/-- The boxes of Decode: the answer, the reader, the ring that is read; its members so far. -/
structure DD (w wr : World) (N O : Nat) (a : Option Addr) (L c : Nat) (zs : List Int) (s : Int × Bool) (E : Int) (V : Value) (ms : List Mem) (raw : List MRow) : Prop where
  res : wr.heap[N]? = some (.cells #[.int .u64 0, .slice none 0 0] 25 (0, 0))
  rdr : UAt wr (N + 1) a L c zs s.1 s.2
  out : wr.heap[O]? = some (.cells #[.int .u64 E, V] 25 (0, 0))
  own : MsOwn wr (O + 1) V ms raw
  gb : w.grownBy wr none
  eN : w.heap.size = N
  ol : N + 2 ≤ O
  off : ∀ x, a = some x → x.block < N
theorem keep_at {w w' : World} {row : Option Nat} {k : Nat} {o : Obj} (h : w.heap[k]? = some o) (hg : w.grownBy w' row) (hk : row ≠ some k) : w'.heap[k]? = some o := by
  rw [hg.block k (Array.getElem?_eq_some_iff.1 h).1 (fun e => hk e.symm)]; exact h
theorem UAt.kept {w w' : World} {row : Option Nat} {Bq : Nat} {a : Option Addr} {L c : Nat} {zs : List Int} {p : Int} {b : Bool} (h : UAt w Bq a L c zs p b) (hg : w.grownBy w' row) (h1 : row ≠ some Bq) (h2 : ∀ x, a = some x → row ≠ some x.block) : UAt w' Bq a L c zs p b :=
  ⟨keep_at h.box hg h1, h.rd.grown hg (fun x hx e => h2 x hx e.symm), h.len, h.cap, h.small⟩
/-- What is made or written elsewhere leaves all of it. -/
theorem DD.kept {w wr w' : World} {N O : Nat} {a : Option Addr} {L c : Nat} {zs : List Int} {s : Int × Bool} {E : Int} {V : Value} {ms : List Mem} {raw : List MRow} {row : Option Nat} (h : DD w wr N O a L c zs s E V ms raw) (hg : wr.grownBy w' row) (hr : ∀ k, row = some k → O + 1 ≤ k) (hm : MsOwn w' (O + 1) V ms raw) : DD w w' N O a L c zs s E V ms raw := by
  have hol := h.ol
  have ne : ∀ k, k < O + 1 → row ≠ some k := fun k hk e => by have := hr k e; omega
  exact ⟨keep_at h.res hg (ne _ (by omega)), h.rdr.kept hg (ne _ (by omega)) (fun x hx => ne _ (by have := h.off x hx; omega)), keep_at h.out hg (ne _ (by omega)), hm, gb_trans h.gb hg (fun k hk => .inl (by have := hr k hk; have := h.eN; omega)), h.eN, h.ol, h.off⟩
theorem DD.grown {w wr w' : World} {N O : Nat} {a : Option Addr} {L c : Nat} {zs : List Int} {s : Int × Bool} {E : Int} {V : Value} {ms : List Mem} {raw : List MRow} (h : DD w wr N O a L c zs s E V ms raw) (hg : wr.grownBy w' none) : DD w w' N O a L c zs s E V ms raw := h.kept hg (by simp) (h.own.kept hg (by simp))
/-- The reader alone has moved. -/
theorem DD.moved {w wr w' : World} {N O : Nat} {a : Option Addr} {L c : Nat} {zs : List Int} {s s' : Int × Bool} {E : Int} {V : Value} {ms : List Mem} {raw : List MRow} (h : DD w wr N O a L c zs s E V ms raw) (hg : wr.grownBy w' (some (N + 1))) (hu : UAt w' (N + 1) a L c zs s'.1 s'.2) : DD w w' N O a L c zs s' E V ms raw := by
  have hol := h.ol
  refine ⟨keep_at h.res hg (by simp), hu, keep_at h.out hg (by simp; omega), h.own.kept hg (fun k hk => by cases hk; exact .inl (by omega)), gb_trans h.gb hg (fun k hk => .inl ?_), h.eN, h.ol, h.off⟩
  cases hk
  have := h.eN
  omega
/-- One number is read. -/
theorem dd_uint {w wr : World} {N O : Nat} {a : Option Addr} {L c : Nat} {zs : List Int} {s : Int × Bool} {E : Int} {V : Value} {ms : List Mem} {raw : List MRow} (h : DD w wr N O a L c zs s E V ms raw) :
    Calls Tryz.prog 58 #[.pointer (some ⟨N + 1, 0, none⟩)] wr fun e w' => e = .returned (.int .u64 (nxtU zs s).1) ∧ DD w w' N O a L c zs (nxtU zs s).2 E V ms raw ∧ wr.grownBy w' (some (N + 1)) := by
  refine (rd_uint wr (N + 1) a L c zs s.1 s.2 h.rdr (fun x hx e => by have := h.off x hx; omega)).mono ?_
  rintro e w' ⟨rfl, h1, h2⟩
  exact ⟨rfl, h.moved h2 h1, h2⟩
/-- A member that is being read: its box, its tokens. -/
structure DI (w wr : World) (N O : Nat) (a : Option Addr) (L c : Nat) (zs : List Int) (s : Int × Bool) (E : Int) (V : Value) (ms : List Mem) (raw : List MRow) (M : Nat) (i1 s1 : Int) (T : Value) (ts : List Int) : Prop where
  dd : DD w wr N O a L c zs s E V ms raw
  mb : wr.heap[M]? = some (.cells #[.int .i64 i1, .int .i64 s1, T] 61 (0, 0))
  tk : SOwn wordE 43 wr (M + 1) T ts.length ts
  old : ∀ (i : Nat) (r : MRow), raw[i]? = some r → ∀ x, r.2.2.1 = some x → x.block < M
  ne : V.ownBlock ≠ some M
  lt : O + 1 ≤ M
theorem DI.moved {w wr w' : World} {N O : Nat} {a : Option Addr} {L c : Nat} {zs : List Int} {s s' : Int × Bool} {E : Int} {V : Value} {ms : List Mem} {raw : List MRow} {M : Nat} {i1 s1 : Int} {T : Value} {ts : List Int} (h : DI w wr N O a L c zs s E V ms raw M i1 s1 T ts) (hg : wr.grownBy w' (some (N + 1))) (hd : DD w w' N O a L c zs s' E V ms raw) : DI w w' N O a L c zs s' E V ms raw M i1 s1 T ts :=
  ⟨hd, keep_at h.mb hg (by simp; have := h.lt; have := h.dd.ol; omega), SOwn.kept h.tk hg (by
    cases hT : T.ownBlock with
    | none => exact .inl rfl
    | some k => right; intro e; cases e; have := (SOwn.block h.tk _ hT).1; have := h.lt; have := h.dd.ol; omega), h.old, h.ne, h.lt⟩
theorem di_uint {w wr : World} {N O : Nat} {a : Option Addr} {L c : Nat} {zs : List Int} {s : Int × Bool} {E : Int} {V : Value} {ms : List Mem} {raw : List MRow} {M : Nat} {i1 s1 : Int} {T : Value} {ts : List Int} (h : DI w wr N O a L c zs s E V ms raw M i1 s1 T ts) :
    Calls Tryz.prog 58 #[.pointer (some ⟨N + 1, 0, none⟩)] wr fun e w' => e = .returned (.int .u64 (nxtU zs s).1) ∧ DI w w' N O a L c zs (nxtU zs s).2 E V ms raw M i1 s1 T ts := by
  refine (dd_uint h.dd).mono ?_
  rintro e w' ⟨rfl, h1, h2⟩
  exact ⟨rfl, h.moved h2 h1⟩
/-- Bad is written. -/
theorem DI.bad {w wr : World} {N O : Nat} {a : Option Addr} {L c : Nat} {zs : List Int} {p : Int} {b : Bool} {E : Int} {V : Value} {ms : List Mem} {raw : List MRow} {M : Nat} {i1 s1 : Int} {T : Value} {ts : List Int} (h : DI w wr N O a L c zs (p, b) E V ms raw M i1 s1 T ts) (b' : Bool) : DI w (wr.setCell ⟨N + 1, 2, none⟩ (.bool b')) N O a L c zs (p, b') E V ms raw M i1 s1 T ts := by
  have hg : wr.grownBy (wr.setCell ⟨N + 1, 2, none⟩ (.bool b')) (some (N + 1)) := gb_set rfl
  have hu := h.dd.rdr
  refine h.moved hg (h.dd.moved hg ⟨set3 hu.box _, hu.rd.grown hg (fun x hx e => ?_), hu.len, hu.cap, hu.small⟩)
  have := h.dd.off x hx
  have e2 := Option.some.inj e
  omega
/-- A member's box is made. -/
theorem DD.boxed {w wr : World} {N O : Nat} {a : Option Addr} {L c : Nat} {zs : List Int} {s : Int × Bool} {E : Int} {V : Value} {ms : List Mem} {raw : List MRow} (h : DD w wr N O a L c zs s E V ms raw) (i1 s1 : Int) : DI w (wr.alloc (.cells #[.int .i64 i1, .int .i64 s1, .slice none 0 0] 61)) N O a L c zs s E V ms raw wr.heap.size i1 s1 (.slice none 0 0) [] := by
  have hg := World.grownBy_alloc wr (.cells #[.int .i64 i1, .int .i64 s1, .slice none 0 0] 61) none
  refine ⟨h.grown hg, heap_alloc_new wr _, SOwn.nil 43 _ _, fun i r hr x hx => ?_, fun e => ?_, ?_⟩
  · have hl : raw.length = ms.length := SOwn.len h.own.row
    obtain ⟨m, hm⟩ : ∃ m, ms[i]? = some m := ⟨_, List.getElem?_eq_getElem (by rw [← hl]; exact (List.getElem?_eq_some_iff.1 hr).1)⟩
    have h2 := (h.own.mem i r m hr hm).own
    rw [hx] at h2
    exact (SOwn.block h2 x.block rfl).2
  · have := (SOwn.block h.own.row _ e).2
    omega
  · have := (Array.getElem?_eq_some_iff.1 h.out).1
    omega
theorem DI.grown {w wr w' : World} {N O : Nat} {a : Option Addr} {L c : Nat} {zs : List Int} {s : Int × Bool} {E : Int} {V : Value} {ms : List Mem} {raw : List MRow} {M : Nat} {i1 s1 : Int} {T : Value} {ts : List Int} (h : DI w wr N O a L c zs s E V ms raw M i1 s1 T ts) (hg : wr.grownBy w' none) : DI w w' N O a L c zs s E V ms raw M i1 s1 T ts :=
  ⟨h.dd.grown hg, keep_at h.mb hg (by simp), SOwn.kept h.tk hg (by cases T.ownBlock with | none => exact .inl rfl | some k => exact .inr (by simp)), h.old, h.ne, h.lt⟩
/-- A token more. -/
theorem DI.token {w wr w7 : World} {N O : Nat} {a : Option Addr} {L c : Nat} {zs : List Int} {s : Int × Bool} {E : Int} {V : Value} {ms : List Mem} {raw : List MRow} {M : Nat} {i1 s1 : Int} {T T' : Value} {ts : List Int} {t : Int} (h : DI w wr N O a L c zs s E V ms raw M i1 s1 T ts)
    (ho : SOwn wordE 43 w7 (M + 1) T' (ts.length + 1) (ts ++ [t])) (hg : wr.grownBy w7 T.ownBlock) : DI w (w7.setCell ⟨M, 2, none⟩ T') N O a L c zs s E V ms raw M i1 s1 T' (ts ++ [t]) ∧ w7.cell? ⟨M, 2, none⟩ = some T ∧ w7.frozen? ⟨M, 2, none⟩ = false := by
  have hT : ∀ k, T.ownBlock = some k → M + 1 ≤ k ∧ Typed wr k 43 := fun k hk => by
    refine ⟨(SOwn.block h.tk k hk).1, ?_⟩
    have h9 := h.tk
    obtain ⟨x, c, rfl⟩ := sown_slice h9
    cases x with
    | none => simp [Value.ownBlock] at hk
    | some x =>
      have : x.block = k := by simpa [Value.ownBlock] using hk
      rw [← this]; exact sown_typed h9
  have hlt := h.lt
  have hne : ∀ k t', Typed wr k t' → t' ≠ 43 → T.ownBlock ≠ some k := fun k t' hk ht e => Typed.ne hk (hT k e).2 ht rfl
  have hmb7 : w7.heap[M]? = some (.cells #[.int .i64 i1, .int .i64 s1, T] 61 (0, 0)) := keep_at h.mb hg (hne M 61 ⟨_, h.mb⟩ (by decide))
  have gs : w7.grownBy (w7.setCell ⟨M, 2, none⟩ T') (some M) := gb_set rfl
  have hVt : ∀ k, V.ownBlock = some k → Typed wr k 61 := fun k hV => by
    have h9 := h.dd.own.row
    obtain ⟨Va, Vc, eV⟩ := sown_slice h9
    rw [eV] at h9 hV
    cases Va with
    | none => simp [Value.ownBlock] at hV
    | some x =>
      have : x.block = k := by simpa [Value.ownBlock] using hV
      rw [← this]; exact sown_typed h9
  have hown : MsOwn (w7.setCell ⟨M, 2, none⟩ T') (O + 1) V ms raw := by
    refine ⟨?_, fun i r m hr hm => ?_⟩
    · refine SOwn.kept (SOwn.kept h.dd.own.row hg ?_) gs ?_
      · cases hV : V.ownBlock with
        | none => exact .inl rfl
        | some k => right; intro e; exact hne k 61 (hVt k hV) (by decide) e.symm
      · cases hV : V.ownBlock with
        | none => exact .inl rfl
        | some k => right; intro e; exact h.ne (hV.trans e)
    · have h9 := h.dd.own.mem i r m hr hm
      refine ⟨h9.id, h9.st, h9.tn, sown_stay h9.own (fun x hx => ?_)⟩
      have hx1 := h.old i r hr x hx
      have h10 := h9.own
      rw [hx] at h10
      have hx2 := (SOwn.block h10 x.block rfl).2
      rw [set_other _ (by omega)]
      exact hg.block _ hx2 (fun e => by have := (hT _ e.symm).1; omega)
  have hTk : ∀ k, T'.ownBlock = some k → k ≠ M := fun k hk => by have := (SOwn.block ho k hk).1; omega
  have h7 : DD w w7 N O a L c zs s E V ms raw := h.dd.kept hg (fun k hk => by have := (hT k hk).1; omega) (by
    refine ⟨SOwn.kept h.dd.own.row hg ?_, fun i r m hr hm => ?_⟩
    · cases hV : V.ownBlock with
      | none => exact .inl rfl
      | some k => right; intro e; exact hne k 61 (hVt k hV) (by decide) e.symm
    · have h9 := h.dd.own.mem i r m hr hm
      refine ⟨h9.id, h9.st, h9.tn, sown_stay h9.own (fun x hx => ?_)⟩
      have hx1 := h.old i r hr x hx
      have h10 := h9.own
      rw [hx] at h10
      exact hg.block _ (SOwn.block h10 x.block rfl).2 (fun e => by have := (hT _ e.symm).1; omega))
  refine ⟨⟨h7.kept gs (fun k hk => by cases hk; omega) hown, set3 hmb7 _, ?_, h.old, h.ne, h.lt⟩, (cell3 hmb7).2.2, free_row hmb7 2⟩
  rw [List.length_append, List.length_singleton]
  refine SOwn.kept ho gs ?_
  cases hV : T'.ownBlock with
  | none => exact .inl rfl
  | some k => right; intro e; exact hTk k hV (Option.some.inj e)
/-- The member goes to the others. -/
theorem DI.member {w wr w6 w7 : World} {N O : Nat} {a : Option Addr} {L c : Nat} {zs : List Int} {s : Int × Bool} {E : Int} {V V' : Value} {ms : List Mem} {raw : List MRow} {M n1 c1 : Nat} {t1 : Option Addr} {i1 s1 : Int} {ts : List Int} (h : DI w wr N O a L c zs s E V ms raw M i1 s1 (.slice t1 n1 c1) ts) (h6 : wr.grownBy w6 none)
    (ho : SOwn memE 61 w7 (O + 1) V' (ms.length + 1) (raw ++ [(i1, s1, t1, n1, c1)])) (hg : w6.grownBy w7 V.ownBlock) : DD w (w7.setCell ⟨O, 1, none⟩ V') N O a L c zs s E V' (ms ++ [(i1, s1, ts)]) (raw ++ [(i1, s1, t1, n1, c1)]) ∧ w7.cell? ⟨O, 1, none⟩ = some V ∧ w7.frozen? ⟨O, 1, none⟩ = false := by
  have hVb : ∀ k, V.ownBlock = some k → O + 1 ≤ k := fun k hk => (SOwn.block h.dd.own.row k hk).1
  have d6 := h.dd.grown h6
  have hol := h.dd.ol
  have hlt := h.lt
  have en : ts.length = n1 := by
    obtain ⟨x, cc, e⟩ := sown_slice h.tk
    simp only [Value.slice.injEq] at e
    exact e.2.1.symm
  have hm : MsOwn w7 (O + 1) V' (ms ++ [(i1, s1, ts)]) (raw ++ [(i1, s1, t1, n1, c1)]) := by
    refine own_append d6.own ho hg ⟨rfl, rfl, en.symm, ?_⟩
    have h9 := SOwn.kept h.tk h6 (by cases (Value.slice t1 n1 c1).ownBlock with | none => exact .inl rfl | some k => exact .inr (by simp))
    simp only
    rw [en] at h9 ⊢
    exact SOwn.base h9 (by omega)
  have hout7 : w7.heap[O]? = some (.cells #[.int .u64 E, V] 25 (0, 0)) := keep_at d6.out hg (fun e => by have := hVb _ e; omega)
  have gs : w7.grownBy (w7.setCell ⟨O, 1, none⟩ V') (some (O)) := gb_set rfl
  have ne : ∀ k, k < O + 1 → V.ownBlock ≠ some k := fun k hk e => by have := hVb k e; omega
  refine ⟨⟨keep_at (keep_at d6.res hg (ne _ (by omega))) gs (by simp; omega), (d6.rdr.kept hg (ne _ (by omega)) (fun x hx => ne _ (by have := h.dd.off x hx; omega))).kept gs (by simp; omega) (fun x hx e => by have := h.dd.off x hx; have e2 := Option.some.inj e; omega), set2 hout7 V', hm.kept gs (fun k hk => by cases hk; exact .inl (by omega)), gb_trans (gb_trans d6.gb hg (fun k hk => .inl (by have := hVb k hk; have := d6.eN; omega))) gs (fun k hk => .inl (by cases hk; have := d6.eN; omega)), d6.eN, d6.ol, d6.off⟩, (cell2 hout7).2, free_row hout7 1⟩
end Go.Proofs.YtboamjhlaehoaaaGreat

/- Rings: the document's Decode: its loops. (Printed by mk_wg.py.) -/
namespace Go.Proofs.YtboamjhlaehoaaaGreat
open Go.RowKit
set_option linter.unusedVariables false
set_option maxRecDepth 20000

/-- Where the loop over members stands. -/
def MAt (w : World) (N O : Nat) (a : Option Addr) (L c : Nat) (zs : List Int) (E : Int) (R : List Mem × Int × Bool) (n : Int) (wr : World) : Prop :=
  ∃ s V ms raw f, DD w wr N O a L c zs s E V ms raw ∧ memsD zs f n ms s = R ∧ mea L s ≤ f ∧ InP L s ∧ ms.length + mea L s ≤ L + 2
/-- Where the loop over tokens stands. -/
def TAt (w : World) (N O : Nat) (a : Option Addr) (L c : Nat) (zs : List Int) (E : Int) (V : Value) (ms : List Mem) (raw : List MRow) (M : Nat) (i1 s1 : Int) (R : List Int × Int × Bool) (k : Int) (wr : World) : Prop :=
  ∃ s Ta Tc ts f, DI w wr N O a L c zs s E V ms raw M i1 s1 (.slice Ta ts.length Tc) ts ∧ wordsD zs f k ts s = R ∧ mea L s ≤ f ∧ InP L s ∧ ts.length + mea L s ≤ L + 2
theorem strOf_inj {xs ys : List Int} (hx : ∀ z ∈ xs, 0 ≤ z ∧ z ≤ 255) (hy : ∀ z ∈ ys, 0 ≤ z ∧ z ≤ 255) (h : strOfNums xs = strOfNums ys) : xs = ys := by
  exact strOfNums_inj hx hy (by rw [h])

set_option maxHeartbeats 16000000 in
theorem r_decode (w : World) (a : Option Addr) (L c : Nat) (zs : List Int) (hr : Rd w a zs) (hL : zs.length = L) (hc : L ≤ c) (hs : L ≤ 1048576) (ho : ∀ x, a = some x → x.block < w.heap.size) (hz : ∀ k, 0 ≤ zs.getD k 0 ∧ zs.getD k 0 ≤ 255) :
    Calls Tryz.prog 30 #[.slice a L c] w fun e w' => DcOut zs w e w' := by
  obtain ⟨N, eN⟩ : ∃ N, w.heap.size = N := ⟨_, rfl⟩
  have EN : Hid (w.heap.size = N) := eN
  have s1 := size_alloc w (.cells #[.int .u64 0, .slice none 0 0] 25)
  have g1 := World.grownBy_alloc w (.cells #[.int .u64 0, .slice none 0 0] 25) none
  have g2 := World.grownBy_alloc (w.alloc (.cells #[.int .u64 0, .slice none 0 0] 25)) (.cells #[.slice a L c, .int .i64 0, .bool false] 81) none
  obtain ⟨W, hW⟩ : ∃ W, (w.alloc (.cells #[.int .u64 0, .slice none 0 0] 25)).alloc (.cells #[.slice a L c, .int .i64 0, .bool false] 81) = W := ⟨_, rfl⟩
  have HW : Hid ((w.alloc (.cells #[.int .u64 0, .slice none 0 0] 25)).alloc (.cells #[.slice a L c, .int .i64 0, .bool false] 81) = W) := hW
  have HU : Hid (UAt W (N + 1) a L c zs 0 false ∧ W.heap[N]? = some (.cells #[.int .u64 0, .slice none 0 0] 25 (0, 0)) ∧ w.grownBy W none ∧ W.heap.size = N + 2) := by
    rw [← hW]
    refine ⟨⟨?_, (hr.grown (g1.trans g2) (by simp)), hL, hc, by omega⟩, ?_, g1.trans g2, ?_⟩
    · rw [← eN, ← s1]; exact heap_alloc_new _ _
    · rw [g2.block N (by rw [s1]; omega) (by simp), ← eN]; exact heap_alloc_new w _
    · rw [size_alloc, s1]; omega
  have HOF : Hid (∀ x, a = some x → x.block < N) := fun x hx => by have := ho x hx; omega
  have HZ : Hid (∀ k, 0 ≤ zs.getD k 0 ∧ zs.getD k 0 ≤ 255) := hz
  have HLZ : Hid (zs.length = L) := hL
  have HSM := docD_small zs
  have HDS : Hid ((docD zs).2.1.length ≤ L + 2 ∧ ∀ m ∈ (docD zs).2.1, m.2.2.length ≤ L + 2) := by rw [hL] at HSM; exact HSM
  obtain ⟨E, p1, b1, e1⟩ : ∃ E p1 b1, nxtU zs (0, false) = (E, p1, b1) := ⟨_, _, _, rfl⟩
  obtain ⟨n0, p2, b2, e2⟩ : ∃ n0 p2 b2, nxtU zs (p1, b1) = (n0, p2, b2) := ⟨_, _, _, rfl⟩
  obtain ⟨msR, pR, bR, eR⟩ : ∃ msR pR bR, memsD zs (L + 2) n0 [] (p2, b2) = (msR, pR, bR) := ⟨_, _, _, rfl⟩
  have HD : Hid (docD zs = (E, msR, bR)) := by
    show _ = _
    unfold docD
    rw [hL]
    simp only [e1, e2, eR]
  have hE := nxtU_range hz (0, false)
  have hn0 := nxtU_range hz (p1, b1)
  have hp0 : InP zs.length ((0 : Int), false) := ⟨Int.le_refl _, by simp⟩
  have hp1 := (nxtU_adv hz (0, false) hp0).1
  rw [e1] at hE hp1
  have hp2 := (nxtU_adv hz (p1, b1) hp1).1
  rw [e2] at hn0 hp2
  simp only at hE hp1 hn0 hp2
  rw [hL] at hp2
  have HE : Hid (0 ≤ E ∧ E ≤ 18446744073709551615) := hE
  have HN0 : Hid (0 ≤ n0 ∧ n0 ≤ 18446744073709551615) := hn0
  have HP2 : Hid (InP L (p2, b2)) := hp2
  have HMR : Hid (memsD zs (L + 2) n0 [] (p2, b2) = (msR, pR, bR)) := eR
  have C1 := rd_uint W (N + 1) a L c zs 0 false HU.out.1 (fun x hx e => by have := HOF.out x hx; omega)
  rw [e1] at C1
  simp only at C1
  have HUI : Hid (∀ wr O s V ms raw v p b, nxtU zs s = (v, p, b) → DD w wr N O a L c zs s E V ms raw → Calls Tryz.prog 58 #[.pointer (some ⟨N + 1, 0, none⟩)] wr fun e w' => e = .returned (.int .u64 v) ∧ Hid (DD w w' N O a L c zs (p, b) E V ms raw)) := fun wr O s V ms raw v p b h hd => by
    refine (dd_uint hd).mono ?_
    rintro e w' ⟨rfl, h1, _⟩
    rw [h] at h1 ⊢
    exact ⟨rfl, h1⟩
  have HUJ : Hid (∀ wr O s V ms raw M i1 s1 T ts v p b, nxtU zs s = (v, p, b) → DI w wr N O a L c zs s E V ms raw M i1 s1 T ts → Calls Tryz.prog 58 #[.pointer (some ⟨N + 1, 0, none⟩)] wr fun e w' => e = .returned (.int .u64 v) ∧ Hid (DI w w' N O a L c zs (p, b) E V ms raw M i1 s1 T ts)) := fun wr O s V ms raw M i1 s1 T ts v p b h hd => by
    refine (di_uint hd).mono ?_
    rintro e w' ⟨rfl, h1⟩
    rw [h] at h1 ⊢
    exact ⟨rfl, h1⟩
  have HE2 : Hid (nxtU zs (p1, b1) = (n0, p2, b2)) := e2
  clear hr hc ho g1 g2 s1 hW eN hL hE hn0 hp0 hp1 hp2 HSM e1 e2 eR hz
  go_enter Tryz.func30, Tryz.ntmps30
  go_upto_region 2 with fail
  rw [HW.out, EN.out]
  go_wp2_with fail
  refine C1.mono ?_
  rintro e w1 ⟨rfl, hu1, hg1⟩
  have g3 := World.grownBy_alloc w1 (.cells #[.int .u64 E, .slice none 0 0] 25) none
  have HD1 : Hid (DD w (w1.alloc (.cells #[.int .u64 E, .slice none 0 0] 25)) N w1.heap.size a L c zs (p1, b1) E (.slice none 0 0) [] []) := by
    have gw : w.grownBy w1 none := gb_trans HU.out.2.2.1 hg1 (fun k hk => .inl (by cases hk; have := EN.out; omega))
    have hsz := hg1.size
    rw [HU.out.2.2.2] at hsz
    exact ⟨keep_at (keep_at HU.out.2.1 hg1 (by simp)) g3 (by simp), hu1.kept g3 (by simp) (by simp), heap_alloc_new w1 _, MsOwn.nil _ _, gw.trans g3, EN.out, hsz, HOF.out⟩
  clear g3 hu1 hg1 C1
  go_wp2_with fail
  generalize w1.alloc (.cells #[.int .u64 E, .slice none 0 0] 25) = W1 at HD1 ⊢
  generalize w1.heap.size = O at HD1 ⊢
  refine (HUI.out W1 O _ _ _ _ _ _ _ HE2.out HD1.out).mono ?_
  rintro e w2 ⟨rfl, HD2⟩
  have HM0 : Hid (MAt w N O a L c zs E (msR, pR, bR) n0 w2) := by
    refine ⟨_, _, _, _, L + 2, HD2.out, HMR.out, ?_, HP2.out, ?_⟩
    · unfold mea; have := HP2.out.1; split <;> omega
    · unfold mea; have := HP2.out.1; simp only [List.length_nil]; split <;> omega
  clear HD1 HD2 HE2 HMR HP2
  go_wp2
  go_loopw [6] (fun t6 wr => ∃ n : Int, t6 = .int .u64 n ∧ (0 ≤ n ∧ n ≤ 18446744073709551615) ∧ MAt w N O a L c zs E (msR, pR, bR) n wr) (fun t6 _ => (intOf t6).toNat)
  case atStart => exact ⟨n0, rfl, HN0.out, HM0.out⟩
  case round =>
    clear HM0 HN0
    obtain ⟨n, rfl, hn, ⟨p, b⟩, V, ms, raw, f, hd, hmr, hf, hip, hlen⟩ := hrel
    have HD0 : Hid (DD w wr N O a L c zs (p, b) E V ms raw) := hd
    have HMR : Hid (memsD zs f n ms (p, b) = (msR, pR, bR)) := hmr
    have hbox := (cell3 hd.rdr.box).2.2
    simp only at hbox
    by_cases hgo : 0 < n ∧ b = false
    · obtain ⟨hn1, hb1⟩ := hgo
      subst hb1
      have q1 : decide (0 < n) = true := by simpa using hn1
      obtain ⟨f', rfl⟩ : ∃ f', f = f' + 1 := ⟨f - 1, by unfold mea at hf; simp at hf; omega⟩
      have HMR2 : Hid (memsD zs f' (n - 1) (ms ++ [(memD zs (p, false)).1]) (memD zs (p, false)).2 = (msR, pR, bR)) := by
        have h := HMR.out
        unfold memsD at h
        rw [if_pos ⟨hn1, rfl⟩] at h
        exact h
      have hip' : InP zs.length (p, false) := by rw [HLZ.out]; exact hip
      have hadv := memD_adv HZ.out (p, false) hip'
      rw [HLZ.out] at hadv
      have HADV : Hid (InP L (memD zs (p, false)).2 ∧ mea L (memD zs (p, false)).2 + 1 ≤ mea L (p, false)) := ⟨hadv.1, hadv.2 rfl⟩
      obtain ⟨v1, q1', c1', d1⟩ : ∃ v1 q1 c1, nxtU zs (p, false) = (v1, q1, c1) := ⟨_, _, _, rfl⟩
      obtain ⟨v2, q2', c2', d2⟩ : ∃ v1 q1 c1, nxtU zs (q1', c1') = (v1, q1, c1) := ⟨_, _, _, rfl⟩
      obtain ⟨k0, q3', c3', d3⟩ : ∃ v1 q1 c1, nxtU zs (q2', c2') = (v1, q1, c1) := ⟨_, _, _, rfl⟩
      obtain ⟨tsR, pT, bT, dT⟩ : ∃ tsR pT bT, wordsD zs (L + 2) k0 [] (q3', c3') = (tsR, pT, bT) := ⟨_, _, _, rfl⟩
      have hv1 := nxtU_range HZ.out (p, false)
      have hv2 := nxtU_range HZ.out (q1', c1')
      have hk0 := nxtU_range HZ.out (q2', c2')
      have ip1 := (nxtU_adv HZ.out (p, false) hip').1
      rw [d1] at hv1 ip1
      have ip2 := (nxtU_adv HZ.out (q1', c1') ip1).1
      rw [d2] at hv2 ip2
      have ip3 := (nxtU_adv HZ.out (q2', c2') ip2).1
      rw [d3] at hk0 ip3
      simp only at hv1 hv2 hk0
      rw [HLZ.out] at ip3
      have hmd : memD zs (p, false) = ((min v1 1048576, min v2 1048576, tsR), pT, bT) := by
        unfold memD
        rw [HLZ.out]
        simp only [d1, d2, d3, dT]
      rw [hmd] at HMR2 HADV
      simp only at HMR2 HADV
      obtain ⟨i1, ei1⟩ : ∃ i1, min v1 1048576 = i1 := ⟨_, rfl⟩
      obtain ⟨s1, es1⟩ : ∃ s1, min v2 1048576 = s1 := ⟨_, rfl⟩
      rw [ei1, es1] at HMR2
      have EI1 : Hid (min v1 1048576 = i1 ∧ min v2 1048576 = s1) := ⟨ei1, es1⟩
      have hi1 : 0 ≤ i1 ∧ i1 ≤ 1048576 := by omega
      have hs1 : 0 ≤ s1 ∧ s1 ≤ 1048576 := by omega
      have hw1 : IntKind.i64.wrap i1 = i1 := by rw [IntKind.wrap_i64]; omega
      have hw2 : IntKind.i64.wrap s1 = s1 := by rw [IntKind.wrap_i64]; omega
      have HD3 : Hid (nxtU zs (q2', c2') = (k0, q3', c3')) := d3
      have HK0 : Hid (0 ≤ k0 ∧ k0 ≤ 18446744073709551615) := hk0
      have HT0 : Hid (wordsD zs (L + 2) k0 [] (q3', c3') = (tsR, pT, bT) ∧ InP L (q3', c3')) := ⟨dT, ip3⟩
      have HLEN : Hid (ms.length + mea L (p, false) ≤ L + 2 ∧ mea L (p, false) ≤ f' + 1) := ⟨hlen, hf⟩
      have hms : ms.length ≤ 1048578 := by omega
      have HN1 : Hid (0 < n) := hn1
      have hwn : IntKind.u64.wrap (n - 1) = n - 1 := by rw [IntKind.wrap_u64]; omega
      have HC1 := HUI.out wr O _ _ _ _ _ _ _ d1 HD0.out
      have HD2 : Hid (nxtU zs (q1', c1') = (v2, q2', c2')) := d2
      clear hd hmr hf hip hlen hip' hadv hmd ei1 es1 d1 d2 d3 dT hv1 hv2 hk0 ip1 ip2 ip3 HMR hn1
      go_wp2_with fail
      refine HC1.mono ?_
      rintro e w3 ⟨rfl, HD3a⟩
      clear HC1 hbox
      go_wp2_with fail
      refine (HUI.out w3 O _ _ _ _ _ _ _ HD2.out HD3a.out).mono ?_
      rintro e w4 ⟨rfl, HD4⟩
      clear HD3a HD2
      have HI0 : Hid (DI w (w4.alloc (.cells #[.int .i64 i1, .int .i64 s1, .slice none 0 0] 61)) N O a L c zs (q2', c2') E V ms raw w4.heap.size i1 s1 (.slice none 0 0) []) := HD4.out.boxed i1 s1
      go_wp2_with fail
      rw [EI1.out.1, EI1.out.2, IntWalk.wrap64_in i1 (by omega), IntWalk.wrap64_in s1 (by omega)]
      generalize w4.alloc (.cells #[.int .i64 i1, .int .i64 s1, .slice none 0 0] 61) = W5 at HI0 ⊢
      generalize w4.heap.size = M at HI0 ⊢
      refine (HUJ.out W5 O _ _ _ _ M i1 s1 _ _ _ _ _ HD3.out HI0.out).mono ?_
      rintro e w6 ⟨rfl, HI1⟩
      have HTA : Hid (TAt w N O a L c zs E V ms raw M i1 s1 (tsR, pT, bT) k0 w6) := by
        refine ⟨_, none, 0, [], L + 2, HI1.out, HT0.out.1, ?_, HT0.out.2, ?_⟩
        · unfold mea; have := HT0.out.2.1; split <;> omega
        · unfold mea; have := HT0.out.2.1; simp only [List.length_nil]; split <;> omega
      clear HD4 HI0 HI1 HD3 HT0 HD0 EI1 hw1 hw2
      go_wp2
      go_loopw [10] (fun t10 wq => ∃ k : Int, t10 = .int .u64 k ∧ (0 ≤ k ∧ k ≤ 18446744073709551615) ∧ TAt w N O a L c zs E V ms raw M i1 s1 (tsR, pT, bT) k wq) (fun t10 _ => (intOf t10).toNat)
      case atStart => exact ⟨k0, rfl, HK0.out, HTA.out⟩
      case round =>
        clear HTA HK0
        obtain ⟨k, rfl, hk, ⟨p4, b4⟩, Ta, Tc, ts, f4, hd, hmr, hf, hip, hlen⟩ := hrel
        rename_i wq _
        have HD0 : Hid (DI w wr N O a L c zs (p4, b4) E V ms raw M i1 s1 (.slice Ta ts.length Tc) ts) := hd
        have HWR : Hid (wordsD zs f4 k ts (p4, b4) = (tsR, pT, bT)) := hmr
        have hbox := (cell3 hd.dd.rdr.box).2.2
        simp only at hbox
        by_cases hgo : 0 < k ∧ b4 = false
        · obtain ⟨hn1, hb1⟩ := hgo
          subst hb1
          have q2 : decide (0 < k) = true := by simpa using hn1
          obtain ⟨f', rfl⟩ : ∃ f', f4 = f' + 1 := ⟨f4 - 1, by unfold mea at hf; simp at hf; omega⟩
          obtain ⟨t, p5, b5, d5⟩ : ∃ t p5 b5, nxtU zs (p4, false) = (t, p5, b5) := ⟨_, _, _, rfl⟩
          have hip' : InP zs.length (p4, false) := by rw [HLZ.out]; exact hip
          have hadv := stepD_adv HZ.out (p4, false) hip'
          rw [HLZ.out] at hadv
          have hst : stepD zs (p4, false) = (t % 4294967296, p5, b5 || decide (4294967295 < t)) := by unfold stepD; rw [d5]
          rw [hst] at hadv
          have HWR2 : Hid (wordsD zs f' (k - 1) (ts ++ [t % 4294967296]) (p5, b5 || decide (4294967295 < t)) = (tsR, pT, bT)) := by
            have h := HWR.out
            unfold wordsD at h
            rw [if_pos ⟨hn1, rfl⟩, hst] at h
            exact h
          have HADV : Hid (InP L (p5, b5 || decide (4294967295 < t)) ∧ mea L (p5, b5 || decide (4294967295 < t)) + 1 ≤ mea L (p4, false)) := ⟨hadv.1, hadv.2.2.1 rfl⟩
          have ht := nxtU_range HZ.out (p4, false)
          rw [d5] at ht
          simp only at ht
          obtain ⟨tt, ett⟩ : ∃ tt, t % 4294967296 = tt := ⟨_, rfl⟩
          rw [ett] at HWR2
          have hw1 : IntKind.u32.wrap t = tt := by rw [← ett]; simp [IntKind.wrap, IntKind.bits, IntKind.signed]
          have HLEN2 : Hid (ts.length + mea L (p4, false) ≤ L + 2 ∧ mea L (p4, false) ≤ f' + 1) := ⟨hlen, hf⟩
          have hts : ts.length ≤ 1048578 := by omega
          have HK1 : Hid (0 < k) := hn1
          have hwk : IntKind.u64.wrap (k - 1) = k - 1 := by rw [IntKind.wrap_u64]; omega
          have HC1 := HUJ.out wr O _ _ _ _ M i1 s1 _ _ _ _ _ d5 HD0.out
          obtain ⟨lt, elt⟩ : ∃ lt, ts.length = lt := ⟨_, rfl⟩
          rw [elt] at HC1 hts HLEN2
          have ELT : Hid (ts.length = lt) := elt
          clear hd hmr hf hip hlen hip' hadv hst ett d5 HWR hn1 elt HD0
          go_wp2_with fail
          refine HC1.mono ?_
          rintro e w7 ⟨rfl, HI7⟩
          clear HC1 hbox
          have hbox7 := (cell3 HI7.out.dd.rdr.box).2.2
          have fbox7 := free_row HI7.out.dd.rdr.box 2
          simp only at hbox7
          have HS12 : Hid (∀ b6, b6 = (b5 || decide (4294967295 < t)) → DI w (w7.setCell ⟨N + 1, 2, none⟩ (.bool b6)) N O a L c zs (p5, b6) E V ms raw M i1 s1 (.slice Ta lt Tc) ts ∧ InP L (p5, b6) ∧ mea L (p5, b6) + 1 ≤ mea L (p4, false) ∧ wordsD zs f' (k - 1) (ts ++ [tt]) (p5, b6) = (tsR, pT, bT)) := fun b6 e6 => by
            subst e6
            exact ⟨HI7.out.bad _, HADV.out.1, HADV.out.2, HWR2.out⟩
          clear HADV HWR2
          cases b5
          case' true =>
            obtain ⟨w8, e8⟩ : ∃ w8, w7.setCell ⟨N + 1, 2, none⟩ (.bool true) = w8 := ⟨_, rfl⟩
            obtain ⟨b6, e6⟩ : ∃ b6, true = b6 := ⟨_, rfl⟩
            have HX := HS12.out true rfl
            rw [e8, e6] at HX
          case' false =>
            obtain ⟨w8, e8⟩ : ∃ w8, w7.setCell ⟨N + 1, 2, none⟩ (.bool (decide (4294967295 < t))) = w8 := ⟨_, rfl⟩
            obtain ⟨b6, e6⟩ : ∃ b6, decide (4294967295 < t) = b6 := ⟨_, rfl⟩
            have HX := HS12.out (decide (4294967295 < t)) rfl
            rw [e8, e6] at HX
          all_goals
            have E8 : Hid (_ = w8) := e8
            obtain ⟨hi8, hx1, hx2, hx3⟩ := HX
            have HI8 : Hid (DI w w8 N O a L c zs (p5, b6) E V ms raw M i1 s1 (.slice Ta lt Tc) ts) := hi8
            have HT8 : Hid (InP L (p5, b6) ∧ mea L (p5, b6) + 1 ≤ mea L (p4, false) ∧ wordsD zs f' (k - 1) (ts ++ [tt]) (p5, b6) = (tsR, pT, bT)) := ⟨hx1, hx2, hx3⟩
            clear hi8 hx1 hx2 hx3 HS12 e8 e6 HI7
            go_upto_region 13 with fail
            rw [E8.out]
            clear hbox7 fbox7
            have c13 := (cell3 HI8.out.mb).2.2
            have ga := World.grownBy_alloc w8 (.cells #[.int .u32 tt] 43) none
            have HI9 : Hid (DI w (w8.alloc (.cells #[.int .u32 tt] 43)) N O a L c zs (p5, b6) E V ms raw M i1 s1 (.slice Ta lt Tc) ts) := HI8.out.grown ga
            have HOA : Hid (SOwn wordE 43 (w8.alloc (.cells #[.int .u32 tt] 43)) (M + 1) (.slice Ta lt Tc) lt ts) := by
              have h := HI9.out.tk
              rw [ELT.out] at h
              exact h
            have HRA : Hid (SRd wordE (w8.alloc (.cells #[.int .u32 tt] 43)) (some ⟨w8.heap.size, 0, none⟩) [tt]) := srd_lit wordE 43 w8 [tt]
            have HSA : Hid (M + 1 ≤ (w8.alloc (.cells #[.int .u32 tt] 43)).heap.size) := (Array.getElem?_eq_some_iff.1 HI9.out.mb).1
            have HNX : Hid (∀ v9 w9, SOwn wordE 43 w9 (M + 1) v9 (lt + 1) (ts ++ [tt]) → (w8.alloc (.cells #[.int .u32 tt] 43)).grownBy w9 (Value.slice Ta lt Tc).ownBlock → (∃ a9 c9, v9 = .slice a9 (lt + 1) c9) ∧ w9.cell? ⟨M, 2, none⟩ = some (.slice Ta lt Tc) ∧ w9.frozen? ⟨M, 2, none⟩ = false ∧ Hid (DI w (w9.setCell ⟨M, 2, none⟩ v9) N O a L c zs (p5, b6) E V ms raw M i1 s1 v9 (ts ++ [tt]))) := fun v9 w9 ho9 hg9 => by
              obtain ⟨h1, h2, h3⟩ := HI9.out.token (T' := v9) (t := tt) (by rw [ELT.out]; exact ho9) hg9
              exact ⟨sown_slice ho9, h2, h3, h1⟩
            clear ga HI9
            go_wp2_with (at_builtin; refine wpList_append_at wordT rfl (.tmp 71) (.tmp 74) rfl (M + 1) (.slice Ta lt Tc) lt ts rfl HOA.out ⟨w8.heap.size, 0, none⟩ [tt] 1 1 rfl rfl HRA.out (by omega) (by unfold maxLen; omega) HSA.out ?_; intro v9 w9 ho9 hg9 hn9 hl9; obtain ⟨⟨a9, c9, e9⟩, k9, f9, HR9⟩ := HNX.out v9 w9 ho9 hg9; clear ho9 hg9 hn9 hl9; subst e9)
            have hk1 := HK1.out
            go_roundw
            case rel =>
              refine ⟨k - 1, by go_num, by omega, (p5, b6), a9, c9, ts ++ [tt], f', ?_, HT8.out.2.2, ?_, HT8.out.1, ?_⟩
              · have h := HR9.out
                rw [List.length_append, List.length_singleton, ELT.out]
                exact h
              · have := HT8.out.2.1; have := HLEN2.out.2; omega
              · have := HT8.out.2.1; have := HLEN2.out.1; rw [List.length_append, List.length_singleton, ELT.out]; omega
            case measure => simp [intOf]; omega
        · have hst := HWR.out
          rw [wordsD_stop hgo] at hst
          simp only [Prod.mk.injEq] at hst
          obtain ⟨rfl, rfl, rfl⟩ := hst
          obtain ⟨n1, en1⟩ : ∃ n1, ts.length = n1 := ⟨_, rfl⟩
          rw [en1] at HD0
          have hout := (cell2 HD0.out.dd.out).2
          obtain ⟨m0, m1, m2⟩ := cell3 HD0.out.mb
          obtain ⟨Va, Vc, eV⟩ := sown_slice HD0.out.dd.own.row
          subst eV
          have ga := World.grownBy_alloc wr (.cells #[.int .i64 i1, .int .i64 s1, .slice Ta n1 Tc] 61) none
          obtain ⟨lm, elm⟩ : ∃ lm, ms.length = lm := ⟨_, rfl⟩
          have ELM : Hid (ms.length = lm) := elm
          rw [elm] at hout
          have HOA : Hid (SOwn memE 61 (wr.alloc (.cells #[.int .i64 i1, .int .i64 s1, .slice Ta n1 Tc] 61)) (O + 1) (.slice Va lm Vc) lm raw) := by
            have h := (HD0.out.dd.grown ga).own.row
            rw [elm] at h
            exact h
          have HRA : Hid (SRd memE (wr.alloc (.cells #[.int .i64 i1, .int .i64 s1, .slice Ta n1 Tc] 61)) (some ⟨wr.heap.size, 0, none⟩) [(i1, s1, Ta, n1, Tc)]) := srd_lit memE 61 wr [(i1, s1, Ta, n1, Tc)]
          have HSA : Hid (O + 1 ≤ (wr.alloc (.cells #[.int .i64 i1, .int .i64 s1, .slice Ta n1 Tc] 61)).heap.size) := (Array.getElem?_eq_some_iff.1 (HD0.out.dd.grown ga).out).1
          have HNX : Hid (∀ v9 w9, SOwn memE 61 w9 (O + 1) v9 (lm + 1) (raw ++ [(i1, s1, Ta, n1, Tc)]) → (wr.alloc (.cells #[.int .i64 i1, .int .i64 s1, .slice Ta n1 Tc] 61)).grownBy w9 (Value.slice Va lm Vc).ownBlock → (∃ a9 c9, v9 = .slice a9 (lm + 1) c9) ∧ w9.cell? ⟨O, 1, none⟩ = some (.slice Va lm Vc) ∧ w9.frozen? ⟨O, 1, none⟩ = false ∧ Hid (DD w (w9.setCell ⟨O, 1, none⟩ v9) N O a L c zs (p4, b4) E v9 (ms ++ [(i1, s1, ts)]) (raw ++ [(i1, s1, Ta, n1, Tc)]))) := fun v9 w9 ho9 hg9 => by
            have hd9 := HD0.out
            rw [elm] at hd9
            obtain ⟨h1, h2, h3⟩ := hd9.member (V' := v9) ga (by rw [elm]; exact ho9) hg9
            exact ⟨sown_slice ho9, h2, h3, h1⟩
          have hlm : lm ≤ 1048578 := by omega
          clear ga hd hmr hf hip hlen HWR elm HD0 en1
          have hcs : decide (0 < k) = false ∨ (decide (0 < k) = true ∧ b4 = true) := by
            by_cases h0 : 0 < k
            · right
              refine ⟨by simpa using h0, ?_⟩
              cases b4 with
              | true => rfl
              | false => exact absurd ⟨h0, rfl⟩ hgo
            · left; simpa using h0
          clear hgo
          rcases hcs with q2 | ⟨q2, rfl⟩
          all_goals
            go_wp2_with (at_builtin; refine wpList_append_at memT23 rfl (.tmp 78) (.tmp 80) rfl (O + 1) (.slice Va lm Vc) lm raw rfl HOA.out ⟨wr.heap.size, 0, none⟩ [(i1, s1, Ta, n1, Tc)] 1 1 rfl rfl HRA.out (by omega) (by unfold maxLen; omega) HSA.out ?_; intro v9 w9 ho9 hg9 hn9 hl9; obtain ⟨⟨a9, c9, e9⟩, k9, f9, HR9⟩ := HNX.out v9 w9 ho9 hg9; clear ho9 hg9 hn9 hl9; subst e9)
            have hn1 := HN1.out
            go_roundw
            case rel =>
              refine ⟨n - 1, by go_num, by have := HN1.out; omega, _, _, _, _, f', HR9.out, HMR2.out, ?_, HADV.out.1, ?_⟩
              · have := HADV.out.2; have := HLEN.out.2; omega
              · have := HADV.out.2; have := HLEN.out.1; rw [List.length_append, List.length_singleton]; omega
            case measure => have := HN1.out; simp [intOf]; omega
    · have hst := HMR.out
      rw [memsD_stop hgo] at hst
      simp only [Prod.mk.injEq] at hst
      obtain ⟨rfl, rfl, rfl⟩ := hst
      obtain ⟨Va, Vc, eV⟩ := sown_slice HD0.out.own.row
      subst eV
      obtain ⟨lm, elm⟩ : ∃ lm, ms.length = lm := ⟨_, rfl⟩
      rw [elm] at HD0
      obtain ⟨o0, o1⟩ := cell2 HD0.out.out
      have hwf := docD_wf zs
      have hsm := HDS.out
      rw [HD.out] at hwf hsm
      simp only at hwf hsm
      have C15 := r_encode E ms raw Va lm Vc wr HD0.out.own.rd.1 elm HE.out hwf (by omega) (fun s hs => by have := hsm.2 s hs; omega)
      have HSAME := doc_same (zs := zs) HZ.out
      rw [HD.out] at HSAME
      simp only at HSAME
      rw [elm] at HSAME
      have HSM : Hid (_ ∧ _) := HSAME
      have ELM : Hid (ms.length = lm) := elm
      clear hd hmr hf hip hlen HMR hwf hsm HSAME elm
      have hcs : (decide (0 < n) = false ∧ b = true) ∨ (decide (0 < n) = true ∧ b = true) ∨ (decide (0 < n) = false ∧ b = false) := by
        by_cases h0 : 0 < n
        · right; left
          refine ⟨by simpa using h0, ?_⟩
          cases b with
          | true => rfl
          | false => exact absurd ⟨h0, rfl⟩ hgo
        · cases b with
          | true => exact .inl ⟨by simpa using h0, rfl⟩
          | false => exact .inr (.inr ⟨by simpa using h0, rfl⟩)
      clear hgo
      rcases hcs with ⟨q1, rfl⟩ | ⟨q1, rfl⟩ | ⟨q1, rfl⟩
      all_goals
        go_wp2_with fail
        refine C15.mono ?_
        rintro e w8 ⟨hg8, hcase⟩
        have HD8 : Hid (DD w w8 N O a L c zs (p, _) E (.slice Va lm Vc) ms raw) := HD0.out.grown hg8
        clear hbox o0 o1 C15 HD0
        have hbox8 := (cell3 HD8.out.rdr.box).2.2
        simp only at hbox8
        obtain ⟨o0, o1⟩ := cell2 HD8.out.out
        obtain ⟨r0, r1⟩ := cell2 HD8.out.res
        have f0 := free_row HD8.out.res 0
        have f1 := free_row HD8.out.res 1
        have HSN : Hid (∀ (u : World) (x y : Value), u.grownBy ((u.setCell ⟨N, 0, none⟩ x).setCell ⟨N, 1, none⟩ y) (some N)) := fun u x y => gb_trans (gb_set (g := N) rfl) (gb_set (g := N) rfl) (fun j hj => .inr hj)
        have HBAD : Hid (decC zs = 130 → DcOut zs w (.returned (.tuple #[.agg #[.int .u64 0, .slice none 0 0], .int .i64 130])) ((w8.setCell ⟨N, 0, none⟩ (.int .u64 0)).setCell ⟨N, 1, none⟩ (.slice none 0 0))) := fun hq => by
          refine ⟨0, none, 0, 0, by rw [hq], gb_trans HD8.out.gb (HSN.out _ _ _) (fun k hk => .inl (by cases hk; have := EN.out; omega)), fun e => absurd e (by rw [hq]; decide), fun _ => ⟨rfl, rfl, rfl, rfl⟩⟩
        have HGOOD : Hid (decC zs = 0 ∧ (ringR zs).1 = E ∧ (ringR zs).2.1 = ms → DcOut zs w (.returned (.tuple #[.agg #[.int .u64 E, .slice Va lm Vc], .int .i64 0])) ((w8.setCell ⟨N, 0, none⟩ (.int .u64 E)).setCell ⟨N, 1, none⟩ (.slice Va lm Vc))) := fun hq => by
          refine ⟨E, Va, lm, Vc, by rw [hq.1], gb_trans HD8.out.gb (HSN.out _ _ _) (fun k hk => .inl (by cases hk; have := EN.out; omega)), fun _ => ⟨hq.2.1.symm, by rw [hq.2.2, ELM.out], raw, ?_⟩, fun e => absurd hq.1 e⟩
          rw [hq.2.2]
          exact (HD8.out.own.kept (HSN.out w8 _ _) (fun k hk => by cases hk; exact .inl (by have := HD8.out.ol; omega))).base (by have := HD8.out.ol; have := EN.out; omega)
        have HRES : Hid (w8.heap[N]? = some (.cells #[.int .u64 0, .slice none 0 0] 25 (0, 0))) := HD8.out.res
        have HRDZ : Hid (Rd w8 a zs) := HD8.out.rdr.rd
        clear HD8 HUI HUJ HU HOF HDS HD HE hg8
      iterate 2
        · have HQ : Hid (decC zs = 130) := HSM.out.2 (fun h => by cases h.1)
          clear HGOOD HSM
          rcases hcase with ⟨_, g, c', M', rfl, _, _⟩ | ⟨_, rfl⟩
          all_goals
            go_wp2
            refine bodyPost_ret (v := .tuple #[.agg #[.int .u64 0, .slice none 0 0], .int .i64 130]) (results_row_tmp Tryz.results30 _ _ _ N 25 _ (0, 0) _ rfl (pair_set HRES.out (.int .u64 0) (.slice none 0 0)) Tryz.underlying25 isz25) rfl ?_
            exact HBAD.out HQ.out
      · rcases hcase with ⟨hok, g, c', M', rfl, hrd, hlen⟩ | ⟨hok, rfl⟩
        · have hc1 := conv_rd w8 (some ⟨g, 0, none⟩) (encAll (nrs E lm ms)) M' c' hrd hlen
          have hc2 := conv_rd w8 a zs L c HRDZ.out HLZ.out
          obtain ⟨S1, eS1⟩ : ∃ S1, strOfNums (encAll (nrs E lm ms)) = S1 := ⟨_, rfl⟩
          obtain ⟨S2, eS2⟩ : ∃ S2, strOfNums zs = S2 := ⟨_, rfl⟩
          rw [eS1] at hc1
          rw [eS2] at hc2
          by_cases heq : encAll (nrs E lm ms) = zs
          · have q5 : (S1.toList == S2.toList) = true := by rw [← eS1, ← eS2, heq]; simp
            have HQ : Hid (decC zs = 0 ∧ (ringR zs).1 = E ∧ (ringR zs).2.1 = ms) := HSM.out.1 ⟨by simp, hok, heq⟩
            clear HBAD HSM heq eS1 eS2 hok hrd hlen
            go_wp2
            refine bodyPost_ret (v := .tuple #[.agg #[.int .u64 E, .slice Va lm Vc], .int .i64 0]) (results_row_tmp Tryz.results30 _ _ _ N 25 _ (0, 0) _ rfl (pair_set HRES.out (.int .u64 E) (.slice Va lm Vc)) Tryz.underlying25 isz25) rfl ?_
            exact HGOOD.out HQ.out
          · have q5 : (S1.toList == S2.toList) = false := by
              rw [← eS1, ← eS2]
              cases hb : ((strOfNums (encAll (nrs E lm ms))).toList == (strOfNums zs).toList) with
              | false => rfl
              | true =>
                refine absurd (strOfNums_inj hrd.2 HRDZ.out.2 ?_) heq
                have := eq_of_beq hb
                rwa [ByteArray.toList_eq, ByteArray.toList_eq] at this
            have HQ : Hid (decC zs = 130) := HSM.out.2 (fun h => heq h.2.2)
            clear HGOOD HSM heq eS1 eS2 hok hrd hlen
            go_wp2
            refine bodyPost_ret (v := .tuple #[.agg #[.int .u64 0, .slice none 0 0], .int .i64 130]) (results_row_tmp Tryz.results30 _ _ _ N 25 _ (0, 0) _ rfl (pair_set HRES.out (.int .u64 0) (.slice none 0 0)) Tryz.underlying25 isz25) rfl ?_
            exact HBAD.out HQ.out
        · have HQ : Hid (decC zs = 130) := HSM.out.2 (fun h => by rw [hok] at h; cases h.2.1)
          clear HGOOD HSM hok
          go_wp2
          refine bodyPost_ret (v := .tuple #[.agg #[.int .u64 0, .slice none 0 0], .int .i64 130]) (results_row_tmp Tryz.results30 _ _ _ N 25 _ (0, 0) _ rfl (pair_set HRES.out (.int .u64 0) (.slice none 0 0)) Tryz.underlying25 isz25) rfl ?_
          exact HBAD.out HQ.out
end Go.Proofs.YtboamjhlaehoaaaGreat

