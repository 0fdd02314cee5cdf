/- Several texts in one: Wm, Fm. -/
import Derived.Test.YtekejnjaiccnbaaGreatDoorMd
import Derived.Test.YtekejnjaiccnbaaGreatDoorMp
/- Records as frames, one behind the other, and what a cut leaves of them. (No program's numbers.) -/
namespace Go.Proofs.YtekejnjaiccnbaaGreatDoor
set_option linter.unusedVariables false

/-- What a framing keeps to: fr lays a record, uf reads one at a place. -/
structure Framing (fr : List Int → List Int) (uf : List Int → Nat → Option (List Int × Nat)) : Prop where
  pos : ∀ r, 0 < (fr r).length
  whole : ∀ xs r ys, r.length ≤ 65536 → uf (xs ++ (fr r ++ ys)) xs.length = some (r, xs.length + (fr r).length)
  torn : ∀ xs r i, r.length ≤ 65536 → i < (fr r).length → uf (xs ++ (fr r).take i) xs.length = none
def logB (fr : List Int → List Int) (recs : List (List Int)) : List Int := recs.flatMap fr
theorem logB_cons (fr : List Int → List Int) (r : List Int) (recs : List (List Int)) : logB fr (r :: recs) = fr r ++ logB fr recs := rfl
theorem logB_app (fr : List Int → List Int) (a b : List (List Int)) : logB fr (a ++ b) = logB fr a ++ logB fr b := List.flatMap_append
/-- The records from a place on; is something torn behind them? -/
def parse (uf : List Int → Nat → Option (List Int × Nat)) (zs : List Int) : Nat → Nat → List (List Int) × Bool
  | 0, _ => ([], false)
  | n + 1, p => if zs.length ≤ p then ([], false) else match uf zs p with
    | none => ([], true)
    | some (r, q) => (r :: (parse uf zs n q).1, (parse uf zs n q).2)
theorem parse_end (uf : List Int → Nat → Option (List Int × Nat)) (zs : List Int) (n p : Nat) (h : zs.length ≤ p) : parse uf zs n p = ([], false) := by
  cases n with
  | zero => rfl
  | succ n => simp [parse, h]
theorem parse_cut {fr : List Int → List Int} {uf : List Int → Nat → Option (List Int × Nat)} (F : Framing fr uf) : ∀ (recs : List (List Int)) (xs : List Int) (k n : Nat), (∀ r ∈ recs, r.length ≤ 65536) → k ≤ (logB fr recs).length → k < n →
    ∃ m, m ≤ recs.length ∧ parse uf (xs ++ (logB fr recs).take k) n xs.length = (recs.take m, decide ((logB fr (recs.take m)).length < k)) ∧ (logB fr (recs.take m)).length ≤ k ∧ (m < recs.length → k < (logB fr (recs.take (m + 1))).length)
  | [], xs, k, n, _, hk, hn => by
    have h0 : k = 0 := by simpa [logB] using hk
    subst h0
    refine ⟨0, Nat.le_refl _, ?_, by simp [logB], fun h => by simp at h⟩
    rw [parse_end _ _ _ _ (by simp [logB])]
    simp [logB]
  | r :: recs, xs, k, n, hr, hk, hn => by
    obtain ⟨n, rfl⟩ : ∃ j, n = j + 1 := ⟨n - 1, by omega⟩
    have hr0 := hr r (by simp)
    have hp := F.pos r
    rw [logB_cons]
    rw [logB_cons, List.length_append] at hk
    by_cases hlt : k < (fr r).length
    · rw [List.take_append_of_le_length (by omega)]
      refine ⟨0, Nat.zero_le _, ?_, by simp [logB], fun _ => by simpa [logB] using hlt⟩
      by_cases h0 : k = 0
      · subst h0
        rw [parse_end _ _ _ _ (by simp)]
        simp [logB]
      · have hlen : ¬ (xs ++ (fr r).take k).length ≤ xs.length := by rw [List.length_append, List.length_take]; omega
        rw [parse, if_neg hlen, F.torn xs r k hr0 hlt]
        have : decide ((logB fr ((r :: recs).take 0)).length < k) = true := by simp [logB]; omega
        rw [this]
        rfl
    · have e1 : (fr r ++ logB fr recs).take k = fr r ++ (logB fr recs).take (k - (fr r).length) := by
        rw [List.take_append, List.take_of_length_le (by omega)]
      rw [e1]
      have hlen : ¬ (xs ++ (fr r ++ (logB fr recs).take (k - (fr r).length))).length ≤ xs.length := by rw [List.length_append, List.length_append]; omega
      obtain ⟨m, hm, h1, h2, h3⟩ := parse_cut F recs (xs ++ fr r) (k - (fr r).length) n (fun x hx => hr x (by simp [hx])) (by omega) (by omega)
      rw [List.append_assoc, List.length_append] at h1
      refine ⟨m + 1, by simp; omega, ?_, ?_, ?_⟩
      · rw [parse, if_neg hlen, F.whole xs r _ hr0]
        dsimp only
        rw [h1, List.take_succ_cons, logB_cons, List.length_append]
        congr 2
        simp
        omega
      · rw [List.take_succ_cons, logB_cons, List.length_append]; omega
      · intro hm'
        rw [List.take_succ_cons, logB_cons, List.length_append]
        have := h3 (by simpa using hm')
        omega
/-- A whole log tells its records. -/
theorem parse_log {fr : List Int → List Int} {uf : List Int → Nat → Option (List Int × Nat)} (F : Framing fr uf) (recs : List (List Int)) (n : Nat) (hr : ∀ r ∈ recs, r.length ≤ 65536) (hn : (logB fr recs).length < n) : parse uf (logB fr recs) n 0 = (recs, false) := by
  obtain ⟨m, hm, h1, h2, h3⟩ := parse_cut F recs [] (logB fr recs).length n hr (Nat.le_refl _) hn
  have hmm : m = recs.length := by
    rcases Nat.lt_or_ge m recs.length with h | h
    · exfalso
      have h4 := h3 h
      have h5 : logB fr recs = logB fr (recs.take (m + 1)) ++ logB fr (recs.drop (m + 1)) := by rw [← logB_app, List.take_append_drop]
      rw [h5, List.length_append] at h4
      omega
    · omega
  subst hmm
  rw [List.take_length] at h1 h2
  rw [List.take_of_length_le (Nat.le_refl _)] at h1
  simpa using h1
/-- A log with a part of one frame behind it. -/
theorem parse_torn {fr : List Int → List Int} {uf : List Int → Nat → Option (List Int × Nat)} (F : Framing fr uf) (recs : List (List Int)) (r : List Int) (i n : Nat) (hr : ∀ x ∈ recs, x.length ≤ 65536) (hr0 : r.length ≤ 65536) (hi : 0 < i ∧ i < (fr r).length) (hn : (logB fr recs).length + i < n) : parse uf (logB fr recs ++ (fr r).take i) n 0 = (recs, true) := by
  have e0 : logB fr (recs ++ [r]) = logB fr recs ++ fr r := by rw [logB_app]; simp [logB]
  have e1 : (logB fr (recs ++ [r])).take ((logB fr recs).length + i) = logB fr recs ++ (fr r).take i := by
    rw [e0, List.take_append, List.take_of_length_le (by omega)]
    simp
  obtain ⟨m, hm, h1, h2, h3⟩ := parse_cut F (recs ++ [r]) [] ((logB fr recs).length + i) n (by intro x hx; rcases List.mem_append.1 hx with h | h; exact hr x h; simp at h; subst h; exact hr0) (by rw [e0, List.length_append]; omega) hn
  rw [e1] at h1
  have hmm : m = recs.length := by
    rcases Nat.lt_trichotomy m recs.length with h | h | h
    · exfalso
      have h4 := h3 (by simp; omega)
      rw [List.take_append_of_le_length (by omega)] at h4
      have h5 : logB fr recs = logB fr (recs.take (m + 1)) ++ logB fr (recs.drop (m + 1)) := by rw [← logB_app, List.take_append_drop]
      rw [h5, List.length_append] at h4
      omega
    · exact h
    · exfalso
      rw [List.take_of_length_le (by simp; omega), e0, List.length_append] at h2
      omega
  subst hmm
  rw [List.take_left'] at h1
  · have : decide ((logB fr recs).length < (logB fr recs).length + i) = true := by simp; omega
    rw [this] at h1
    simpa using h1
  · rfl
end Go.Proofs.YtekejnjaiccnbaaGreatDoor

/- The frames of package codec are a framing. -/
namespace Go.Proofs.YtekejnjaiccnbaaGreatDoor
set_option linter.unusedVariables false

theorem uframe_cutAt (xs rec : List Int) (hr : rec.length ≤ 65536) (i : Nat) (hi : i < (frameR rec).length) : uframeR (xs ++ (frameR rec).take i) xs.length = ([], 0, 20) := by
  have h4 : (four (sumR rec)).length = 4 := rfl
  have hfl : (frameR rec).length = (enc rec.length).length + 4 + rec.length := by rw [frameR]; simp [h4]; omega
  have ef : frameR rec = enc rec.length ++ (four (sumR rec) ++ rec) := by rw [frameR]; simp
  by_cases h : i < (enc rec.length).length
  · have e1 : (frameR rec).take i = (enc rec.length).take i := by rw [ef, List.take_append_of_le_length (by omega)]
    have hu : uintR (xs ++ (frameR rec).take i) xs.length = (0, 0, 20) := by
      unfold uintR
      rw [if_neg (by simp; omega)]
      exact ud_cut _ _ 9 0 rec.length i 0 rfl (by omega) (by rw [e1]; simp) h (by simp; omega)
    unfold uframeR
    rw [hu]
    simp
  · have e1 : (frameR rec).take i = enc rec.length ++ (four (sumR rec) ++ rec).take (i - (enc rec.length).length) := by
      rw [ef, List.take_append]
      rw [List.take_of_length_le (by omega)]
    have hu := uintR_at xs ((four (sumR rec) ++ rec).take (i - (enc rec.length).length)) rec.length (by omega) (xs ++ (frameR rec).take i) (by rw [e1]) xs.length rfl
    unfold uframeR
    rw [hu]
    have hl : (xs ++ (frameR rec).take i).length = xs.length + i := by simp; omega
    simp only [ne_eq, not_true_eq_false, if_false, hl]
    rw [if_neg (by omega), if_pos (by simp; omega)]
/-- A record at a place, if one stands whole there. -/
def ufO (zs : List Int) (p : Nat) : Option (List Int × Nat) := if (uframeR zs p).2.2 = 0 then some ((uframeR zs p).1, (uframeR zs p).2.1.toNat) else none
theorem framing : Framing frameR ufO where
  pos r := by
    rw [frameR]
    have := enc_len_pos r.length
    simp; omega
  whole xs r ys hr := by
    unfold ufO
    rw [uframeR_at xs ys r hr _ rfl _ rfl]
    simp
    omega
  torn xs r i hr hi := by
    unfold ufO
    rw [uframe_cutAt xs r hr i hi]
    simp
end Go.Proofs.YtekejnjaiccnbaaGreatDoor

