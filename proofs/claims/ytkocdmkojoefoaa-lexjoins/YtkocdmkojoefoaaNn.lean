/- Numbers: the four ways. -/
import Derived.Test.YtkocdmkojoefoaaNm
namespace Go.Proofs.Ytkocdmkojoefoaa
open Go.RowKit
set_option linter.unusedVariables false
set_option maxRecDepth 20000

/-- What is known of the run where its first m bytes are. -/
theorem run_pre {l : List Int} {m : Nat} (h : RunAt (runB 46) l m) : m ≤ (runR 46 l).length ∧ (runR 46 l).take m = l.take m ∧ ∀ i, i < m → (runR 46 l).getD i 0 = l.getD i 0 := by
  have e : runR 46 l = l.take m ++ (l.drop m).takeWhile (runB 46) := all_tw (fun c hc => hc) l m h
  have hl := take_len h.1
  refine ⟨by rw [e, List.length_append]; omega, by rw [e, List.take_append_of_le_length (by omega), List.take_of_length_le (by omega)], fun i hi => ?_⟩
  rw [e, List.getD_eq_getElem?_getD, List.getD_eq_getElem?_getD, List.getElem?_append_left (by omega), List.getElem?_take_of_lt hi]
theorem run_stop {l : List Int} {m : Nat} (h : RunAt (runB 46) l m) (hs : runB 46 (l.getD m 0) = false) : runR 46 l = l.take m := h.done hs
theorem dig_runAt {l : List Int} {D : Nat} (h : RunAt digB l D) : RunAt (runB 46) l D := ⟨h.1, List.all_eq_true.2 fun z hz => dig_run (List.all_eq_true.1 h.2 z hz) 46⟩
theorem not_all {R : List Int} {i : Nat} (hi : i < R.length) (h : digB (R.getD i 0) = false) (k : Nat) (hk : i < k) : (R.take k).all digB = false := by
  rw [Bool.eq_false_iff]
  intro hx
  have := List.all_eq_true.1 hx R[i] (by rw [List.mem_take_iff_getElem]; exact ⟨i, by omega, rfl⟩)
  rw [List.getD_eq_getElem?_getD, List.getElem?_eq_getElem hi, Option.getD_some, this] at h
  cases h
theorem not_all_drop {R : List Int} {i k : Nat} (hi : i < R.length) (h : digB (R.getD i 0) = false) (hk : k ≤ i) : (R.drop k).all digB = false := by
  rw [Bool.eq_false_iff]
  intro hx
  have := List.all_eq_true.1 hx R[i] (by rw [List.mem_drop_iff_getElem]; exact ⟨i - k, by omega, by congr 1; omega⟩)
  rw [List.getD_eq_getElem?_getD, List.getElem?_eq_getElem hi, Option.getD_some, this] at h
  cases h
theorem not_whole {R : List Int} (h : R.all digB = false) : wholeB R = false := by unfold wholeB; rw [h]; rfl
/-- No span: its last byte is no unit, or there is one ahead that is no digit. -/
theorem span_not {R : List Int} {i : Nat} (hi : i < R.length) (h : digB (R.getD i 0) = false) (h2 : i + 1 = R.length → unitR (R.getD i 0) = 0) : spanR R = 0 := by
  unfold spanR
  by_cases hx : 2 ≤ R.length ∧ R.length ≤ 11 ∧ wholeB (R.take (R.length - 1)) = true
  · by_cases hl : i + 1 = R.length
    · rw [if_pos hx, show R.length - 1 = i by omega, h2 hl, if_neg (by omega)]
    · rw [not_whole (not_all hi h _ (by omega))] at hx
      simp at hx
  · rw [if_neg hx]
theorem span_digs {R : List Int} (h : R.all digB = true) : spanR R = 0 := by
  unfold spanR
  by_cases hx : 2 ≤ R.length ∧ R.length ≤ 11 ∧ wholeB (R.take (R.length - 1)) = true
  · have hu : unitR (R.getD (R.length - 1) 0) = 0 := by
      refine unit_dig ?_
      rw [List.getD_eq_getElem?_getD, List.getElem?_eq_getElem (by omega), Option.getD_some]
      exact List.all_eq_true.1 h _ (List.getElem_mem _)
    rw [if_pos hx, hu, if_neg (by omega)]
  · rw [if_neg hx]
theorem whole_digs {l : List Int} {D : Nat} (h : DigAt l D) (hz : ¬ (l.getD 0 0 = 48 ∧ 1 < D)) : wholeB (l.take D) = true := by
  have hl := take_len h.run.1
  have hp := h.pos
  rw [whole_iff, take_get hp h.run.1, hl]
  refine ⟨h.run.2, fun e => ?_, by omega⟩
  rw [e] at hl
  simp at hl
  omega
theorem num_none {l : List Int} (h1 : spanR (runR 46 l) = 0) (h2 : numB (runR 46 l) = false) : numR l = (0, ⟨#[]⟩, 0, 0) := by
  unfold numR
  rw [h1, h2, if_neg (by omega), if_neg (by simp)]
/-- Digits alone. -/
theorem num_plain {l : List Int} {D : Nat} (h : DigAt l D) (hz : ¬ (l.getD 0 0 = 48 ∧ 1 < D)) (hc : runB 46 (l.getD D 0) = false) : numR l = if D ≤ 15 then (1, strOfNums (l.take D), 0, D) else (0, ⟨#[]⟩, 0, 0) := by
  have hR := run_stop (dig_runAt h.run) hc
  have hl := take_len h.run.1
  have hS : spanR (runR 46 l) = 0 := by rw [hR]; exact span_digs h.run.2
  have hH : headR (l.take D) = l.take D := head_take (l := l) (l.take D) D h.run (by rw [List.take_take, Nat.min_self]) (fun hx => by omega)
  have hN : numB (runR 46 l) = decide (D ≤ 15) := by
    unfold numB
    rw [hR, hH, if_pos rfl, hl, whole_digs h hz]
    rfl
  unfold numR
  rw [hS, if_neg (by omega), hN, hR, hl]
  by_cases hd : D ≤ 15
  · rw [if_pos (by simpa using hd), if_pos hd]
  · rw [if_neg (by simpa using hd), if_neg hd]
/-- Digits, a dot, and what is behind up to F. -/
structure FracAt (l : List Int) (D F : Nat) : Prop where
  dig : DigAt l D
  dot : l.getD D 0 = 46
  lo : D + 1 ≤ F
  hi : F ≤ l.length
  all : ((l.take F).drop (D + 1)).all digB = true
theorem dot_lt {l : List Int} {D : Nat} (h : l.getD D 0 = 46) : D < l.length := getD_end (by rw [h]; decide)
theorem FracAt.start {l : List Int} {D : Nat} (h : DigAt l D) (hd : l.getD D 0 = 46) : FracAt l D (D + 1) := by
  have := dot_lt hd
  refine ⟨h, hd, Nat.le_refl _, this, ?_⟩
  rw [List.drop_eq_nil_of_le (by rw [List.length_take]; omega)]
  rfl
theorem FracAt.next {l : List Int} {D F : Nat} (h : FracAt l D F) (hd : digB (l.getD F 0) = true) : F < l.length ∧ FracAt l D (F + 1) := by
  have hF : F < l.length := by
    by_cases hl : F < l.length
    · exact hl
    · rw [List.getD_eq_getElem?_getD, List.getElem?_eq_none (by omega)] at hd
      simp [digB] at hd
  refine ⟨hF, h.dig, h.dot, by have := h.lo; omega, hF, ?_⟩
  have hlo := h.lo
  rw [List.getD_eq_getElem?_getD, List.getElem?_eq_getElem hF, Option.getD_some] at hd
  rw [List.take_add_one, List.getElem?_eq_getElem hF, Option.toList_some, List.drop_append_of_le_length (by rw [List.length_take]; omega), List.all_append, h.all, List.all_cons, List.all_nil, hd]
  rfl
theorem FracAt.run {l : List Int} {D F : Nat} (h : FracAt l D F) : RunAt (runB 46) l F := by
  refine ⟨h.hi, List.all_eq_true.2 fun z hz => ?_⟩
  rw [List.mem_take_iff_getElem] at hz
  obtain ⟨i, hi, rfl⟩ := hz
  by_cases h1 : i < D
  · exact dig_run (List.all_eq_true.1 h.dig.run.2 _ (by rw [List.mem_take_iff_getElem]; exact ⟨i, by omega, rfl⟩)) 46
  · by_cases h2 : i = D
    · subst h2
      have := h.dot
      rw [List.getD_eq_getElem?_getD, List.getElem?_eq_getElem (by omega), Option.getD_some] at this
      rw [this]
      decide
    · refine dig_run (List.all_eq_true.1 h.all _ ?_) 46
      rw [List.mem_drop_iff_getElem]
      refine ⟨i - (D + 1), by rw [List.length_take]; omega, ?_⟩
      rw [List.getElem_take]
      congr 1
      omega
theorem FracAt.facts {l : List Int} {D F : Nat} (h : FracAt l D F) : spanR (runR 46 l) = 0 ∧ headR (runR 46 l) = l.take D ∧ D < (runR 46 l).length := by
  obtain ⟨h1, h2, h3⟩ := run_pre h.run
  have hlo := h.lo
  have hg : (runR 46 l).getD D 0 = 46 := by rw [h3 D (by omega), h.dot]
  refine ⟨span_not (i := D) (by omega) (by rw [hg]; decide) (fun _ => by rw [hg]; decide), ?_, by omega⟩
  refine head_take _ D h.dig.run ?_ (fun _ => hg)
  have := congrArg (List.take D) h2
  rwa [List.take_take, List.take_take, Nat.min_eq_left (by omega)] at this
/-- A dot and no digit behind it; or digits, and then what is no digit, but of the run. -/
theorem num_dotX {l : List Int} {D F : Nat} (h : FracAt l D F) (hd : digB (l.getD F 0) = false) (hx : F = D + 1 ∨ runB 46 (l.getD F 0) = true) : numR l = (0, ⟨#[]⟩, 0, 0) := by
  obtain ⟨hS, hH, hlt⟩ := h.facts
  refine num_none hS ?_
  obtain ⟨h1, h2, h3⟩ := run_pre h.run
  have hl := take_len h.dig.run.1
  unfold numB
  rw [hH, hl, if_neg (by omega)]
  by_cases hr : runB 46 (l.getD F 0) = true
  · obtain ⟨h4, h5⟩ := RunAt.next (by decide) h.run hr
    obtain ⟨g1, g2, g3⟩ := run_pre h5
    rw [not_all_drop (i := F) (by omega) (by rw [g3 F (by omega)]; exact hd) h.lo]
    simp
  · have hF : F = D + 1 := by rcases hx with h | h; exact h; exact absurd h hr
    have hR := run_stop h.run (by simpa using hr)
    have : (runR 46 l).length = F := by rw [hR, take_len h.hi]
    rw [this, hF]
    simp
theorem num_frac {l : List Int} {D F : Nat} (h : FracAt l D F) (hF : D + 2 ≤ F) (hz : ¬ (l.getD 0 0 = 48 ∧ 1 < D)) (hr : runB 46 (l.getD F 0) = false) : numR l = if F ≤ 16 then (1, strOfNums (l.take F), 0, F) else (0, ⟨#[]⟩, 0, 0) := by
  obtain ⟨hS, hH, hlt⟩ := h.facts
  have hl := take_len h.dig.run.1
  have hR := run_stop h.run hr
  have hlen : (l.take F).length = F := take_len h.hi
  have hN : numB (runR 46 l) = decide (F ≤ 16) := by
    unfold numB
    rw [hH, hl, whole_digs h.dig hz, if_neg (by omega), hR, hlen, h.all, decide_eq_true (show D + 1 < F by omega)]
    rfl
  unfold numR
  rw [hS, if_neg (by omega), hN, hR, hlen]
  by_cases hd : F ≤ 16
  · rw [if_pos (by simpa using hd), if_pos hd]
  · rw [if_neg (by simpa using hd), if_neg hd]
theorem val_next (l : List Int) (k : Nat) (hk : k < l.length) : valL (l.take (k + 1)) = 10 * valL (l.take k) + (l.getD k 0 - 48) := by
  unfold valL
  rw [List.take_add_one, List.getElem?_eq_getElem hk, Option.toList_some, List.foldl_append, List.getD_eq_getElem?_getD, List.getElem?_eq_getElem hk]
  rfl
theorem dig_bd {c : Int} (h : digB c = true) : 48 ≤ c ∧ c ≤ 57 := by
  unfold digB at h
  simpa using h
theorem RunAt.at {p : Int → Bool} {l : List Int} {k : Nat} (h : RunAt p l k) (i : Nat) (hi : i < k) : p (l.getD i 0) = true := by
  have := h.1
  rw [List.getD_eq_getElem?_getD, List.getElem?_eq_getElem (by omega), Option.getD_some]
  exact List.all_eq_true.1 h.2 _ (by rw [List.mem_take_iff_getElem]; exact ⟨i, by omega, rfl⟩)
theorem val_pos {l : List Int} {D : Nat} (h : RunAt digB l D) : ∀ k, k ≤ D → 0 ≤ valL (l.take k) := by
  intro k
  induction k with
  | zero => intro _; simp [valL]
  | succ k ih =>
    intro hk
    have h1 := h.1
    rw [val_next l k (by omega)]
    have := ih (by omega)
    have := dig_bd (h.at k (by omega))
    omega
theorem val_big {l : List Int} {D : Nat} (h : RunAt digB l D) (h0 : l.getD 0 0 ≠ 48) : ∀ k, k + 1 ≤ D → (10 : Int) ^ k ≤ valL (l.take (k + 1)) := by
  intro k
  have h1 := h.1
  induction k with
  | zero =>
    intro hk
    rw [val_next l 0 (by omega), show valL (l.take 0) = 0 from rfl, Int.pow_zero]
    have := dig_bd (h.at 0 (by omega))
    omega
  | succ k ih =>
    intro hk
    rw [val_next l (k + 1) (by omega)]
    have := ih (by omega)
    have := dig_bd (h.at (k + 1) (by omega))
    rw [Int.pow_succ]
    omega
theorem val_small {l : List Int} {D : Nat} (h : DigAt l D) (hz : ¬ (l.getD 0 0 = 48 ∧ 1 < D)) (hv : valL (l.take D) ≤ 2147483647) : D ≤ 10 := by
  by_cases hD : D ≤ 10
  · exact hD
  · have h1 := val_big h.run (by omega) 10 (by omega)
    have h2 : ∀ m, valL (l.take 11) ≤ valL (l.take (11 + m)) ∨ D < 11 + m := by
      intro m
      induction m with
      | zero => exact .inl (Int.le_refl _)
      | succ m ih =>
        by_cases hm : D < 11 + (m + 1)
        · exact .inr hm
        · left
          rcases ih with ih | ih
          · have h1 := h.run.1
            have e := val_next l (11 + m) (by omega)
            rw [show 11 + (m + 1) = 11 + m + 1 by omega, e]
            have := val_pos h.run (11 + m) (by omega)
            have := dig_bd (h.run.at (11 + m) (by omega))
            omega
          · omega
    have h3 := h2 (D - 11)
    rw [show 11 + (D - 11) = D by omega] at h3
    have e10 : (10 : Int) ^ 10 = 10000000000 := by decide
    rw [e10] at h1
    rcases h3 with h3 | h3
    · have : valL (l.take (10 + 1)) = valL (l.take 11) := rfl
      omega
    · omega
theorem unit_bd (c : Int) : unitR c = 0 ∨ unitR c = 1 ∨ unitR c = 60 ∨ unitR c = 3600 ∨ unitR c = 86400 := by
  unfold unitR
  repeat' split
  all_goals simp
/-- Digits and a letter. -/
theorem num_unit {l : List Int} {D : Nat} (h : DigAt l D) (hz : ¬ (l.getD 0 0 = 48 ∧ 1 < D)) (hc : letB (l.getD D 0) = true) (M v : Int) (hM : M = min (valL (l.take D)) 2147483648) (hv : v = M * unitR (l.getD D 0)) :
    numR l = if 1 ≤ v ∧ v ≤ 2147483647 ∧ runB 46 (l.getD (D + 1) 0) = false then (2, strOfNums (l.take (D + 1)), v, D + 1) else (0, ⟨#[]⟩, 0, 0) := by
  have hrD : runB 46 (l.getD D 0) = true := by unfold runB; rw [hc]; simp
  obtain ⟨hlt, hr1⟩ := RunAt.next (by decide) (dig_runAt h.run) hrD
  obtain ⟨g1, g2, g3⟩ := run_pre hr1
  obtain ⟨hld, hl46⟩ := let_dig hc
  have hgD := g3 D (by omega)
  have hNB : numB (runR 46 l) = false := by
    have hh : wholeB (headR (runR 46 l)) = false := by
      have hpre : headR (runR 46 l) <+: runR 46 l := List.takeWhile_prefix _
      have e := List.prefix_iff_eq_take.1 hpre
      have hlen : D + 1 ≤ (headR (runR 46 l)).length := by
        have hx : headR (runR 46 l) = l.take (D + 1) ++ headR ((l.drop (D + 1)).takeWhile (runB 46)) := by
          have er : runR 46 l = l.take (D + 1) ++ (l.drop (D + 1)).takeWhile (runB 46) := all_tw (fun c hc => hc) l (D + 1) hr1
          unfold headR
          conv => lhs; rw [er]
          rw [List.takeWhile_append_of_pos (fun z hz => by
            rw [List.mem_take_iff_getElem] at hz
            obtain ⟨i, hi, rfl⟩ := hz
            have e1 : l[i] = l.getD i 0 := by rw [List.getD_eq_getElem?_getD, List.getElem?_eq_getElem (by omega), Option.getD_some]
            rw [e1]
            by_cases h1 : i < D
            · have := dig_bd (h.run.at i h1)
              simp only [decide_eq_true_eq]
              omega
            · have : i = D := by omega
              subst this
              simpa using hl46)]
        rw [hx, List.length_append, take_len hr1.1]
        omega
      rw [e]
      exact not_whole (not_all (i := D) (by omega) (by rw [hgD]; exact hld) _ (by omega))
    unfold numB
    rw [hh]
    rfl
  have hMb : M ≤ 2147483648 := by omega
  have hM0 : 0 ≤ M := by have := val_pos h.run D (Nat.le_refl _); omega
  cases hs : runB 46 (l.getD (D + 1) 0) with
  | true =>
    rw [if_neg (by simp)]
    obtain ⟨_, hr2⟩ := RunAt.next (by decide) hr1 hs
    obtain ⟨k1, _, k3⟩ := run_pre hr2
    exact num_none (span_not (i := D) (by omega) (by rw [k3 D (by omega)]; exact hld) (fun e => by omega)) hNB
  | false =>
    have hR := run_stop hr1 hs
    have hRl : (runR 46 l).length = D + 1 := by rw [hR]; exact take_len hr1.1
    have hT : (runR 46 l).take D = l.take D := by rw [hR, List.take_take, Nat.min_eq_left (by omega)]
    have hp := h.pos
    have hSp : spanR (runR 46 l) = if 1 ≤ v ∧ v ≤ 2147483647 then v else 0 := by
      unfold spanR
      rw [hRl, show D + 1 - 1 = D by omega, hT, hgD, whole_digs h hz]
      have hub := unit_bd (l.getD D 0)
      by_cases hbig : valL (l.take D) ≤ 2147483647
      · have h10 := val_small h hz hbig
        have hMe : M = valL (l.take D) := by omega
        rw [if_pos ⟨by omega, by omega, rfl⟩, ← hMe, ← hv]
      · have hMe : M = 2147483648 := by omega
        have hv2 : v = 0 ∨ 2147483648 ≤ v := by rw [hv, hMe]; rcases hub with h | h | h | h | h <;> rw [h] <;> omega
        rw [if_neg (show ¬ (1 ≤ v ∧ v ≤ 2147483647) by omega)]
        by_cases hx : 2 ≤ D + 1 ∧ D + 1 ≤ 11 ∧ (true = true)
        · rw [if_pos hx, if_neg (by
            have : valL (l.take D) * unitR (l.getD D 0) = 0 ∨ 2147483648 ≤ valL (l.take D) * unitR (l.getD D 0) := by
              rcases hub with h | h | h | h | h <;> rw [h] <;> omega
            omega)]
        · rw [if_neg hx]
    by_cases hin : 1 ≤ v ∧ v ≤ 2147483647
    · rw [if_pos ⟨hin.1, hin.2, rfl⟩]
      unfold numR
      rw [hSp, if_pos hin, if_pos hin.1, hR, take_len hr1.1]
    · rw [if_neg (fun hx => hin ⟨hx.1, hx.2.1⟩)]
      rw [if_neg hin] at hSp
      exact num_none hSp hNB
end Go.Proofs.Ytkocdmkojoefoaa
