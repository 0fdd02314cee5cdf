/- Package parse: the number of a word. -/
import Derived.Test.YtnimdngiejcljaaPb
namespace Go.Proofs.Ytnimdngiejcljaa
open Go.RowKit
set_option linter.unusedVariables false
set_option linter.unusedSimpArgs false
set_option maxRecDepth 20000

theorem str_cell {w : World} {b off i : Nat} {l : List ByteArray} {s : ByteArray} (h : SRd strE w (some ⟨b, off, none⟩) l) (hq : l[i]? = some s) : w.cell? ⟨b, off + i, none⟩ = some (.string s) := by
  obtain ⟨b', off', e, hc⟩ := h.at (by have := (List.getElem?_eq_some_iff.1 hq).1; omega)
  cases e
  have := hc i s 0 (.string s) hq rfl
  simpa [strE] using this
theorem find_lo (s : ByteArray) (l : List ByteArray) : -1 ≤ findB s l ∧ findB s l < l.length := by
  induction l with
  | nil => simp [findB]
  | cons x r ih =>
    unfold findB
    by_cases h : s = x
    · rw [if_pos h]; simp only [List.length_cons]; omega
    · rw [if_neg h]
      simp only [List.length_cons]
      split <;> omega
/-- The first place. -/
theorem find_at (s : ByteArray) : ∀ (l : List ByteArray) (k : Nat), k < l.length → (∀ j, j < k → l[j]? ≠ some s) → l[k]? = some s → findB s l = k := by
  intro l
  induction l with
  | nil => intro k hk; simp at hk
  | cons x r ih =>
    intro k hk hj he
    unfold findB
    cases k with
    | zero =>
      simp only [List.getElem?_cons_zero, Option.some.injEq] at he
      rw [if_pos he.symm]; rfl
    | succ k =>
      have h0 := hj 0 (by omega)
      simp only [List.getElem?_cons_zero, ne_eq, Option.some.injEq] at h0
      rw [if_neg (fun e => h0 e.symm)]
      have := ih k (by simpa using hk) (fun j h => by have := hj (j + 1) (by omega); simpa using this) (by simpa using he)
      rw [this, if_neg (by omega)]
      push_cast
      rfl
theorem find_none (s : ByteArray) : ∀ (l : List ByteArray), (∀ j, j < l.length → l[j]? ≠ some s) → findB s l = -1 := by
  intro l
  induction l with
  | nil => intro _; rfl
  | cons x r ih =>
    intro hj
    unfold findB
    have h0 := hj 0 (by simp)
    simp only [List.getElem?_cons_zero, ne_eq, Option.some.injEq] at h0
    rw [if_neg (fun e => h0 e.symm)]
    rw [ih (fun j h => by have := hj (j + 1) (by simp; omega); simpa using this), if_pos (by omega)]
/-- slices.Index, of texts. -/
theorem f_index (a : Option Addr) (c : Nat) (l : List ByteArray) (s : ByteArray) (w : World) (h : SRd strE w a l) (hl : l.length ≤ 1000) :
    Calls Try.prog 64 #[.slice a l.length c, .string s] w fun e w' => e = .returned (.int .i64 (findB s l)) ∧ w' = w := by
  have H := hid h
  have HF := hid (find_at s l)
  have HN := hid (find_none s l)
  clear h
  go_enter Try.func64, Try.ntmps64
  go_wp2
  go_loopw [8] (fun t8 wr => ∃ k : Nat, k ≤ l.length ∧ t8 = .int .i64 (k : Int) ∧ wr = w ∧ ∀ j, j < k → l[j]? ≠ some s) (fun t8 _ => l.length - (intOf t8).toNat)
  case atStart => exact ⟨0, Nat.zero_le _, rfl, rfl, by omega⟩
  case round =>
    obtain ⟨k, hk, rfl, rfl, hj⟩ := hrel
    have HJ := hid hj
    clear hj
    by_cases hlt : k < l.length
    · have hki : (k : Int) < (l.length : Int) := by omega
      obtain ⟨x, hx⟩ : ∃ x, l[k]? = some x := ⟨_, List.getElem?_eq_getElem hlt⟩
      obtain ⟨bb, oo, ea, _⟩ := H.out.at (by omega)
      have hc := str_cell (by rw [← ea]; exact H.out) hx
      have HX := hid hx
      subst ea
      clear hx
      by_cases he : s = x
      · have q0 : (s.toList == x.toList) = true := by rw [str_eq, decide_eq_true he]
        have HE : Hid (findB s l = (k : Int)) := HF.out k hlt HJ.out (by rw [HX.out, he])
        clear he
        go_wp2
        go_ret
        exact ⟨by rw [HE.out]; rfl, rfl⟩
      · have q0 : (s.toList == x.toList) = false := by rw [str_eq, decide_eq_false he]
        have HE : Hid (∀ j, j < k + 1 → l[j]? ≠ some s) := fun j hj e => by
          by_cases h : j = k
          · rw [h, HX.out] at e; exact he (Option.some.inj e).symm
          · exact HJ.out j (by omega) e
        clear he
        go_wp2
        go_roundw
        case rel => exact ⟨k + 1, by omega, by go_num, by first | rfl | trivial, HE.out⟩
        case measure => simp [intOf]; omega
    · have hki : ¬ (k : Int) < (l.length : Int) := by omega
      have HE : Hid (findB s l = -1) := HN.out fun j h => HJ.out j (by omega)
      go_wp2
      go_ret
      exact ⟨by rw [HE.out]; rfl, rfl⟩
theorem num_cell {w : World} {b off i : Nat} {l : List Int} {s : Int} (h : SRd numE w (some ⟨b, off, none⟩) l) (hq : l[i]? = some s) : w.cell? ⟨b, off + i, none⟩ = some (.int .i64 s) := by
  obtain ⟨b', off', e, hc⟩ := h.at (by have := (List.getElem?_eq_some_iff.1 hq).1; omega)
  cases e
  have := hc i s 0 (.int .i64 s) hq rfl
  simpa [numE] using this
/-- slices.Index, of numbers: below 0 just if it isn't there. -/
theorem f_indexI (a : Option Addr) (c : Nat) (l : List Int) (s : Int) (w : World) (h : SRd numE w a l) (hl : l.length ≤ 1000) :
    Calls Try.prog 65 #[.slice a l.length c, .int .i64 s] w fun e w' => ∃ r : Int, e = .returned (.int .i64 r) ∧ Hid (decide (0 ≤ r) = l.contains s) ∧ w' = w := by
  have H := hid h
  clear h
  go_enter Try.func65, Try.ntmps65
  go_wp2
  go_loopw [8] (fun t8 wr => ∃ k : Nat, k ≤ l.length ∧ t8 = .int .i64 (k : Int) ∧ wr = w ∧ ∀ j, j < k → l[j]? ≠ some s) (fun t8 _ => l.length - (intOf t8).toNat)
  case atStart => exact ⟨0, Nat.zero_le _, rfl, rfl, by omega⟩
  case round =>
    obtain ⟨k, hk, rfl, rfl, hj⟩ := hrel
    have HJ := hid hj
    clear hj
    by_cases hlt : k < l.length
    · have hki : (k : Int) < (l.length : Int) := by omega
      obtain ⟨x, hx⟩ : ∃ x, l[k]? = some x := ⟨_, List.getElem?_eq_getElem hlt⟩
      obtain ⟨bb, oo, ea, _⟩ := H.out.at (by omega)
      have hc := num_cell (by rw [← ea]; exact H.out) hx
      have HX := hid hx
      subst ea
      clear hx
      by_cases he : s = x
      · have q0 : (s == x) = true := by simpa using he
        have HE : Hid (l.contains s = true) := by
          show _ = _
          rw [List.contains_iff_mem, he]
          exact List.mem_of_getElem? HX.out
        clear he
        go_wp2
        go_ret
        exact ⟨k, rfl, by show _ = _; rw [HE.out]; simp, rfl⟩
      · have q0 : (s == x) = false := by simpa using he
        have HE : Hid (∀ j, j < k + 1 → l[j]? ≠ some s) := fun j hj e => by
          by_cases h : j = k
          · rw [h, HX.out] at e; exact he (Option.some.inj e).symm
          · exact HJ.out j (by omega) e
        clear he
        go_wp2
        go_roundw
        case rel => exact ⟨k + 1, by omega, by go_num, by first | rfl | trivial, HE.out⟩
        case measure => simp [intOf]; omega
    · have hki : ¬ (k : Int) < (l.length : Int) := by omega
      have HE : Hid (l.contains s = false) := by
        show _ = _
        rw [Bool.eq_false_iff, ne_eq, List.contains_iff_mem]
        intro hm
        obtain ⟨j, hj⟩ := List.mem_iff_getElem?.1 hm
        exact HJ.out j (by have := (List.getElem?_eq_some_iff.1 hj).1; omega) hj
      go_wp2
      go_ret
      exact ⟨-1, rfl, by show (_ ↔ _); rw [← List.contains_iff_mem, HE.out]; decide, rfl⟩
theorem f_contains (a : Option Addr) (c : Nat) (l : List Int) (s : Int) (w : World) (h : SRd numE w a l) (hl : l.length ≤ 1000) :
    Calls Try.prog 56 #[.slice a l.length c, .int .i64 s] w fun e w' => e = .returned (.bool (l.contains s)) ∧ w' = w := by
  have H := hid h
  clear h
  go_enter Try.func56, Try.ntmps56
  go_wp2_with fail
  refine (f_indexI a c l s w H.out hl).mono ?_
  rintro e w1 ⟨r, rfl, hr, rfl⟩
  have HR : Hid (decide (0 ≤ r) = l.contains s) := hr
  clear hr
  go_wp2
  go_ret
  exact ⟨by rw [← HR.out]; rfl, rfl⟩
/-- numberIn. -/
theorem f_numIn (a : Option Addr) (c : Nat) (l : List ByteArray) (q : Tok) (w : World) (h : SRd strE w a l) (hl : l.length ≤ 1000) :
    Calls Try.prog 55 #[.slice a l.length c, tkV q] w fun e w' => e = .returned (.int .i64 (numIn l q)) ∧ w.grownBy w' none := by
  obtain ⟨kd, at_, t, sp⟩ := q
  have HG := hid (World.grownBy_alloc w (.cells #[.int .i64 kd, .int .i64 at_, .string t, .int .i64 sp] 52) none)
  obtain ⟨z0, z1, z2, z3⟩ := cell4 (heap_alloc_new w (.cells #[.int .i64 kd, .int .i64 at_, .string t, .int .i64 sp] 52))
  have H := hid h
  have HM := hid (f_mean (kd, at_, t, sp))
  clear h
  unfold numIn
  unfold tkV at *
  cases hm : meanB (kd, at_, t, sp) with
  | true =>
    have Hm := hid hm
    clear hm
    go_enter Try.func55, Try.ntmps55
    go_wp2_with fail
    refine (HM.out _).mono ?_
    rintro e w1 ⟨rfl, g1⟩
    have G1 : Hid (w.grownBy w1 none) := HG.out.trans g1
    have hc2 := g1.cell z2 (by simp)
    rw [Hm.out]
    clear g1 HM
    go_wp2_with fail
    refine (f_index a c l t w1 (H.out.grown G1.out (by simp)) hl).mono ?_
    rintro e w2 ⟨rfl, rfl⟩
    have hb := find_lo t l
    go_wp2
    all_goals (go_ret; exact ⟨ret_int (by omega), G1.out⟩)
  | false =>
    have Hm := hid hm
    clear hm
    go_enter Try.func55, Try.ntmps55
    go_wp2_with fail
    refine (HM.out _).mono ?_
    rintro e w1 ⟨rfl, g1⟩
    have G1 : Hid (w.grownBy w1 none) := HG.out.trans g1
    rw [Hm.out]
    clear g1 HM
    go_wp2
    go_ret
    exact ⟨rfl, G1.out⟩
end Go.Proofs.Ytnimdngiejcljaa
