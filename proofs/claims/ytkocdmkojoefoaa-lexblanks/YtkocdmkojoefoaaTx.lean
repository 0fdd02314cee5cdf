/- text: bytes that are gathered. -/
import Derived.Test.YtkocdmkojoefoaaWd
namespace Go.Proofs.Ytkocdmkojoefoaa
open Go.RowKit
set_option linter.unusedVariables false
set_option maxRecDepth 20000

theorem hid {p : Prop} (h : p) : Hid p := h
def byteE : Elem Int where
  cells z := [.int .u8 z]
  size := 1
  pos := by decide
  len _ := rfl
  one z v h := by
    simp only [List.mem_cons, List.mem_nil_iff, or_false] at h
    subst h; rfl
theorem byteET : ElemOf byteE Try.prog 30 5 1 := by
  obtain ⟨i0, hi, hz0, hz1, hz2⟩ := info_parts info5
  exact ⟨Try.underlying30, i0, _, hi, hz0, hz1, hz2, rfl⟩
theorem byteE_flat (zs : List Int) : byteE.flat zs = zs.map (Value.int .u8) := by
  induction zs with
  | nil => rfl
  | cons z zs ih => show _ :: byteE.flat zs = _; rw [ih]; rfl
theorem srd_rd {w : World} {a : Option Addr} {l : List Int} (h : SRd byteE w a l) (hb : ∀ z ∈ l, 0 ≤ z ∧ z ≤ 255) : Rd w a l := by
  refine ⟨?_, hb⟩
  rcases h with h | ⟨b, off, e, hc⟩
  · exact .inl h
  · refine .inr ⟨b, off, e, fun i hi => hc i _ ?_⟩
    rw [byteE_flat, List.getElem?_map, List.getElem?_eq_getElem hi, List.getD_eq_getElem?_getD, List.getElem?_eq_getElem hi]
    rfl
theorem sown_slice {α : Type} {E : Elem α} {e : TypeId} {w : World} {base n : Nat} {v : Value} {l : List α} (h : SOwn E e w base v n l) : ∃ a c, v = .slice a n c := by
  rcases h.2 with ⟨h', h0⟩ | ⟨g, cap, cur, h', _⟩
  · exact ⟨none, 0, by rw [h', h0]⟩
  · exact ⟨_, _, h'⟩
theorem srd_lit {α : Type} (E : Elem α) (e : TypeId) (w : World) (l : List α) : SRd E (w.alloc (.cells (E.flat l).toArray e)) (some ⟨w.heap.size, 0, none⟩) l := by
  refine .inr ⟨w.heap.size, 0, rfl, fun j v hj => ?_⟩
  rw [Nat.zero_add, cell_of_row _ w.heap.size j _ e _ (heap_alloc_new w _)]
  simpa using hj
/-- What was gathered, and what is ahead. -/
def glue (out : List Int) (m : Nat) (x : List Int × Nat) : List Int × Nat := if x.2 = 0 then ([], 0) else (out ++ x.1, m + x.2)
theorem glue_nil (x : List Int × Nat) (h : x.2 = 0 → x.1 = []) : glue [] 0 x = x := by
  unfold glue
  obtain ⟨a, b⟩ := x
  by_cases hb : b = 0
  · subst hb; have := h rfl; simp only at this; subst this; rfl
  · rw [if_neg hb]; simp
theorem text_none (l : List Int) : (textR l).2 = 0 → (textR l).1 = [] := by
  intro h
  rw [textR.eq_def] at h ⊢
  repeat' split
  all_goals (try rfl)
  all_goals (simp_all)
/-- At byte k (from the quote on), out gathered. -/
def TxAt (l : List Int) (k : Nat) (out : List Int) : Prop := textR (l.drop 1) = glue out (k - 1) (textR (l.drop k)) ∧ 1 ≤ k ∧ out.length ≤ k ∧ ∀ z ∈ out, 0 ≤ z ∧ z ≤ 255
theorem TxAt.start (l : List Int) : TxAt l 1 [] := ⟨(glue_nil _ (text_none _)).symm, Nat.le_refl _, by simp, by simp⟩
theorem drop_cons (l : List Int) (k : Nat) (hk : k < l.length) : l.drop k = l.getD k 0 :: l.drop (k + 1) := by
  rw [List.drop_eq_getElem_cons hk, List.getD_eq_getElem?_getD, List.getElem?_eq_getElem hk, Option.getD_some]
theorem getD_end {l : List Int} {k : Nat} (h : l.getD k 0 ≠ 0) : k < l.length := by
  by_cases hk : k < l.length
  · exact hk
  · exact absurd (by rw [List.getD_eq_getElem?_getD, List.getElem?_eq_none (by omega)]; rfl) h
theorem glue_glue (out o2 : List Int) (m n : Nat) (x : List Int × Nat) : glue out m (if x.2 = 0 then ([], 0) else (o2 ++ x.1, x.2 + n)) = glue (out ++ o2) (m + n) x := by
  unfold glue
  by_cases h : x.2 = 0
  · simp [h]
  · rw [if_neg h, if_neg h]
    simp only [List.append_assoc]
    rw [if_neg (by omega)]
    congr 1
    omega
theorem TxAt.quote {l : List Int} {k : Nat} {out : List Int} (h : TxAt l k out) (hc : l.getD k 0 = 34) : textR (l.drop 1) = (out, k) ∧ k < l.length := by
  obtain ⟨h, h1, _⟩ := h
  have hk := getD_end (l := l) (k := k) (by rw [hc]; decide)
  rw [drop_cons l k hk, textR.eq_def (l.getD k 0 :: _)] at h
  simp only [] at h
  rw [if_pos hc] at h
  rw [h]
  unfold glue
  rw [if_neg (by simp)]
  simp only [List.append_nil]
  exact ⟨by congr 1; omega, hk⟩
theorem TxAt.bad {l : List Int} {k : Nat} {out : List Int} (h : TxAt l k out) (hc : l.getD k 0 ≠ 34) (hd : l.getD k 0 < 32) : (textR (l.drop 1)).2 = 0 := by
  obtain ⟨h, _⟩ := h
  rw [h]
  by_cases hk : k < l.length
  · rw [drop_cons l k hk, textR.eq_def]
    simp only []
    rw [if_neg hc, if_pos hd]
    rfl
  · rw [List.drop_eq_nil_of_le (by omega)]
    rfl
theorem TxAt.plain {l : List Int} {k : Nat} {out : List Int} (h : TxAt l k out) (hc : l.getD k 0 ≠ 34) (hd : ¬ l.getD k 0 < 32) (he : l.getD k 0 ≠ 92) (hb : l.getD k 0 ≤ 255) : k < l.length ∧ TxAt l (k + 1) (out ++ [l.getD k 0]) := by
  obtain ⟨h, h1, h2, h3⟩ := h
  have hk := getD_end (l := l) (k := k) (by omega)
  refine ⟨hk, ?_, by omega, by simp; omega, fun z hz => ?_⟩
  · rw [h, drop_cons l k hk, textR.eq_def]
    simp only []
    rw [if_neg hc, if_neg hd, if_neg he, show (l.getD k 0 :: (textR (l.drop (k + 1))).1) = [l.getD k 0] ++ (textR (l.drop (k + 1))).1 from rfl, glue_glue]
    congr 1
    omega
  · rcases List.mem_append.1 hz with h | h
    · exact h3 z h
    · simp only [List.mem_singleton] at h; subst h; omega
theorem TxAt.esc {l : List Int} {k : Nat} {out : List Int} (h : TxAt l k out) (hc : l.getD k 0 = 92) {d : Int} (hd : (l.getD (k + 1) 0 = 34 ∨ l.getD (k + 1) 0 = 92) ∧ d = l.getD (k + 1) 0 ∨ l.getD (k + 1) 0 = 110 ∧ d = 10) : k + 1 < l.length ∧ TxAt l (k + 2) (out ++ [d]) := by
  obtain ⟨h, h1, h2, h3⟩ := h
  have hk := getD_end (l := l) (k := k) (by rw [hc]; decide)
  have hk2 := getD_end (l := l) (k := k + 1) (by omega)
  refine ⟨hk2, ?_, by omega, by simp; omega, fun z hz => ?_⟩
  · rw [h, drop_cons l k hk, textR.eq_def]
    simp only []
    rw [if_neg (by omega), if_neg (by omega), if_pos hc, drop_cons l (k + 1) hk2]
    simp only []
    rcases hd with ⟨h4, rfl⟩ | ⟨h4, rfl⟩
    · rw [if_pos h4, show (l.getD (k + 1) 0 :: (textR (l.drop (k + 1 + 1))).1) = [l.getD (k + 1) 0] ++ (textR (l.drop (k + 1 + 1))).1 from rfl, glue_glue]
      congr 1
      omega
    · rw [if_neg (by omega), if_pos h4, show (10 :: (textR (l.drop (k + 1 + 1))).1) = [10] ++ (textR (l.drop (k + 1 + 1))).1 from rfl, glue_glue]
      congr 1
      omega
  · rcases List.mem_append.1 hz with h | h
    · exact h3 z h
    · simp only [List.mem_singleton] at h; subst h; omega
theorem TxAt.esc_bad {l : List Int} {k : Nat} {out : List Int} (h : TxAt l k out) (hc : l.getD k 0 = 92) (hd : l.getD (k + 1) 0 ≠ 34 ∧ l.getD (k + 1) 0 ≠ 92 ∧ l.getD (k + 1) 0 ≠ 110) : (textR (l.drop 1)).2 = 0 := by
  obtain ⟨h, _⟩ := h
  have hk := getD_end (l := l) (k := k) (by rw [hc]; decide)
  rw [h, drop_cons l k hk, textR.eq_def]
  simp only []
  rw [if_neg (by omega), if_neg (by omega), if_pos hc]
  by_cases hk2 : k + 1 < l.length
  · rw [drop_cons l (k + 1) hk2]
    simp only []
    rw [if_neg (by omega), if_neg (by omega)]
    rfl
  · rw [List.drop_eq_nil_of_le (by omega)]
    rfl
end Go.Proofs.Ytkocdmkojoefoaa
