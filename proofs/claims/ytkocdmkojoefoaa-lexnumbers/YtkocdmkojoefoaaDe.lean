/- Digits of a number, and what Lex tells of one token alone. -/
import Derived.Test.YtkocdmkojoefoaaWt
namespace Go.Proofs.Ytkocdmkojoefoaa
open Go.RowKit
set_option linter.unusedVariables false
set_option maxRecDepth 20000

theorem sInts_app (a b : ByteArray) : sInts (a ++ b) = sInts a ++ sInts b := by
  unfold sInts
  rw [ByteArray.data_append, Array.toList_append, List.map_append]
theorem val_fold (l : List Int) : ∀ v : Int, l.foldl (fun v c => 10 * v + (c - 48)) v = v * 10 ^ l.length + valL l := by
  induction l with
  | nil => intro v; simp [valL]
  | cons c l ih =>
    intro v
    unfold valL
    rw [List.foldl_cons, List.foldl_cons, ih, ih (10 * 0 + (c - 48)), List.length_cons, Int.pow_succ]
    have e : (10 * v + (c - 48)) * 10 ^ l.length = v * (10 ^ l.length * 10) + (10 * 0 + (c - 48)) * 10 ^ l.length := by
      rw [Int.add_mul, Int.mul_comm 10 v, Int.mul_assoc, Int.mul_comm 10 (10 ^ l.length)]
      simp
    rw [e, Int.add_assoc]
theorem val_cons (c : Int) (l : List Int) : valL (c :: l) = (c - 48) * 10 ^ l.length + valL l := by
  have h := val_fold l (c - 48)
  unfold valL
  rw [List.foldl_cons, show (10 * 0 + (c - 48)) = c - 48 by omega, h]
  rfl
/-- The digits of a number so far, from the last one on. -/
def DcAt (n0 u : Nat) (first : Bool) (l : List Int) : Prop :=
  (first = true ∧ u = n0 ∧ l = []) ∨ (first = false ∧ l.all digB = true ∧ l ≠ [] ∧ (u : Int) * 10 ^ l.length + valL l = (n0 : Int) ∧ (u = 0 → l.length = 1 ∨ l.getD 0 0 ≠ 48))
theorem DcAt.next {n0 u : Nat} {first : Bool} {l : List Int} (h : DcAt n0 u first l) (hc : first = true ∨ 0 < u) : DcAt n0 (u / 10) false (((48 + u % 10 : Nat) : Int) :: l) := by
  have hd : digB ((48 + u % 10 : Nat) : Int) = true := by unfold digB; simp; omega
  rcases h with ⟨rfl, rfl, rfl⟩ | ⟨hf, ha, hne, hv, h0⟩
  · refine .inr ⟨rfl, by simp only [List.all_cons, List.all_nil, Bool.and_true]; exact hd, by simp, ?_, fun _ => .inl rfl⟩
    rw [val_cons]
    simp [valL]
    omega
  · have hu : 0 < u := by rcases hc with h | h; rw [hf] at h; cases h; exact h
    refine .inr ⟨rfl, by rw [List.all_cons, hd, ha]; rfl, by simp, ?_, fun h => .inr ?_⟩
    · rw [val_cons, List.length_cons, Int.pow_succ, ← hv]
      have e1 : (((48 + u % 10 : Nat) : Int) - 48) = ((u % 10 : Nat) : Int) := by omega
      have e2 : ((u : Nat) : Int) = ((u / 10 : Nat) : Int) * 10 + ((u % 10 : Nat) : Int) := by omega
      rw [e1]
      conv => rhs; rw [e2]
      rw [Int.add_mul, Int.mul_assoc, Int.mul_comm 10 (10 ^ l.length), Int.add_assoc]
    · show ((48 + u % 10 : Nat) : Int) ≠ 48
      omega
structure DcOk (n : Nat) (D : List Int) : Prop where
  dig : D.all digB = true
  ne : D ≠ []
  nn : D.length = 1 ∨ D.getD 0 0 ≠ 48
  val : valL D = (n : Int)
theorem DcAt.done {n0 u : Nat} {first : Bool} {l : List Int} (h : DcAt n0 u first l) (h1 : first = false) (h2 : ¬ 0 < u) : DcOk n0 l := by
  rcases h with ⟨h, _⟩ | ⟨_, ha, hne, hv, h0⟩
  · rw [h1] at h; cases h
  · obtain rfl : u = 0 := by omega
    refine ⟨ha, hne, h0 rfl, ?_⟩
    rw [← hv]
    simp
theorem dig_byte {l : List Int} (h : l.all digB = true) : ∀ z ∈ l, 0 ≤ z ∧ z ≤ 255 := fun z hz => by
  have := dig_bd (List.all_eq_true.1 h z hz)
  omega
theorem DcAt.all {n0 u : Nat} {first : Bool} {l : List Int} (h : DcAt n0 u first l) : l.all digB = true := by
  rcases h with ⟨_, _, rfl⟩ | ⟨_, h, _⟩
  · rfl
  · exact h
theorem val_len {D : List Int} (hd : D.all digB = true) (hnn : D.length = 1 ∨ D.getD 0 0 ≠ 48) (h : valL D < 1000000) : D.length ≤ 6 := by
  by_cases hl : D.length ≤ 6
  · exact hl
  · have hr : RunAt digB D D.length := ⟨Nat.le_refl _, by rw [List.take_length]; exact hd⟩
    have h1 := val_big hr (by omega) (D.length - 1) (by omega)
    rw [show D.length - 1 + 1 = D.length by omega, List.take_length] at h1
    have h2 : ∀ m, (1000000 : Int) ≤ 10 ^ (6 + m) := by
      intro m
      induction m with
      | zero => decide
      | succ m ih => rw [show 6 + (m + 1) = 6 + m + 1 by omega, Int.pow_succ]; omega
    have h3 := h2 (D.length - 1 - 6)
    rw [show 6 + (D.length - 1 - 6) = D.length - 1 by omega] at h3
    omega
theorem DcAt.len {n0 u : Nat} {first : Bool} {l : List Int} (h : DcAt n0 u first l) (hn : n0 < 1000000) : l.length ≤ 6 := by
  rcases h with ⟨_, _, rfl⟩ | ⟨_, ha, hne, hv, h0⟩
  · simp
  · by_cases hu : u = 0
    · subst hu
      refine val_len ha (h0 rfl) ?_
      rw [show valL l = (n0 : Int) by rw [← hv]; simp]
      omega
    · have hpos : 0 ≤ valL l := by
        have hr : RunAt digB l l.length := ⟨Nat.le_refl _, by rw [List.take_length]; exact ha⟩
        have := val_pos hr l.length (Nat.le_refl _)
        rwa [List.take_length] at this
      have h1 : (10 : Int) ^ l.length ≤ (n0 : Int) := by
        rw [← hv]
        have : (1 : Int) * 10 ^ l.length ≤ (u : Int) * 10 ^ l.length := Int.mul_le_mul_of_nonneg_right (by omega) (Int.pow_nonneg (by decide))
        omega
      by_cases hl : l.length ≤ 6
      · exact hl
      · have h2 : ∀ m, (1000000 : Int) ≤ 10 ^ (6 + m) := by
          intro m
          induction m with
          | zero => decide
          | succ m ih => rw [show 6 + (m + 1) = 6 + m + 1 by omega, Int.pow_succ]; omega
        have h3 := h2 (l.length - 6)
        rw [show 6 + (l.length - 6) = l.length by omega] at h3
        omega
theorem one_str (b : UInt8) (l : List Int) : (⟨#[b]⟩ : ByteArray) ++ strOfNums l = strOfNums ((b.toNat : Int) :: l) := by
  apply ByteArray.ext
  rw [ByteArray.data_append]
  apply Array.toList_inj.1
  rw [Array.toList_append, strOfNums_data, strOfNums_data]
  simp
/-- One token and the end. -/
theorem lex_whole {l : List Int} {kd sp c : Int} {t : ByteArray} {n : Nat} (hb : blankB (l.getD 0 0) = false) (hl : 1 ≤ l.length) (ht : tokR l = ((kd, t, sp, n), c)) (hn : n = l.length) : lexL 0 l = .ok [(kd, 0, t, sp), (0, (l.length : Int), ⟨#[]⟩, 0)] := by
  match l with
  | [] => simp at hl
  | x :: r =>
    have hb' : blankB x = false := hb
    rw [lexL, if_neg (by rw [hb']; simp), ht, if_neg (by show ¬ n = 0; omega)]
    show Lx.cons (kd, ((0 : Nat) : Int), t, sp) (lexL (0 + n) (r.drop (n - 1))) = _
    rw [List.drop_eq_nil_of_le (by simp at hn; omega), lexL, hn, Nat.zero_add]
    rfl
theorem lex_fail {l : List Int} (hb : blankB (l.getD 0 0) = false) (hl : 1 ≤ l.length) (ht : (tokR l).1.2.2.2 = 0) : lexL 0 l = .bad 0 (tokR l).2 := by
  match l with
  | [] => simp at hl
  | x :: r =>
    have hb' : blankB x = false := hb
    rw [lexL, if_neg (by rw [hb']; simp), if_pos ht]
theorem dig_blank {c : Int} (h : digB c = true) : blankB c = false := by
  have := dig_bd h
  unfold blankB
  simp
  omega
theorem lexR_of {s : ByteArray} {l : List Int} {R : Lx} (hs : sInts s = l) (hl : l.length ≤ 4096) (h : lexL 0 l = R) : lexR s = R := by
  unfold lexR
  rw [if_neg (by rw [← sInts_len, hs]; omega), hs, h]
theorem num_tok {l : List Int} (h : digB (l.getD 0 0) = true) : tokR l = (numR l, 172) := by unfold tokR; rw [if_pos h]; rfl
theorem getD_app {a b : List Int} {i : Nat} (h : a.length ≤ i) : (a ++ b).getD i 0 = b.getD (i - a.length) 0 := by
  rw [List.getD_eq_getElem?_getD, List.getD_eq_getElem?_getD, List.getElem?_append_right h]
theorem getD_app0 {a b : List Int} {i : Nat} (h : i < a.length) : (a ++ b).getD i 0 = a.getD i 0 := by
  rw [List.getD_eq_getElem?_getD, List.getD_eq_getElem?_getD, List.getElem?_append_left h]
theorem take_app {a b : List Int} : (a ++ b).take a.length = a := by simp
theorem digAt_app {A r : List Int} (hA : A.all digB = true) (hne : A ≠ []) (hr : digB (r.getD 0 0) = false) : DigAt (A ++ r) A.length := by
  refine ⟨⟨by simp, by rw [take_app]; exact hA⟩, ?_, by rw [getD_app (Nat.le_refl _), Nat.sub_self]; exact hr⟩
  cases A with
  | nil => exact absurd rfl hne
  | cons a A => simp
theorem head_dig {A r : List Int} (hA : A.all digB = true) (hne : A ≠ []) : digB ((A ++ r).getD 0 0) = true := by
  cases A with
  | nil => exact absurd rfl hne
  | cons a A => exact List.all_eq_true.1 hA a (by simp)
theorem lx_frac (A B : List Int) (hA : A.all digB = true) (hnA : A ≠ []) (hn : A.length = 1 ∨ A.getD 0 0 ≠ 48) (hB : B.all digB = true) (hnB : B ≠ []) (hl : A.length + B.length ≤ 15) :
    lexL 0 (A ++ 46 :: B) = .ok [(1, 0, strOfNums (A ++ 46 :: B), 0), (0, ((A ++ 46 :: B).length : Int), ⟨#[]⟩, 0)] := by
  have hd := digAt_app (r := 46 :: B) hA hnA (show digB 46 = false by decide)
  have hlen : (A ++ 46 :: B).length = A.length + B.length + 1 := by rw [List.length_append, List.length_cons]; omega
  have hBp : 1 ≤ B.length := by cases B with | nil => exact absurd rfl hnB | cons b B => simp
  have hAp : 1 ≤ A.length := hd.pos
  have hf : FracAt (A ++ 46 :: B) A.length (A ++ 46 :: B).length := by
    refine ⟨hd, by rw [getD_app (Nat.le_refl _), Nat.sub_self]; rfl, by omega, Nat.le_refl _, ?_⟩
    rw [List.take_length, List.drop_append, List.drop_eq_nil_of_le (by omega), List.nil_append, show A.length + 1 - A.length = 1 by omega]
    exact hB
  have hz : ¬ ((A ++ 46 :: B).getD 0 0 = 48 ∧ 1 < A.length) := by rw [getD_app0 hAp]; omega
  have e0 : (A ++ 46 :: B).getD (A ++ 46 :: B).length 0 = 0 := by rw [List.getD_eq_getElem?_getD, List.getElem?_eq_none (Nat.le_refl _)]; rfl
  have hnum := num_frac hf (by omega) hz (by rw [e0]; decide)
  rw [if_pos (by omega), List.take_length] at hnum
  exact lex_whole (dig_blank (head_dig hA hnA)) (by omega) (by rw [num_tok (head_dig hA hnA), hnum]) rfl
theorem lx_nought (A : List Int) (hA : A.all digB = true) (hnA : A ≠ []) : lexL 0 (48 :: A) = .bad 0 172 := by
  have hA2 : (48 :: A).all digB = true := by rw [List.all_cons, hA]; rfl
  have hd : DigAt (48 :: A) (48 :: A).length := by
    have h := digAt_app (A := 48 :: A) (r := []) hA2 (by simp) (by decide)
    rwa [List.append_nil] at h
  have hAp : 1 ≤ A.length := by cases A with | nil => exact absurd rfl hnA | cons b B => simp
  have hnum := num_nought hd rfl (by simp; omega)
  have ht : tokR (48 :: A) = (numR (48 :: A), 172) := num_tok (show digB 48 = true by decide)
  have h := lex_fail (l := 48 :: A) (show blankB 48 = false by decide) (by simp) (by rw [ht, hnum])
  rw [ht] at h
  exact h
theorem lx_plain (A : List Int) (hA : A.all digB = true) (hnA : A ≠ []) (h48 : A.getD 0 0 ≠ 48) : lexL 0 A = if A.length ≤ 15 then .ok [(1, 0, strOfNums A, 0), (0, (A.length : Int), ⟨#[]⟩, 0)] else .bad 0 172 := by
  have hd : DigAt A A.length := by
    have h := digAt_app (A := A) (r := []) hA hnA (by decide)
    rwa [List.append_nil] at h
  have e0 : A.getD A.length 0 = 0 := by rw [List.getD_eq_getElem?_getD, List.getElem?_eq_none (Nat.le_refl _)]; rfl
  have hnum := num_plain hd (fun h => h48 h.1) (by rw [e0]; decide)
  have hh : digB (A.getD 0 0) = true := by have := head_dig (r := []) hA hnA; rwa [List.append_nil] at this
  rw [List.take_length] at hnum
  by_cases hl : A.length ≤ 15
  · rw [if_pos hl] at hnum ⊢
    exact lex_whole (dig_blank hh) hd.pos (by rw [num_tok hh, hnum]) rfl
  · rw [if_neg hl] at hnum ⊢
    have h := lex_fail (dig_blank hh) hd.pos (by rw [num_tok hh, hnum])
    rw [num_tok hh] at h
    exact h
theorem lx_unit (A : List Int) (c : Int) (hA : A.all digB = true) (hnA : A ≠ []) (hn : A.length = 1 ∨ A.getD 0 0 ≠ 48) (hc : letB c = true) (hv : valL A ≤ 2147483648) :
    lexL 0 (A ++ [c]) = if 1 ≤ valL A * unitR c ∧ valL A * unitR c ≤ 2147483647 then .ok [(2, 0, strOfNums (A ++ [c]), valL A * unitR c), (0, ((A ++ [c]).length : Int), ⟨#[]⟩, 0)] else .bad 0 172 := by
  have hd := digAt_app (r := [c]) hA hnA (let_dig hc).1
  have hlen : (A ++ [c]).length = A.length + 1 := by rw [List.length_append]; rfl
  have hAp : 1 ≤ A.length := hd.pos
  have hz : ¬ ((A ++ [c]).getD 0 0 = 48 ∧ 1 < A.length) := by rw [getD_app0 hAp]; omega
  have ec : (A ++ [c]).getD A.length 0 = c := by rw [getD_app (Nat.le_refl _), Nat.sub_self]; rfl
  have e0 : (A ++ [c]).getD (A.length + 1) 0 = 0 := by rw [List.getD_eq_getElem?_getD, List.getElem?_eq_none (by omega)]; rfl
  have hnum := num_unit hd hz (by rw [ec]; exact hc) (valL A) (valL A * unitR c) (by rw [take_app]; omega) (by rw [ec])
  rw [e0, show (A.length + 1) = (A ++ [c]).length from hlen.symm, List.take_length] at hnum
  have hh := head_dig (r := [c]) hA hnA
  by_cases hin : 1 ≤ valL A * unitR c ∧ valL A * unitR c ≤ 2147483647
  · rw [if_pos ⟨hin.1, hin.2, by decide⟩] at hnum
    rw [if_pos hin]
    exact lex_whole (dig_blank hh) (by omega) (by rw [num_tok hh, hnum]) rfl
  · rw [if_neg (fun h => hin ⟨h.1, h.2.1⟩)] at hnum
    rw [if_neg hin]
    have h := lex_fail (dig_blank hh) (by omega) (by rw [num_tok hh, hnum])
    rw [num_tok hh] at h
    exact h
end Go.Proofs.Ytkocdmkojoefoaa
