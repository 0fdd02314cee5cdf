/- Sets that may be: read back from their bytes; unlike sets have unlike bytes and texts. -/
import Derived.Test.YtailaehpgmpaaaaLwith
namespace Go.Proofs.Ytailaehpgmpaaaa
open Go.RowKit
set_option linter.unusedVariables false

theorem uintR_at (xs ys : List Int) (v : Nat) (hv : v < 18446744073709551616) (zs : List Int) (hz : zs = xs ++ (enc v ++ ys)) (p : Int) (hp : p = xs.length) : uintR zs p = ((v : Int), (xs.length : Int) + (enc v).length, 0) := by
  subst hz hp
  rw [uintR_enc xs ys v hv]
  simp
theorem strOf_sInts (s : ByteArray) : strOfNums (sInts s) = s := by
  apply ByteArray.ext
  apply Array.toList_inj.1
  rw [strOfNums_data, sInts, List.map_map]
  conv => rhs; rw [← List.map_id s.data.toList]
  apply List.map_congr_left
  intro b _
  simp
theorem sInts_inj {s t : ByteArray} (h : sInts s = sInts t) : s = t := by rw [← strOf_sInts s, h, strOf_sInts]
theorem sInts_strOf (l : List Int) (hl : ∀ z ∈ l, 0 ≤ z ∧ z ≤ 255) : sInts (strOfNums l) = l :=
  strOfNums_inj (sInts_byte _) hl (by rw [strOf_sInts])
theorem sInts_app (s t : ByteArray) : sInts (s ++ t) = sInts s ++ sInts t := by
  unfold sInts
  rw [← List.map_append, ByteArray.data_append, Array.toList_append]
theorem textR_at (xs ys : List Int) (s : ByteArray) (hs : s.size < 18446744073709551616) (zs : List Int) (hz : zs = xs ++ (enc s.size ++ (sInts s ++ ys))) (p : Int) (hp : p = xs.length) : textR zs p = (s, (xs.length : Int) + (enc s.size).length + s.size, 0) := by
  have h := uintR_at xs (sInts s ++ ys) s.size hs zs hz p hp
  have hl := sInts_len s
  unfold textR
  rw [h]
  simp only [if_true]
  have hlen : (zs.length : Int) = xs.length + (enc s.size).length + s.size + ys.length := by
    rw [hz]; simp; omega
  rw [if_neg (by omega)]
  have e1 : ((xs.length : Int) + ((enc s.size).length : Int)).toNat = (xs ++ enc s.size).length := by simp; omega
  have e2 : ((s.size : Nat) : Int).toNat = (sInts s).length := by omega
  rw [e1, e2, hz, show xs ++ (enc s.size ++ (sInts s ++ ys)) = (xs ++ enc s.size) ++ (sInts s ++ ys) by simp, List.drop_left, List.take_left, strOf_sInts]

theorem ok_size {p : Lab} (h : okL p) : 0 < p.1.size ∧ p.1.size ≤ 64 ∧ p.2.size ≤ 256 := by
  obtain ⟨h1, h2⟩ := h
  unfold nameR at h1
  unfold validR at h2
  simp only [Bool.and_eq_true, decide_eq_true_eq] at h1 h2
  exact ⟨h1.1.1.1, h1.1.1.2, h2.1.2⟩
theorem ok_name {p : Lab} (h : okL p) : ∀ c ∈ sInts p.1, nameB c = true := by
  have h1 := h.1
  unfold nameR at h1
  simp only [Bool.and_eq_true] at h1
  exact List.all_eq_true.1 h1.2
theorem nameB_ne {c : Int} (h : nameB c = true) : c ≠ 61 ∧ c ≠ 125 ∧ c ≠ 44 := by
  unfold nameB at h
  simp only [Bool.or_eq_true, Bool.and_eq_true, decide_eq_true_eq] at h
  omega
theorem decL_at (ys : List Int) : ∀ (ls : List Lab) (xs : List Int) (acc : List Lab) (zs : List Int) (p : Int), (∀ q ∈ ls, okL q) → zs = xs ++ (ls.flatMap encL ++ ys) → p = xs.length → decL zs ls.length p acc = (acc ++ ls, (xs.length : Int) + (ls.flatMap encL).length, 0) := by
  intro ls
  induction ls with
  | nil => intro xs acc zs p _ _ hp; simp [decL, hp]
  | cons q r ih =>
    intro xs acc zs p hok hz hp
    obtain ⟨b0, b1, b2⟩ := ok_size (hok q (by simp))
    have l1 := sInts_len q.1
    have l2 := sInts_len q.2
    have t1 := textR_at xs (enc q.2.size ++ (sInts q.2 ++ (r.flatMap encL ++ ys))) q.1 (by omega) zs (by rw [hz, List.flatMap_cons, encL]; simp) p hp
    have t2 := textR_at (xs ++ (enc q.1.size ++ sInts q.1)) (r.flatMap encL ++ ys) q.2 (by omega) zs (by rw [hz, List.flatMap_cons, encL]; simp) ((xs.length : Int) + (enc q.1.size).length + q.1.size) (by simp; omega)
    have t3 := ih (xs ++ encL q) (acc ++ [q]) zs ((xs.length : Int) + (encL q).length) (fun x hx => hok x (by simp [hx])) (by rw [hz, List.flatMap_cons]; simp) (by simp)
    have hl : (encL q).length = (enc q.1.size).length + q.1.size + (enc q.2.size).length + q.2.size := by unfold encL; simp only [List.length_append, l1, l2]
    rw [List.length_cons, decL, t1]
    simp only [ne_eq, not_true_eq_false, if_false]
    rw [t2]
    simp only [not_true_eq_false, if_false]
    have e : (((xs ++ (enc q.1.size ++ sInts q.1)).length : Int) + ((enc q.2.size).length : Int) + (q.2.size : Int)) = (xs.length : Int) + ((encL q).length : Int) := by
      rw [hl]; simp only [List.length_append, l1]; push_cast; omega
    rw [e, t3]
    simp only [List.append_assoc, List.singleton_append, Prod.mk.injEq, true_and, and_true, List.length_append, List.flatMap_cons]
    push_cast
    omega
theorem decode_at (xs ys : List Int) (ls : List Lab) (hc : checkR ls = 0) : decodeR (xs ++ (encR ls ++ ys)) xs.length = (ls, (xs.length : Int) + (encR ls).length, 0) := by
  obtain ⟨h1, h2, h3⟩ := (check_iff ls).1 hc
  have t1 := uintR_at xs (ls.flatMap encL ++ ys) ls.length (by omega) (xs ++ (encR ls ++ ys)) (by unfold encR; simp) _ rfl
  unfold decodeR
  rw [t1]
  simp only [ne_eq, not_true_eq_false, if_false]
  rw [if_neg (by omega), Int.toNat_natCast]
  have t2 := decL_at ys ls (xs ++ enc ls.length) [] (xs ++ (encR ls ++ ys)) ((xs.length : Int) + (enc ls.length).length) h2 (by unfold encR; simp) (by simp)
  rw [t2]
  unfold shut
  simp only [ne_eq, not_true_eq_false, if_false, List.nil_append]
  rw [if_neg (by rw [hc]; simp)]
  unfold encR
  simp only [List.length_append, Prod.mk.injEq, true_and, and_true]
  push_cast
  omega
theorem enc_inj {a b : List Lab} (ha : checkR a = 0) (hb : checkR b = 0) (h : encR a = encR b) : a = b := by
  have h1 := decode_at [] [] a ha
  have h2 := decode_at [] [] b hb
  rw [h, h2] at h1
  simp only [Prod.mk.injEq] at h1
  exact h1.1.symm
theorem enc_size {ls : List Lab} (hc : checkR ls = 0) : (encR ls).length ≤ 6000 := by
  obtain ⟨h1, h2, _⟩ := (check_iff ls).1 hc
  have h4 : ∀ l : List Lab, (∀ p ∈ l, okL p) → (l.flatMap encL).length ≤ l.length * 340 := by
    intro l
    induction l with
    | nil => intro _; simp
    | cons p r ih =>
      intro h
      have h5 := ih (fun q hq => h q (by simp [hq]))
      obtain ⟨b0, b1, b2⟩ := ok_size (h p (by simp))
      have e1 := enc_len p.1.size (by omega)
      have e2 := enc_len p.2.size (by omega)
      have : (encL p).length = (enc p.1.size).length + p.1.size + (enc p.2.size).length + p.2.size := by unfold encL; simp only [List.length_append, sInts_len]
      rw [List.flatMap_cons, List.length_append, List.length_cons]
      omega
  have h5 := h4 ls h2
  have h6 := enc_len ls.length (by omega)
  unfold encR
  rw [List.length_append]
  omega

/-- A text's rows, label by label. -/
def body : Bool → List Lab → List Int
  | _, [] => []
  | f, p :: r => (if f then [] else [44]) ++ (sInts p.1 ++ (61 :: (34 :: ((sInts p.2).flatMap q1 ++ (34 :: body false r)))))
theorem body_snoc : ∀ (xs : List Lab) (p : Lab) (f : Bool), body f (xs ++ [p]) = body f xs ++ ((if f && xs.isEmpty then [] else [44]) ++ (sInts p.1 ++ (61 :: (34 :: ((sInts p.2).flatMap q1 ++ [34]))))) := by
  intro xs
  induction xs with
  | nil => intro p f; cases f <;> simp [body]
  | cons q r ih =>
    intro p f
    rw [List.cons_append, body, ih, body]
    simp
theorem q1_byte {c : Int} (h : 0 ≤ c ∧ c ≤ 255) : ∀ z ∈ q1 c, 0 ≤ z ∧ z ≤ 255 := by
  intro z hz
  unfold q1 at hz
  split at hz
  · simp at hz; rcases hz with rfl | rfl <;> omega
  · split at hz
    · simp at hz; rcases hz with rfl | rfl <;> omega
    · simp at hz; subst hz; exact h
theorem quote_ints (s : ByteArray) : sInts (quoteR s) = quoteL (sInts s) := by
  unfold quoteR
  refine sInts_strOf _ ?_
  intro z hz
  unfold quoteL at hz
  simp only [List.mem_append, List.mem_flatMap, List.mem_cons, List.not_mem_nil, or_false] at hz
  rcases hz with (rfl | ⟨c, hc, hz⟩) | rfl
  · omega
  · exact q1_byte (sInts_byte s c hc) z hz
  · omega
theorem text_at (ls : List Lab) : ∀ k, k ≤ ls.length → sInts (textAt ls k) = 123 :: body true (ls.take k) := by
  intro k
  induction k with
  | zero => intro _; rfl
  | succ k ih =>
    intro hk
    obtain ⟨p, hp⟩ : ∃ p, ls[k]? = some p := ⟨_, List.getElem?_eq_getElem (by omega)⟩
    have hd : ls.getD k (⟨#[]⟩, ⟨#[]⟩) = p := by rw [List.getD_eq_getElem?_getD, hp]; rfl
    have ht : ls.take (k + 1) = ls.take k ++ [p] := by rw [List.take_add_one, hp]; rfl
    rw [textAt, hd, sInts_app, sInts_app, sInts_app, quote_ints, ht, body_snoc]
    have he : (ls.take k).isEmpty = decide (k = 0) := by
      cases k with
      | zero => rfl
      | succ j => cases ls with
        | nil => simp at hk
        | cons a l => rfl
    have h61 : sInts ⟨#[61]⟩ = [61] := rfl
    have h44 : sInts ⟨#[44]⟩ = [44] := rfl
    rw [h61, he]
    by_cases h0 : 0 < k
    · rw [if_pos h0, sInts_app, ih (by omega), h44, decide_eq_false (by omega)]
      unfold quoteL
      simp
    · rw [if_neg h0, ih (by omega), decide_eq_true (by omega)]
      unfold quoteL
      simp
theorem text_ints (ls : List Lab) : sInts (labText ls) = 123 :: (body true ls ++ [125]) := by
  unfold labText
  rw [sInts_app, text_at ls ls.length (Nat.le_refl _), List.take_length]
  rfl
theorem split_at (c : Int) : ∀ (xs ys s t : List Int), (∀ x ∈ xs, x ≠ c) → (∀ y ∈ ys, y ≠ c) → xs ++ c :: s = ys ++ c :: t → xs = ys ∧ s = t := by
  intro xs
  induction xs with
  | nil =>
    intro ys s t _ hy h
    cases ys with
    | nil => simp at h; exact ⟨rfl, h⟩
    | cons y ys => simp at h; exact absurd h.1.symm (hy y (by simp))
  | cons x xs ih =>
    intro ys s t hx hy h
    cases ys with
    | nil => simp at h; exact absurd h.1 (hx x (by simp))
    | cons y ys =>
      simp only [List.cons_append, List.cons.injEq] at h
      obtain ⟨h1, h2⟩ := ih ys s t (fun z hz => hx z (by simp [hz])) (fun z hz => hy z (by simp [hz])) h.2
      exact ⟨by rw [h.1, h1], h2⟩
theorem q1_form (c : Int) : (∃ e, q1 c = [92, e] ∧ (e = c ∧ (c = 34 ∨ c = 92) ∨ e = 110 ∧ c = 10)) ∨ (q1 c = [c] ∧ c ≠ 34 ∧ c ≠ 92 ∧ c ≠ 10) := by
  unfold q1
  by_cases a1 : c = 34 ∨ c = 92
  · rw [if_pos a1]; exact .inl ⟨c, rfl, .inl ⟨rfl, a1⟩⟩
  · rw [if_neg a1]
    by_cases a2 : c = 10
    · rw [if_pos a2]; exact .inl ⟨110, rfl, .inr ⟨rfl, a2⟩⟩
    · rw [if_neg a2]; exact .inr ⟨rfl, by omega⟩
theorem q1_split : ∀ (v u s t : List Int), v.flatMap q1 ++ 34 :: s = u.flatMap q1 ++ 34 :: t → v = u ∧ s = t := by
  have hne : ∀ (c : Int) (x y : List Int), q1 c ++ x ≠ 34 :: y := by
    intro c x y h
    unfold q1 at h
    split at h
    · simp at h
    · split at h
      · simp at h
      · simp at h; omega
  intro v
  induction v with
  | nil =>
    intro u s t h
    cases u with
    | nil => simp at h; exact ⟨rfl, h⟩
    | cons d u => rw [List.flatMap_cons, List.append_assoc, List.flatMap_nil, List.nil_append] at h; exact absurd h.symm (hne _ _ _)
  | cons c v ih =>
    intro u s t h
    cases u with
    | nil => rw [List.flatMap_cons, List.append_assoc, List.flatMap_nil, List.nil_append] at h; exact absurd h (hne _ _ _)
    | cons d u =>
      rw [List.flatMap_cons, List.flatMap_cons, List.append_assoc, List.append_assoc] at h
      have key : c = d ∧ v.flatMap q1 ++ 34 :: s = u.flatMap q1 ++ 34 :: t := by
        rcases q1_form c with ⟨e, q, k⟩ | ⟨q, k⟩ <;> rcases q1_form d with ⟨e', q', k'⟩ | ⟨q', k'⟩ <;> rw [q, q'] at h <;> simp only [List.cons_append, List.nil_append, List.cons.injEq] at h
        · exact ⟨by omega, h.2.2⟩
        · omega
        · omega
        · exact ⟨h.1, h.2⟩
      obtain ⟨h1, h2⟩ := ih u s t key.2
      exact ⟨by rw [key.1, h1], h2⟩
theorem body_inj : ∀ (a b : List Lab) (f : Bool) (s t : List Int), (∀ p ∈ a, okL p) → (∀ p ∈ b, okL p) → body f a ++ 125 :: s = body f b ++ 125 :: t → a = b := by
  have hne : ∀ (f : Bool) (p : Lab) (r : List Lab) (x y : List Int), okL p → body f (p :: r) ++ x ≠ 125 :: y := by
    intro f p r x y hp h
    have h0 := (ok_size hp).1
    have hn := ok_name hp
    rw [body] at h
    cases f with
    | false => simp at h
    | true =>
      cases hs : sInts p.1 with
      | nil => have := sInts_len p.1; rw [hs] at this; simp at this; omega
      | cons c l =>
        rw [hs] at h hn
        simp at h
        exact (nameB_ne (hn c (by simp))).2.1 h.1
  intro a
  induction a with
  | nil =>
    intro b f s t _ hb h
    cases b with
    | nil => rfl
    | cons q r => exact absurd h.symm (hne f q r _ _ (hb q (by simp)))
  | cons p a ih =>
    intro b f s t ha hb h
    cases b with
    | nil => exact absurd h (hne f p a _ _ (ha p (by simp)))
    | cons q b =>
      have hp := ha p (by simp)
      have hq := hb q (by simp)
      rw [body, body] at h
      simp only [List.append_assoc, List.cons_append] at h
      have h1 := List.append_cancel_left h
      obtain ⟨e1, h2⟩ := split_at 61 _ _ _ _ (fun x hx => (nameB_ne (ok_name hp x hx)).1) (fun x hx => (nameB_ne (ok_name hq x hx)).1) h1
      simp only [List.cons.injEq, true_and] at h2
      obtain ⟨e2, h3⟩ := q1_split _ _ _ _ h2
      have e3 := ih b false s t (fun x hx => ha x (by simp [hx])) (fun x hx => hb x (by simp [hx])) h3
      rw [e3, Prod.ext (sInts_inj e1) (sInts_inj e2)]
theorem text_inj {a b : List Lab} (ha : checkR a = 0) (hb : checkR b = 0) (h : labText a = labText b) : a = b := by
  have e := congrArg sInts h
  rw [text_ints, text_ints] at e
  simp only [List.cons.injEq, true_and] at e
  exact body_inj a b true [] [] ((check_iff a).1 ha).2.1 ((check_iff b).1 hb).2.1 e
theorem text_size {ls : List Lab} (hc : checkR ls = 0) : (labText ls).size ≤ 20000 := by
  obtain ⟨h1, h2, _⟩ := (check_iff ls).1 hc
  have h4 : ∀ (l : List Lab) (f : Bool), (∀ p ∈ l, okL p) → (body f l).length ≤ l.length * 600 := by
    intro l
    induction l with
    | nil => intro f _; simp [body]
    | cons p r ih =>
      intro f h
      have h5 := ih false (fun q hq => h q (by simp [hq]))
      obtain ⟨b0, b1, b2⟩ := ok_size (h p (by simp))
      have e1 := sInts_len p.1
      have e2 := flat_q1_len (sInts p.2)
      rw [sInts_len] at e2
      rw [body, List.length_cons]
      cases f <;> simp only [if_true, if_false, Bool.false_eq_true, List.length_append, List.length_cons, List.length_nil] <;> omega
  have h5 := h4 ls true h2
  rw [← sInts_len, text_ints, List.length_cons, List.length_append, List.length_cons, List.length_nil]
  omega
theorem value_size {ls : List Lab} (hc : checkR ls = 0) : ∀ p ∈ ls, p.2.size ≤ 70368744177000 := fun p hp => by
  have := (ok_size (((check_iff ls).1 hc).2.1 p hp)).2.2
  omega
end Go.Proofs.Ytailaehpgmpaaaa
