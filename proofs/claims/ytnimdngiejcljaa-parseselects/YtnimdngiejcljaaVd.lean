/- Brackets around a text change nothing, or too many are open. -/
import Derived.Test.YtnimdngiejcljaaVb
import Derived.Test.YtnimdngiejcljaaVc
import Derived.Test.YtnimdngiejcljaaZb
namespace Go.Proofs.Ytnimdngiejcljaa
open Go.RowKit
set_option linter.unusedVariables false
set_option linter.unusedSimpArgs false
set_option maxRecDepth 20000

def opS : ByteArray := ⟨#[40]⟩
/-- An opening, a closing bracket. -/
def OpT (t : Tok) : Prop := t.1 = 5 ∧ t.2.2.1 = opS
def ClT (t : Tok) : Prop := t.1 = 5 ∧ t.2.2.1 = clS
theorem P_agree {f f' lv nest : Nat} {ts : List Tok} (h : P f lv nest ts ≠ .out) (h' : P f' lv nest ts ≠ .out) : P f lv nest ts = P f' lv nest ts := by
  rcases Nat.le_total f f' with g | g
  · exact (up_P g h).symm
  · exact up_P g h'
theorem is_tok {s : ByteArray} {t : Tok} {ts : List Tok} (h1 : t.1 = 5) (h2 : t.2.2.1 = s) : isB s (t :: ts) = true := by
  unfold isB
  show (meanB t && decide (t.2.2.1 = s)) = true
  have : meanB t = true := by unfold meanB; rw [h1]; rfl
  rw [this, h2]
  simp
theorem not_tok {s x : ByteArray} {t : Tok} {ts : List Tok} (h2 : t.2.2.1 = x) (h : x ≠ s) : isB s (t :: ts) = false := by
  unfold isB
  show (meanB t && decide (t.2.2.1 = s)) = false
  rw [h2, decide_eq_false h, Bool.and_false]
/-- Behind a stop there is no operation. -/
theorem ops_stop {T : List Tok} {may : List Int} (h : Stop (hd T)) : takeN opsR may T = 0 := by
  have h0 : numIn opsR (hd T) = 0 := by
    unfold numIn
    rcases h with h | ⟨h1, h2⟩
    · rw [if_neg (by rw [mean_zero h]; decide)]
    · rw [h2, find_no _ no_ops]
      split <;> rfl
  unfold takeN
  rw [h0]
  split <;> rfl
theorem P_stop {f lv nest : Nat} {T : List Tok} (h : Stop (hd T)) : P (f + 1) (lv + 7) nest T = .ok [] T := by
  rw [P_succ, if_neg (by omega), if_neg (by omega), if_neg (by omega), if_pos (ops_stop h)]
theorem lv_ok {f lv nest : Nat} {ts T : List Tok} {a : List Nd} (hl : lv < 5) (hT : Stop (hd T)) (h : P f (lv + 1) nest ts = .ok a T) : P (f + 1) lv nest ts = .ok a T := by
  rw [P_succ, if_pos hl, h, bind_ok]
  cases f with
  | zero => cases h
  | succ f => rw [P_stop hT, bind_ok, List.append_nil]
theorem lv_bad {f lv nest : Nat} {ts : List Tok} {p c : Int} (hl : lv < 5) (h : P f (lv + 1) nest ts = .bad p c) : P (f + 1) lv nest ts = .bad p c := by
  rw [P_succ, if_pos hl, h, bind_bad]
theorem top_ok {f nest : Nat} {o : Tok} {ts T : List Tok} {a : List Nd} (ho : OpT o) (hT : Stop (hd T)) (h : P f 6 nest (o :: ts) = .ok a T) : P (f + 6) 0 nest (o :: ts) = .ok a T := by
  have h5 : P (f + 1) 5 nest (o :: ts) = .ok a T := by
    rw [P_succ, if_neg (by decide), if_pos rfl, if_neg (by rw [not_tok ho.2 (by decide)]; decide), h]
  exact lv_ok (by decide) hT (lv_ok (by decide) hT (lv_ok (by decide) hT (lv_ok (by decide) hT (lv_ok (by decide) hT h5))))
theorem top_bad {f nest : Nat} {o : Tok} {ts : List Tok} {p c : Int} (ho : OpT o) (h : P f 6 nest (o :: ts) = .bad p c) : P (f + 6) 0 nest (o :: ts) = .bad p c := by
  have h5 : P (f + 1) 5 nest (o :: ts) = .bad p c := by
    rw [P_succ, if_neg (by decide), if_pos rfl, if_neg (by rw [not_tok ho.2 (by decide)]; decide), h]
  exact lv_bad (by decide) (lv_bad (by decide) (lv_bad (by decide) (lv_bad (by decide) (lv_bad (by decide) h5))))
theorem brack_open {nest : Nat} {X : Nat → List Tok → Rs (List Nd)} {o : Tok} {ts : List Tok} (ho : OpT o) : brackR nest X (o :: ts) = (if nest = 64 then (.bad o.2.1 182 : Rs (List Nd)) else X (nest + 1) ts).bind fun a r => (need ⟨#[41]⟩ r).bind fun _ r => .ok a r := by
  unfold brackR nestR must
  rw [if_pos (is_tok (s := ⟨#[40]⟩) ho.1 ho.2), bind_ok]
  rfl
theorem P6_open {f nest : Nat} {o : Tok} {ts : List Tok} (ho : OpT o) : P (f + 1) 6 nest (o :: ts) = brackR nest (P f 0) (o :: ts) := by
  rw [P_succ, if_neg (by decide), if_neg (by decide), if_pos rfl]
  unfold oneR
  rw [if_neg (by show ¬ o.1 = 1; rw [ho.1]; decide), if_pos (is_tok (s := ⟨#[40]⟩) ho.1 ho.2)]
theorem need_close {c : Tok} {T : List Tok} (hc : ClT c) : need ⟨#[41]⟩ (c :: T) = .ok () T := by
  unfold need
  rw [if_pos (is_tok (s := ⟨#[41]⟩) hc.1 hc.2)]
  rfl
/-- What is in a bracket is read there. -/
theorem brack_ok2 {f nest : Nat} {o c : Tok} {ts T : List Tok} {a : List Nd} (ho : OpT o) (hc : ClT c) (hn : nest ≠ 64) (h : P f 0 (nest + 1) ts = .ok a (c :: T)) : brackR nest (P f 0) (o :: ts) = .ok a T := by
  rw [brack_open ho, if_neg hn, h, bind_ok, need_close hc, bind_ok]
theorem brack_bad2 {f nest : Nat} {o : Tok} {ts : List Tok} {p : Int} (ho : OpT o) (h : nest ≠ 64 → P f 0 (nest + 1) ts = .bad p 182) : ∃ p, brackR nest (P f 0) (o :: ts) = .bad p 182 := by
  rw [brack_open ho]
  by_cases hn : nest = 64
  · rw [if_pos hn, bind_bad]; exact ⟨_, rfl⟩
  · rw [if_neg hn, h hn, bind_bad]; exact ⟨_, rfl⟩
/-- Those tokens elsewhere, in so many brackets, then T. -/
inductive Bk (us : List Tok) : Nat → List Tok → List Tok → Prop
  | zero (T vs : List Tok) : El us vs → Stop (hd T) → Bk us 0 T (vs ++ T)
  | succ (i : Nat) (T : List Tok) (o c : Tok) (ts : List Tok) : OpT o → ClT c → Stop (hd T) → Bk us i (c :: T) ts → Bk us (i + 1) T (o :: ts)
theorem Bk.stop {us T ts : List Tok} {i : Nat} (h : Bk us i T ts) : Stop (hd T) := by
  cases h with
  | zero vs _ h => assumption
  | succ => assumption
theorem read_bk {F : Nat} {us r : List Tok} {z : Tok} {a : List Nd} (h : P F 0 0 (us ++ [z]) = .ok a r) (h0 : (hd r).1 = 0) (hz : z.1 = 0) {i : Nat} {T ts : List Tok} (hb : Bk us i T ts) :
    ∀ nest, (∃ f, P f 0 nest ts = .ok a T) ∨ (0 < nest + i ∧ ∃ f p, P f 0 nest ts = .bad p 182) := by
  induction hb with
  | zero T vs he hT =>
    intro nest
    have hs := simD_P (T := T) (q := 0 < nest) F 0 0 nest (us ++ [z]) (vs ++ T) (by omega) id (he.al hz hT)
    rw [h] at hs
    rcases hs with ⟨r', e, hr⟩ | ⟨hq, p, e⟩
    · exact .inl ⟨F, by rw [e, hr.done h0]⟩
    · exact .inr ⟨by omega, F, p, e⟩
  | succ i T o c ts ho hc hT hb ih =>
    intro nest
    by_cases hn : nest = 64
    · obtain ⟨p, e⟩ := brack_bad2 (f := 0) (nest := nest) (ts := ts) (p := 0) ho (fun g => absurd hn g)
      exact .inr ⟨by omega, 7, p, top_bad ho (by rw [P6_open ho, e])⟩
    · rcases ih (nest + 1) with ⟨f, e⟩ | ⟨_, f, p, e⟩
      · exact .inl ⟨f + 1 + 6, top_ok ho hT (by rw [P6_open ho]; exact brack_ok2 ho hc hn e)⟩
      · obtain ⟨p, e2⟩ := brack_bad2 (f := f) (nest := nest) (ts := ts) (p := p) ho fun _ => e
        exact .inr ⟨by omega, f + 1 + 6, p, top_bad ho (by rw [P6_open ho, e2])⟩
theorem deep_bk {us : List Tok} {i : Nat} {T ts : List Tok} (hb : Bk us i T ts) : ∀ nest, nest ≤ 64 → 64 < nest + i → ∃ f p, P f 0 nest ts = .bad p 182 := by
  induction hb with
  | zero T vs he hT => intro nest h1 h2; omega
  | succ i T o c ts ho hc hT hb ih =>
    intro nest h1 h2
    by_cases hn : nest = 64
    · obtain ⟨p, e⟩ := brack_bad2 (f := 0) (nest := nest) (ts := ts) (p := 0) ho (fun g => absurd hn g)
      exact ⟨7, p, top_bad ho (by rw [P6_open ho, e])⟩
    · obtain ⟨f, p, e⟩ := ih (nest + 1) (by omega) (by omega)
      obtain ⟨p, e2⟩ := brack_bad2 (f := f) (nest := nest) (ts := ts) (p := p) ho fun _ => e
      exact ⟨f + 1 + 6, p, top_bad ho (by rw [P6_open ho, e2])⟩
/-- A text between blanks, in so many brackets. -/
def brL : Nat → List Int → List Int
  | 0, l => 32 :: l ++ [32]
  | k + 1, l => 40 :: brL k l ++ [41]
theorem brL_len (k : Nat) (l : List Int) : (brL k l).length = l.length + 2 * k + 2 := by
  induction k with
  | zero => simp [brL]
  | succ k ih => simp only [brL, List.length_append, List.length_cons, List.length_nil, ih]; omega
theorem lex_bk {a : Nat} {l : List Int} {us : List Tok} {z : Tok} (h : lexL a l = .ok (us ++ [z])) : ∀ (k b : Nat) (r : List Int) (T : List Tok), Stop (hd T) → lexL (b + (brL k l).length) r = .ok T → ∃ ts, lexL b (brL k l ++ r) = .ok ts ∧ Bk us k T ts := by
  intro k
  induction k with
  | zero =>
    intro b r T hT e
    obtain ⟨us2, vs, z2, h1, h2, h3, h4⟩ := lex_gap gap_blank r l.length a (b + 1) l (us ++ [z]) (Nat.le_refl _) h
    have hu : us = us2 := (List.append_inj' h1 rfl).1
    rw [brL_len] at e
    refine ⟨vs ++ T, ?_, .zero T vs (by rw [hu]; exact h3) hT⟩
    rw [brL, List.cons_append, List.cons_append, List.append_assoc, lex_blank]
    show lexL (b + 1) (l ++ 32 :: r) = _
    rw [h4, lex_blank, show b + 1 + l.length + 1 = b + (l.length + 2 * 0 + 2) by omega, e]
    rfl
  | succ k ih =>
    intro b r T hT e
    rw [brL_len] at e
    obtain ⟨ts, e2, hb⟩ := ih (b + 1) (41 :: r) ((5, ((b + 1 + (brL k l).length : Nat) : Int), clS, 0) :: T) (.inr ⟨rfl, rfl⟩) (by
      rw [lex_close, brL_len, show b + 1 + (l.length + 2 * k + 2) + 1 = b + (l.length + 2 * (k + 1) + 2) by omega, e]
      rfl)
    refine ⟨(5, (b : Int), opS, 0) :: ts, ?_, .succ k T _ _ ts ⟨rfl, rfl⟩ ⟨rfl, rfl⟩ hT hb⟩
    rw [brL, List.cons_append, List.cons_append, List.append_assoc, lex_open]
    show Lx.cons _ (lexL (b + 1) (brL k l ++ 41 :: r)) = _
    rw [e2]
    rfl
theorem lexR_split {s : ByteArray} {ts : List Tok} (h : lexR s = .ok ts) : s.size ≤ 4096 ∧ ∃ us z, ts = us ++ [z] ∧ z.1 = 0 ∧ lexL 0 (sInts s) = .ok ts := by
  unfold lexR at h
  by_cases hs : 4096 < s.size
  · rw [if_pos hs] at h; cases h
  · rw [if_neg hs] at h
    obtain ⟨us, e, _, _⟩ := lexL_toks _ 0 (sInts s) ts (Nat.le_refl _) h
    exact ⟨by omega, us, _, e, rfl, h⟩
theorem parseT_P {ts : List Tok} (hl : ts.length < 5000) : P (8 * ts.length + 8) 0 0 ts ≠ .out := fun e => by
  have h := P_fine (8 * ts.length + 8) 0 0 ts (by omega) hl (by unfold fuelN; rw [if_pos (by decide)]; omega)
  rw [e] at h
  exact h
theorem parseR_lex {s : ByteArray} {ts : List Tok} (h : lexR s = .ok ts) : parseR s = parseT ts := by unfold parseR; rw [h]
theorem parseT_ok {f : Nat} {ts T : List Tok} {a : List Nd} (hl : ts.length < 5000) (h : P f 0 0 ts = .ok a T) (hT : (hd T).1 = 0) : parseT ts = .ok a := by
  unfold parseT
  rw [P_agree (parseT_P hl) (by rw [h]; simp), h]
  show (if (hd T).1 = 0 then Pr.ok a else _) = _
  rw [if_pos hT]
theorem parseT_bad {f : Nat} {ts : List Tok} {p c : Int} (hl : ts.length < 5000) (h : P f 0 0 ts = .bad p c) : parseT ts = .bad p c := by
  unfold parseT
  rw [P_agree (parseT_P hl) (by rw [h]; simp), h]
  rfl
theorem parseT_inv {ts : List Tok} {a : List Nd} (h : parseT ts = .ok a) : ∃ r, P (8 * ts.length + 8) 0 0 ts = .ok a r ∧ (hd r).1 = 0 := by
  unfold parseT at h
  cases e : P (8 * ts.length + 8) 0 0 ts with
  | ok b r =>
    rw [e] at h
    have h2 : (if (hd r).1 = 0 then Pr.ok b else Pr.bad (hd r).2.1 181) = .ok a := h
    by_cases h0 : (hd r).1 = 0
    · rw [if_pos h0] at h2; cases h2; exact ⟨r, rfl, h0⟩
    · rw [if_neg h0] at h2; cases h2
  | bad p c => rw [e] at h; cases h
  | out => rw [e] at h; cases h
theorem parseR_inv {s : ByteArray} {a : List Nd} (h : parseR s = .ok a) : ∃ ts, lexR s = .ok ts ∧ parseT ts = .ok a := by
  unfold parseR at h
  cases e : lexR s with
  | ok ts => rw [e] at h; exact ⟨ts, rfl, h⟩
  | bad p c => rw [e] at h; cases h
/-- Brackets around a query, as many as may nest, change nothing. -/
theorem parse_brackets {s u : ByteArray} {a : List Nd} {k : Nat} (h : parseR s = .ok a) (hu : sInts u = brL k (sInts s)) (hl : s.size + 2 * k + 2 ≤ 4096) :
    (parseR u = .ok a ∨ 0 < k ∧ ∃ p, parseR u = .bad p 182) ∧ (64 < k → ∃ p, parseR u = .bad p 182) := by
  obtain ⟨ts, e1, e2⟩ := parseR_inv h
  obtain ⟨_, us, z, rfl, hz, e3⟩ := lexR_split e1
  obtain ⟨r, e4, h0⟩ := parseT_inv e2
  have hul : u.size = s.size + 2 * k + 2 := by rw [← sInts_len, hu, brL_len, sInts_len]
  obtain ⟨vs, e5, hb⟩ := lex_bk e3 k 0 [] [(0, ((0 + (brL k (sInts s)).length : Nat) : Int), ⟨#[]⟩, 0)] (.inl rfl) (by rw [lexL])
  have e6 : lexR u = .ok vs := by
    unfold lexR
    rw [if_neg (by omega), hu, ← e5, List.append_nil]
  have hvl : vs.length < 5000 := by have := (lexR_end e6).2; omega
  rw [parseR_lex e6]
  constructor
  · rcases read_bk e4 h0 hz hb 0 with ⟨f, g⟩ | ⟨hk, f, p, g⟩
    · exact .inl (parseT_ok hvl g rfl)
    · exact .inr ⟨by omega, p, parseT_bad hvl g⟩
  · intro hk
    obtain ⟨f, p, g⟩ := deep_bk hb 0 (by omega) (by omega)
    exact ⟨p, parseT_bad hvl g⟩
end Go.Proofs.Ytnimdngiejcljaa
