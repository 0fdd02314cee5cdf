/- Pieces of text and their tokens: what a text says whose pieces end where nothing goes on. -/
import Derived.Test.YtnimdngiejcljaaVf
import Derived.Test.YtnimdngiejcljaaTq
namespace Go.Proofs.Ytnimdngiejcljaa
open Go.RowKit
set_option linter.unusedVariables false
set_option linter.unusedSimpArgs false
set_option maxRecDepth 20000

/-- A token but its place. -/
abbrev Tk3 := Int × ByteArray × Int
theorem cat_app (us vs : List Tok) (x : Lx) : Lx.cat us (Lx.cat vs x) = Lx.cat (us ++ vs) x := by
  cases x with
  | ok ts => simp [Lx.cat]
  | bad p c => rfl
theorem cons_cat (t : Tok) (x : Lx) : Lx.cons t x = Lx.cat [t] x := by cases x <;> rfl
/-- Nothing is there, or a byte that ends what is before it. -/
def GapS (R : List Int) : Prop := ∀ g r, R = g :: r → Gap g
/-- The same of words and numbers. -/
def GapW (R : List Int) : Prop := ∀ g r, R = g :: r → runB 46 g = false ∧ runB 58 g = false
def GapA (_ : List Int) : Prop := True
theorem GapS.w {R : List Int} (h : GapS R) : GapW R := fun g r e => ⟨(h g r e).1, (h g r e).2.1⟩
theorem gapS_nil : GapS [] := fun g r h => by cases h
theorem gapW_nil : GapW [] := fun g r h => by cases h
theorem gapS_cons {g : Int} (h : Gap g) (r : List Int) : GapS (g :: r) := fun g' r' e => by cases e; exact h
theorem gapW_cons {g : Int} (h1 : runB 46 g = false) (h2 : runB 58 g = false) (r : List Int) : GapW (g :: r) := fun g' r' e => by cases e; exact ⟨h1, h2⟩
/-- A piece whose tokens are T, whatever is behind it that is as G says. -/
def Lxg (G : List Int → Prop) (L : List Int) (T : List Tk3) : Prop := ∀ a R, G R → ∃ ts : List Tok, ts.map strip = T ∧ lexL a (L ++ R) = Lx.cat ts (lexL (a + L.length) R)
theorem Lxg.mono {G G' : List Int → Prop} {L : List Int} {T : List Tk3} (h : Lxg G L T) (hG : ∀ R, G' R → G R) : Lxg G' L T := fun a R hR => h a R (hG R hR)
theorem lxg_nil {G : List Int → Prop} : Lxg G [] [] := fun a R _ => ⟨[], rfl, by rw [cat_nil]; rfl⟩
theorem Lxg.app {G H : List Int → Prop} {L M : List Int} {T U : List Tk3} (h : Lxg G L T) (hM : ∀ R, H R → G (M ++ R)) (h2 : Lxg H M U) : Lxg H (L ++ M) (T ++ U) := fun a R hR => by
  obtain ⟨ts, e1, e2⟩ := h a (M ++ R) (hM R hR)
  obtain ⟨us, f1, f2⟩ := h2 (a + L.length) R hR
  refine ⟨ts ++ us, by rw [List.map_append, e1, f1], ?_⟩
  rw [List.append_assoc, e2, f2, cat_app, List.length_append, Nat.add_assoc]
/-- A piece that whatever may follow, and another. -/
theorem Lxg.then {H : List Int → Prop} {L M : List Int} {T U : List Tk3} (h : Lxg GapA L T) (h2 : Lxg H M U) : Lxg H (L ++ M) (T ++ U) := h.app (fun _ _ => trivial) h2
/-- The whole of a text. -/
theorem Lxg.lex {G : List Int → Prop} {L : List Int} {T : List Tk3} (h : Lxg G L T) (hG : G []) (a : Nat) : ∃ ts : List Tok, ts.map strip = T ∧ lexL a L = .ok (ts ++ [(0, ((a + L.length : Nat) : Int), ⟨#[]⟩, 0)]) := by
  obtain ⟨ts, e1, e2⟩ := h a [] hG
  rw [List.append_nil] at e2
  refine ⟨ts, e1, ?_⟩
  rw [e2, lexL]
  rfl
theorem lex_one {a n : Nat} {c kd sp cd : Int} {r : List Int} {t : ByteArray} (hb : blankB c = false) (h : tokR (c :: r) = ((kd, t, sp, n), cd)) (hn : n ≠ 0) : lexL a (c :: r) = Lx.cat [(kd, (a : Int), t, sp)] (lexL (a + n) (r.drop (n - 1))) := by
  rw [lexL, if_neg (by rw [hb]; simp), h, if_neg hn, cons_cat]
theorem lx_blank1 {c : Int} (h : blankB c = true) : Lxg GapA [c] [] := fun a R _ => ⟨[], rfl, by rw [cat_nil, List.singleton_append, lexL, if_pos h]; rfl⟩
theorem run_app {m : Int} {W R : List Int} (hW : ∀ c ∈ W, runB m c = true) (hR : ∀ g r, R = g :: r → runB m g = false) : runR m (W ++ R) = W := by
  unfold runR
  induction W with
  | nil =>
    cases R with
    | nil => rfl
    | cons g r => rw [List.nil_append, List.takeWhile_cons, hR g r rfl]; simp
  | cons c W ih => rw [List.cons_append, List.takeWhile_cons, hW c (by simp)]; simp [ih fun x hx => hW x (by simp [hx])]
theorem let_not {c : Int} (h : letB c = true ∨ c = 58) : digB c = false ∧ blankB c = false := by
  unfold letB at h
  simp only [Bool.or_eq_true, Bool.and_eq_true, decide_eq_true_eq] at h
  unfold digB blankB
  constructor <;> simp <;> omega
/-- A word. -/
theorem lx_word {W : List Int} {c : Int} {r : List Int} (e : W = c :: r) (h0 : letB c = true ∨ c = 58) (hW : ∀ x ∈ W, runB 58 x = true) : Lxg GapW W [(3, strOfNums W, 0)] := fun a R hR => by
  have hr : runR 58 (W ++ R) = W := run_app hW fun g r e => (hR g r e).2
  have ht : tokR (W ++ R) = ((3, strOfNums W, 0, W.length), 0) := by
    have hg : (W ++ R).getD 0 0 = c := by rw [e]; rfl
    unfold tokR
    rw [hg, (let_not h0).1, if_neg (by simp), if_pos h0]
    unfold wordR
    rw [hr]
  refine ⟨[(3, (a : Int), strOfNums W, 0)], rfl, ?_⟩
  have hn : W.length ≠ 0 := by rw [e]; simp
  rw [e, List.cons_append] at ht ⊢
  rw [lex_one (let_not h0).2 ht (by simp)]
  congr 2
  simp
/-- A text in quotes. -/
theorem lx_text {Q V : List Int} (h : ∀ R, textR (Q ++ 34 :: R) = (V, Q.length + 1)) : Lxg GapA (34 :: (Q ++ [34])) [(4, strOfNums V, 0)] := fun a R _ => by
  have ht : tokR (34 :: ((Q ++ [34]) ++ R)) = ((4, strOfNums V, 0, Q.length + 2), 173) := by
    have h2 : Q ++ [34] ++ R = Q ++ 34 :: R := by simp
    unfold tokR
    rw [show (34 :: ((Q ++ [34]) ++ R)).getD 0 0 = 34 from rfl, if_neg (by decide), if_neg (by decide), if_pos rfl]
    unfold txtR
    rw [List.drop_one, List.tail_cons, h2, h R, if_neg (by simp)]
  refine ⟨[(4, (a : Int), strOfNums V, 0)], rfl, ?_⟩
  rw [List.cons_append, lex_one (by decide) ht (by simp)]
  congr 2
  · simp
  · rw [show Q.length + 2 - 1 = (Q ++ [34]).length by simp]
    exact List.drop_left
theorem lx_quo {V : List Int} (h : V.all okB = true) : Lxg GapA (34 :: (quoL V ++ [34])) [(4, strOfNums V, 0)] := lx_text fun R => by
  have ht := quo_text V (34 :: R) h
  rw [show textR (34 :: R) = ([], 1) by rw [textR.eq_def]; rfl, if_neg (by decide), List.append_nil] at ht
  exact ht
theorem sgn_not {c : Int} (h : sign1 c = true ∨ c = 33) : digB c = false ∧ ¬ (letB c = true ∨ c = 58) ∧ c ≠ 34 ∧ blankB c = false := by
  unfold sign1 at h
  simp only [Bool.or_eq_true, decide_eq_true_eq] at h
  unfold digB letB blankB
  simp only [Bool.or_eq_true, Bool.and_eq_true, decide_eq_true_eq]
  refine ⟨?_, ?_, ?_, ?_⟩ <;> simp <;> omega
theorem tok_sgn {c : Int} {r : List Int} (h : sign1 c = true ∨ c = 33) : tokR (c :: r) = (sgnR (c :: r), 171) := by
  obtain ⟨h1, h2, h3, _⟩ := sgn_not h
  unfold tokR
  rw [show (c :: r).getD 0 0 = c from rfl, h1, if_neg (by simp), if_neg h2, if_neg h3]
theorem sgn_one {c : Int} {R : List Int} (h : sign1 c = true) (h2 : ∀ d r, R = d :: r → sign2 c d = false) : sgnR (c :: R) = (5, strOfNums [c], 0, 1) := by
  have hn : signN (c :: R) = 1 := by
    cases R with
    | nil => show (if sign1 c = true then 1 else 0) = 1; rw [if_pos h]
    | cons d r => show (if sign2 c d = true then 2 else if sign1 c = true then 1 else 0) = 1; rw [h2 d r rfl, if_neg (by simp), if_pos h]
  unfold sgnR
  rw [hn, if_neg (by decide)]
  rfl
theorem lex_sgn {a : Nat} {c : Int} {R : List Int} (h : sign1 c = true) (h2 : ∀ d r, R = d :: r → sign2 c d = false) : lexL a (c :: R) = Lx.cat [(5, (a : Int), strOfNums [c], 0)] (lexL (a + 1) R) := by
  have ht := tok_sgn (c := c) (r := R) (.inl h)
  rw [sgn_one h h2] at ht
  rw [lex_one (sgn_not (.inl h)).2.2.2 ht (by decide)]
  rfl
/-- A sign of one byte. -/
theorem lx_sgn {c : Int} (h : sign1 c = true) : Lxg GapS [c] [(5, strOfNums [c], 0)] := fun a R hR =>
  ⟨[(5, (a : Int), strOfNums [c], 0)], rfl, by rw [List.singleton_append, lex_sgn h fun d r e => (hR d r e).2.2 c]; rfl⟩
theorem lx_sgnA {c : Int} (h : sign1 c = true) (h2 : ∀ d, sign2 c d = false) : Lxg GapA [c] [(5, strOfNums [c], 0)] := fun a R _ =>
  ⟨[(5, (a : Int), strOfNums [c], 0)], rfl, by rw [List.singleton_append, lex_sgn h fun d r e => h2 d]; rfl⟩
/-- A sign of two. -/
theorem lx_two {c d : Int} (h : sign2 c d = true) : Lxg GapA [c, d] [(5, strOfNums [c, d], 0)] := fun a R _ => by
  have hc : sign1 c = true ∨ c = 33 := by
    unfold sign2 at h
    simp only [Bool.or_eq_true, decide_eq_true_eq] at h
    unfold sign1
    simp only [Bool.or_eq_true, decide_eq_true_eq]
    omega
  have ht := tok_sgn (c := c) (r := d :: R) hc
  have hs : sgnR (c :: d :: R) = (5, strOfNums [c, d], 0, 2) := by
    have hn : signN (c :: d :: R) = 2 := by show (if sign2 c d = true then 2 else _) = 2; rw [if_pos h]
    unfold sgnR
    rw [hn, if_neg (by decide)]
    rfl
  rw [hs] at ht
  refine ⟨[(5, (a : Int), strOfNums [c, d], 0)], rfl, ?_⟩
  show lexL a (c :: d :: R) = _
  rw [lex_one (sgn_not hc).2.2.2 ht (by decide)]
  rfl
theorem dig_not {c : Int} (h : digB c = true) : blankB c = false := by
  unfold digB at h
  simp only [Bool.and_eq_true, decide_eq_true_eq] at h
  unfold blankB
  simp; omega
theorem lx_num {D : List Int} {c : Int} {r : List Int} {kd sp : Int} {t : ByteArray} (e : D = c :: r) (h0 : digB c = true) (hD : ∀ x ∈ D, runB 46 x = true) (hn : ∀ R, runR 46 R = D → numR R = (kd, t, sp, D.length)) : Lxg GapW D [(kd, t, sp)] := fun a R hR => by
  have hr : runR 46 (D ++ R) = D := run_app hD fun g r e => (hR g r e).1
  have ht : tokR (D ++ R) = ((kd, t, sp, D.length), 172) := by
    have hg : (D ++ R).getD 0 0 = c := by rw [e]; rfl
    unfold tokR
    rw [hg, if_pos h0, hn _ hr]
    rfl
  refine ⟨[(kd, (a : Int), t, sp)], rfl, ?_⟩
  rw [e, List.cons_append] at ht ⊢
  rw [lex_one (dig_not h0) ht (by simp)]
  congr 2
  simp
/-- A span. -/
theorem lx_span {D : List Int} {c : Int} {r : List Int} (e : D = c :: r) (h0 : digB c = true) (hD : ∀ x ∈ D, runB 46 x = true) (hs : 1 ≤ spanR D) : Lxg GapW D [(2, strOfNums D, spanR D)] :=
  lx_num e h0 hD fun R hR => by unfold numR; rw [hR, if_pos hs]
/-- A number. -/
theorem lx_numb {D : List Int} {c : Int} {r : List Int} (e : D = c :: r) (h0 : digB c = true) (hD : ∀ x ∈ D, runB 46 x = true) (hs : ¬ 1 ≤ spanR D) (hn : numB D = true) : Lxg GapW D [(1, strOfNums D, 0)] :=
  lx_num e h0 hD fun R hR => by unfold numR; rw [hR, if_neg hs, if_pos hn]
theorem gap_of {g : Int} (h : g = 32 ∨ g = 34 ∨ g = 40 ∨ g = 41 ∨ g = 44 ∨ g = 45 ∨ g = 91 ∨ g = 93 ∨ g = 123 ∨ g = 125) : Gap g := by
  unfold Gap
  refine ⟨?_, ?_, fun c => ?_⟩
  · unfold runB digB letB; simp; omega
  · unfold runB digB letB; simp; omega
  · unfold sign2; simp; omega

/-- A number's digits. -/
def digsF : Nat → Nat → List Int
  | 0, _ => []
  | f + 1, n => (if n < 10 then [] else digsF f (n / 10)) ++ [48 + ((n % 10 : Nat) : Int)]
theorem val_app (a : List Int) (c : Int) : valL (a ++ [c]) = 10 * valL a + (c - 48) := by
  unfold valL
  rw [List.foldl_append]
  rfl
theorem digs_ok : ∀ (f n : Nat), n < 10 ^ f → 1 ≤ f → valL (digsF f n) = (n : Int) ∧ (∀ c ∈ digsF f n, digB c = true) ∧ digsF f n ≠ [] ∧ (n ≠ 0 → (digsF f n).getD 0 0 ≠ 48) ∧ (n < 10 → (digsF f n).length = 1) ∧ (digsF f n).length ≤ f := by
  intro f
  induction f with
  | zero => intro n _ h; omega
  | succ f ih =>
    intro n hn _
    have hm : n % 10 < 10 := Nat.mod_lt _ (by decide)
    have hd : digB (48 + ((n % 10 : Nat) : Int)) = true := by unfold digB; simp; omega
    unfold digsF
    by_cases h10 : n < 10
    · rw [if_pos h10, List.nil_append]
      have : n % 10 = n := Nat.mod_eq_of_lt h10
      refine ⟨?_, ?_, by simp, ?_, fun _ => rfl, by simp⟩
      · show 10 * 0 + _ = _; omega
      · intro c hc; rw [List.mem_singleton] at hc; subst hc; exact hd
      · intro h0; show 48 + ((n % 10 : Nat) : Int) ≠ 48; omega
    · rw [if_neg h10]
      have hf : 1 ≤ f := by
        cases f with
        | zero => simp at hn; omega
        | succ f => omega
      obtain ⟨h1, h2, h3, h4, h5, h6⟩ := ih (n / 10) (by rw [Nat.pow_succ] at hn; omega) hf
      refine ⟨?_, ?_, by simp, ?_, fun h => absurd h h10, by simp; omega⟩
      · rw [val_app, h1]; omega
      · intro c hc
        rcases List.mem_append.1 hc with h | h
        · exact h2 c h
        · rw [List.mem_singleton] at h; subst h; exact hd
      · intro _
        have h7 := h4 (by omega)
        cases e : digsF f (n / 10) with
        | nil => exact absurd e h3
        | cons x r => rw [e] at h7; exact h7
theorem digs_whole {f n : Nat} (h : n < 10 ^ f) (hf : 1 ≤ f) : wholeB (digsF f n) = true := by
  obtain ⟨h1, h2, h3, h4, h5, h6⟩ := digs_ok f n h hf
  unfold wholeB
  simp only [Bool.and_eq_true, Bool.or_eq_true, List.all_eq_true, decide_eq_true_eq]
  refine ⟨⟨h2, h3⟩, ?_⟩
  by_cases h10 : n < 10
  · exact .inl (h5 h10)
  · exact .inr (h4 (by omega))
/-- A span's text: its value. -/
theorem span_val {f n : Nat} {u : Int} (h : n < 10 ^ f) (hf : 1 ≤ f) (h10 : f ≤ 10) (h1 : 1 ≤ (n : Int) * unitR u) (h2 : (n : Int) * unitR u ≤ 2147483647) : spanR (digsF f n ++ [u]) = (n : Int) * unitR u := by
  obtain ⟨e1, _, e3, _, _, e6⟩ := digs_ok f n h hf
  have hl : 1 ≤ (digsF f n).length := by cases e : digsF f n with
    | nil => exact absurd e e3
    | cons x r => simp
  have hL : (digsF f n ++ [u]).length = (digsF f n).length + 1 := by simp
  have ht : (digsF f n ++ [u]).take ((digsF f n ++ [u]).length - 1) = digsF f n := by rw [hL]; simp
  have hu : (digsF f n ++ [u]).getD ((digsF f n ++ [u]).length - 1) 0 = u := by rw [hL]; simp
  unfold spanR
  rw [ht, hu, if_pos ⟨by omega, by omega, digs_whole h hf⟩, e1, if_pos ⟨h1, h2⟩]
theorem lx_digs {f n : Nat} {u : Int} (h : n < 10 ^ f) (hf : 1 ≤ f) (h10 : f ≤ 10) (hu : letB u = true) (h1 : 1 ≤ (n : Int) * unitR u) (h2 : (n : Int) * unitR u ≤ 2147483647) : Lxg GapW (digsF f n ++ [u]) [(2, strOfNums (digsF f n ++ [u]), (n : Int) * unitR u)] := by
  obtain ⟨e1, e2, e3, _, _, e6⟩ := digs_ok f n h hf
  have hs := span_val h hf h10 h1 h2
  cases e : digsF f n with
  | nil => exact absurd e e3
  | cons x r =>
    have hx := e2 x (by rw [e]; simp)
    have := lx_span (D := digsF f n ++ [u]) (c := x) (r := r ++ [u]) (by rw [e]; rfl) hx (fun y hy => by
      unfold runB
      rcases List.mem_append.1 hy with hh | hh
      · rw [e2 y hh]; rfl
      · rw [List.mem_singleton] at hh; subst hh; rw [hu]; simp) (by rw [hs]; exact h1)
    rw [hs, e] at this
    exact this
end Go.Proofs.Ytnimdngiejcljaa
