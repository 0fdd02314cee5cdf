/- ParseSelects' text: its tokens, its node. -/
import Derived.Test.YtnimdngiejcljaaTb
namespace Go.Proofs.Ytnimdngiejcljaa
open Go.RowKit
set_option linter.unusedVariables false
set_option linter.unusedSimpArgs false
set_option maxRecDepth 20000

/-- A word of small letters. -/
structure Lows (W : ByteArray) : Prop where
  some : 1 ≤ W.size
  few : W.size ≤ 60
  each : ∀ c ∈ sInts W, 97 ≤ c ∧ c ≤ 122
theorem lows_let {c : Int} (h : 97 ≤ c ∧ c ≤ 122) : letB c = true ∧ (∀ m, runB m c = true) ∧ labC c = true := by
  have h1 : letB c = true := by unfold letB; simp; omega
  refine ⟨h1, fun m => ?_, ?_⟩
  · unfold runB; rw [h1]; simp
  · unfold labC; rw [h1]; rfl
theorem Lows.cons {W : ByteArray} (h : Lows W) : ∃ c r, sInts W = c :: r ∧ 97 ≤ c ∧ c ≤ 122 := by
  cases e : sInts W with
  | nil =>
    have := sInts_len W
    rw [e] at this
    have := h.some
    simp at *
    omega
  | cons c r => exact ⟨c, r, rfl, h.each c (by rw [e]; simp)⟩
theorem Lows.lex {W : ByteArray} (h : Lows W) : Lxg GapW (sInts W) [(3, W, 0)] := by
  obtain ⟨c, r, e, hc⟩ := h.cons
  have := lx_word (W := sInts W) e (.inl (lows_let hc).1) (fun x hx => (lows_let (h.each x hx)).2.1 58)
  rwa [str_self] at this
theorem Lows.name {W : ByteArray} (h : Lows W) : nameB W = true := by
  obtain ⟨c, r, e, hc⟩ := h.cons
  unfold nameB
  have h0 : byteAt W 0 = c := by unfold byteAt; rw [e]; rfl
  rw [h0, decide_eq_true h.some, decide_eq_true (by have := h.few; omega), List.all_eq_true.2 (fun x hx => (lows_let (h.each x hx)).2.2)]
  unfold digB
  simp; omega
theorem Lows.ne {W : ByteArray} (h : Lows W) {s : ByteArray} {d : Int} {r : List Int} (hs : sInts s = d :: r) (hd : ¬ (97 ≤ d ∧ d ≤ 122)) : W ≠ s := fun e => by
  obtain ⟨c, r2, e2, hc⟩ := h.cons
  rw [e, hs] at e2
  injection e2 with e3 _
  rw [e3] at hd
  exact hd hc
theorem quo_self {l : List Int} (h : ∀ c ∈ l, c ≠ 10 ∧ c ≠ 34 ∧ c ≠ 92) : quoL l = l := by
  induction l with
  | nil => rfl
  | cons c l ih =>
    have hc := h c (by simp)
    show quo1 c ++ quoL l = _
    rw [ih fun x hx => h x (by simp [hx])]
    unfold quo1
    rw [if_neg hc.1, if_neg (by omega)]
    rfl
theorem lx_kind {k : Int} (h1 : 1 ≤ k) (h4 : k ≤ 4) : Lxg GapS (sInts (kindS k)) [(5, kindS k, 0)] := by
  have : k = 1 ∨ k = 2 ∨ k = 3 ∨ k = 4 := by omega
  rcases this with rfl | rfl | rfl | rfl
  · exact lx_sgn (c := 61) (by decide)
  · exact (lx_two (c := 33) (d := 61) (by decide)).mono fun _ _ => trivial
  · exact (lx_two (c := 61) (d := 126) (by decide)).mono fun _ _ => trivial
  · exact (lx_two (c := 33) (d := 126) (by decide)).mono fun _ _ => trivial
theorem kind_gap {k : Int} (h1 : 1 ≤ k) (h4 : k ≤ 4) (R : List Int) : GapW (sInts (kindS k) ++ R) := by
  have : k = 1 ∨ k = 2 ∨ k = 3 ∨ k = 4 := by omega
  rcases this with rfl | rfl | rfl | rfl
  · exact gapW_cons (g := 61) (by decide) (by decide) _
  · exact gapW_cons (g := 33) (by decide) (by decide) _
  · exact gapW_cons (g := 61) (by decide) (by decide) _
  · exact gapW_cons (g := 33) (by decide) (by decide) _
theorem sg2 {c : Int} (h : c = 123 ∨ c = 125 ∨ c = 91 ∨ c = 93 ∨ c = 40 ∨ c = 41 ∨ c = 44) (d : Int) : sign2 c d = false := by
  unfold sign2
  simp; omega
/-- A text in quotes, plain. -/
def Plain (V : ByteArray) : Prop := ∀ c ∈ sInts V, 32 ≤ c ∧ c ≠ 34 ∧ c ≠ 92
theorem Plain.lex {V : ByteArray} (h : Plain V) : Lxg GapA (34 :: (sInts V ++ [34])) [(4, V, 0)] := by
  have := lx_quo (V := sInts V) (List.all_eq_true.2 fun c hc => by have := h c hc; unfold okB; simp; omega)
  rw [quo_self fun c hc => by have := h c hc; omega, str_self] at this
  exact this
/-- What stands behind the span. -/
def offL (b : Nat) : List Int := if b = 0 then [] else 32 :: ([111, 102, 102, 115, 101, 116] ++ 32 :: (digsF 10 b ++ [104]))
def offT (b : Nat) : List Tk3 := if b = 0 then [] else [(3, offS, 0), (2, strOfNums (digsF 10 b ++ [104]), (b : Int) * 3600)]
def selL (W V : ByteArray) (k : Int) (w b : Nat) : List Int := sInts W ++ ([123] ++ ([32] ++ (sInts W ++ (sInts (kindS k) ++ ((34 :: (sInts V ++ [34])) ++ ([32] ++ ([125] ++ ([91] ++ ((digsF 10 w ++ [115]) ++ ([93] ++ offL b))))))))))
def selT (W V : ByteArray) (k : Int) (w b : Nat) : List Tk3 := [(3, W, 0)] ++ ([(5, ⟨#[123]⟩, 0)] ++ ([] ++ ([(3, W, 0)] ++ ([(5, kindS k, 0)] ++ ([(4, V, 0)] ++ ([] ++ ([(5, ⟨#[125]⟩, 0)] ++ ([(5, ⟨#[91]⟩, 0)] ++ ([(2, strOfNums (digsF 10 w ++ [115]), (w : Int))] ++ ([(5, ⟨#[93]⟩, 0)] ++ offT b))))))))))
theorem lx_off {b : Nat} (hb : b < 10) : Lxg GapW (offL b) (offT b) := by
  unfold offL offT
  split
  · exact lxg_nil
  · rename_i h0
    have h1 : Lxg GapA [32] [] := lx_blank1 (by decide)
    have h2 : Lxg GapW [111, 102, 102, 115, 101, 116] [(3, offS, 0)] := lx_word (W := [111, 102, 102, 115, 101, 116]) rfl (.inl (by decide)) (by decide)
    have h3 : Lxg GapW (digsF 10 b ++ [104]) [(2, strOfNums (digsF 10 b ++ [104]), (b : Int) * 3600)] := lx_digs (by omega) (by decide) (by decide) (by decide) (by show 1 ≤ (b : Int) * 3600; omega) (by show (b : Int) * 3600 ≤ _; omega)
    exact h1.then (h2.app (fun R _ => gapW_cons (by decide) (by decide) _) (h1.then h3))
theorem off_gap (b : Nat) : ∀ R, GapW R → True := fun _ _ => trivial
theorem lx_sel {W V : ByteArray} {k : Int} {w b : Nat} (hW : Lows W) (hV : Plain V) (h1 : 1 ≤ k) (h4 : k ≤ 4) (hw : 1 ≤ w) (hw2 : w ≤ 1000) (hb : b < 10) : Lxg GapW (selL W V k w b) (selT W V k w b) := by
  have B : Lxg GapA [32] [] := lx_blank1 (by decide)
  have S1 : Lxg GapA [123] [(5, ⟨#[123]⟩, 0)] := lx_sgnA (by decide) (sg2 (by decide))
  have S2 : Lxg GapA [125] [(5, ⟨#[125]⟩, 0)] := lx_sgnA (by decide) (sg2 (by decide))
  have S3 : Lxg GapA [91] [(5, ⟨#[91]⟩, 0)] := lx_sgnA (by decide) (sg2 (by decide))
  have S4 : Lxg GapA [93] [(5, ⟨#[93]⟩, 0)] := lx_sgnA (by decide) (sg2 (by decide))
  have N : Lxg GapW (digsF 10 w ++ [115]) [(2, strOfNums (digsF 10 w ++ [115]), (w : Int))] := by
    have := lx_digs (f := 10) (n := w) (u := 115) (by omega) (by decide) (by decide) (by decide) (by show 1 ≤ (w : Int) * 1; omega) (by show (w : Int) * 1 ≤ _; omega)
    rwa [show (w : Int) * unitR 115 = (w : Int) from Int.mul_one _] at this
  unfold selL selT
  exact hW.lex.app (fun R _ => gapW_cons (by decide) (by decide) _) (S1.then (B.then (hW.lex.app (fun R _ => by rw [List.append_assoc]; exact kind_gap h1 h4 _) ((lx_kind h1 h4).app (fun R _ => gapS_cons (gap_of (by decide)) _) (hV.lex.then (B.then (S2.then (S3.then (N.app (fun R _ => gapW_cons (by decide) (by decide) _) (S4.then (lx_off hb)))))))))))
theorem parse_sel {W V u : ByteArray} {k : Int} {w b : Nat} (hW : Lows W) (hV : Plain V) (hv : V.size ≤ 200) (hk : ∀ p : Int, keptB (3, p, W, 0) = false) (h1 : 1 ≤ k) (h4 : k ≤ 4) (hw : 1 ≤ w) (hw2 : w ≤ 1000) (hb : b < 10) (hu : sInts u = selL W V k w b) (hl : u.size ≤ 4096) :
    parseR u = .ok [⟨3, 0, ⟨#[]⟩, [(1, nameS, W), (k, W, V)], w, (b : Int) * 3600, 0, [], false, 0⟩] := by
  obtain ⟨ts, e1, e2⟩ := (lx_sel hW hV h1 h4 hw hw2 hb).lex gapW_nil 0
  rw [← hu] at e2
  generalize hz : ((0, ((0 + (sInts u).length : Nat) : Int), (⟨#[]⟩ : ByteArray), (0 : Int)) : Tok) = z at e2
  unfold selT at e1
  simp only [List.nil_append, List.cons_append] at e1
  obtain ⟨t1, v1, rfl, a1, e1⟩ := map1 e1
  obtain ⟨t2, v2, rfl, a2, e1⟩ := map1 e1
  obtain ⟨x, y, t, v3, rfl, ax, ay, at', e1⟩ := map3 e1
  obtain ⟨t3, v4, rfl, a3, e1⟩ := map1 e1
  obtain ⟨t4, t5, t6, v5, rfl, a4, a5, a6, e1⟩ := map3 e1
  obtain ⟨q1, q2, q3⟩ := strip_eq a1
  have hk1 : keptB t1 = false := by
    obtain ⟨c1, c2, c3, c4⟩ := t1
    simp only at q1 q2 q3
    subst q1 q2 q3
    exact hk c2
  have hm : matsB ((1, nameS, W) :: [(k, W, V)]) = true := by
    unfold matsB matB
    simp only [List.length_cons, List.length_nil, List.all_cons, List.all_nil, Bool.and_true]
    rw [show nameB nameS = true by kernel_rfl, hW.name, decide_eq_true (show W.size ≤ 256 by have := hW.few; omega), decide_eq_true (show V.size ≤ 256 by omega), decide_eq_true h1, decide_eq_true h4]
    rfl
  have hz1 : z.1 = 0 := by rw [← hz]
  have hM := match_both (f := 5000) (t := t1) (o := t2) (c := t3) (W := W) (ms := [(k, W, V)]) (us := [x, y, t]) (T := t4 :: t5 :: t6 :: (v5 ++ [z])) a1 hk1 a2 a3 (by show 1 ≤ 5000; decide) (by simp [listT, tailT, mtT, ax, ay, at']) hm
  have hwd := width_rd (T := v5 ++ [z]) a4 a5 a6
  have hbk : backR (v5 ++ [z]) = .ok ((b : Int) * 3600) [z] := by
    unfold offT at e1
    by_cases h0 : b = 0
    · rw [if_pos h0] at e1
      have : v5 = [] := by
        cases v5 with
        | nil => rfl
        | cons _ _ => cases e1
      subst this
      rw [List.nil_append, t_back0 (t_isBkind (by rw [hz1]; decide) (by rw [hz1]; decide)), h0]
      rfl
    · rw [if_neg h0] at e1
      obtain ⟨o1, v6, rfl, b1, e1⟩ := map1 e1
      obtain ⟨o2, v7, rfl, b2, e1⟩ := map1 e1
      have : v7 = [] := by
        cases v7 with
        | nil => rfl
        | cons _ _ => cases e1
      subst this
      exact back_rd b1 b2
  have hS := sel_rd hM hwd hbk
  have hn : W ≠ ⟨#[40]⟩ ∧ W ≠ ⟨#[45]⟩ := ⟨hW.ne (d := 40) (r := []) rfl (by decide), hW.ne (d := 45) (r := []) rfl (by decide)⟩
  have h5 := sel_top (.inl ⟨q1, hk1, by rw [q2]; exact hn.1, by rw [q2]; exact hn.2⟩) hS 0 0
  have h0 : Rdd 0 _ _ [z] := rd_down (Nat.le_refl 5) 5 0 rfl (fun i _ _ => by
    have : numIn opsR z = 0 := by unfold numIn meanB; rw [hz1]; rfl
    unfold takeN
    rw [show hd [z] = z from rfl, this]
    split <;> rfl) ⟨_, h5⟩
  obtain ⟨f, hf⟩ := h0
  have hlx : lexR u = .ok (t1 :: t2 :: x :: y :: t :: t3 :: t4 :: t5 :: t6 :: (v5 ++ [z])) := by
    unfold lexR
    rw [if_neg (by omega), e2]
    rfl
  unfold parseR
  rw [hlx]
  refine parseT_ok ?_ hf hz1
  have := (lexR_end hlx).2
  omega
/-- A number where a matcher is to be. -/
theorem parse_one {W u : ByteArray} (hW : Lows W) (hk : ∀ p : Int, keptB (3, p, W, 0) = false) (hu : sInts u = sInts W ++ ([123] ++ ([49] ++ [125]))) (hl : u.size ≤ 4096) : parseR u = .bad ((W.size : Int) + 1) 181 := by
  have S1 : ∀ a R, lexL a ([123] ++ R) = Lx.cat [(5, (a : Int), ⟨#[123]⟩, 0)] (lexL (a + 1) R) := fun a R => lex_sgn (c := 123) (by decide) fun d r _ => sg2 (by decide) d
  obtain ⟨ts, e1, e2⟩ := hW.lex 0 ([123] ++ ([49] ++ [125])) (gapW_cons (by decide) (by decide) _)
  obtain ⟨t1, v1, rfl, a1, e1⟩ := map1 e1
  have : v1 = [] := by
    cases v1 with
    | nil => rfl
    | cons _ _ => cases e1
  subst this
  have h3 : ∀ a, ∃ z, lexL a ([49] ++ [125]) = Lx.ok [(1, (a : Int), ⟨#[49]⟩, 0), (5, ((a + 1 : Nat) : Int), ⟨#[125]⟩, 0), z] ∧ z.1 = 0 := fun a => by
    have t : tokR [49, 125] = ((1, ⟨#[49]⟩, 0, 1), 172) := by kernel_rfl
    refine ⟨(0, ((a + 1 + 1 : Nat) : Int), ⟨#[]⟩, 0), ?_, rfl⟩
    show lexL a [49, 125] = _
    rw [lex_one (by decide) t (by decide)]
    show Lx.cat _ (lexL (a + 1) [125]) = _
    rw [lex_sgn (c := 125) (by decide) (fun d r e => by cases e), lexL]
    rfl
  rw [S1] at e2
  obtain ⟨z, hz, hz1⟩ := h3 (0 + (sInts W).length + 1)
  rw [hz, sInts_len] at e2
  have hlx : lexR u = .ok [t1, (5, ((0 + W.size : Nat) : Int), ⟨#[123]⟩, 0), (1, ((0 + W.size + 1 : Nat) : Int), ⟨#[49]⟩, 0), (5, ((0 + W.size + 1 + 1 : Nat) : Int), ⟨#[125]⟩, 0), z] := by
    unfold lexR
    rw [if_neg (by omega), hu, e2]
    rfl
  obtain ⟨q1, q2, q3⟩ := strip_eq a1
  have hk1 : keptB t1 = false := by
    obtain ⟨c1, c2, c3, c4⟩ := t1
    simp only at q1 q2 q3
    subst q1 q2 q3
    exact hk c2
  have hS : selR 5000 [t1, (5, ((0 + W.size : Nat) : Int), ⟨#[123]⟩, 0), (1, ((0 + W.size + 1 : Nat) : Int), ⟨#[49]⟩, 0), (5, ((0 + W.size + 1 + 1 : Nat) : Int), ⟨#[125]⟩, 0), z] = .bad ((W.size : Int) + 1) 181 := by
    have hm1 : matsB ([] ++ [(1, nameS, W)]) = true := by
      unfold matsB matB
      simp only [List.nil_append, List.length_singleton, List.all_cons, List.all_nil, Bool.and_true]
      rw [show nameB nameS = true by kernel_rfl, decide_eq_true (show W.size ≤ 256 by have := hW.few; omega)]
      rfl
    have hmt : matchR 5000 (t1 :: [(5, ((0 + W.size : Nat) : Int), ⟨#[123]⟩, 0), (1, ((0 + W.size + 1 : Nat) : Int), ⟨#[49]⟩, 0), (5, ((0 + W.size + 1 + 1 : Nat) : Int), ⟨#[125]⟩, 0), z]) = listR mstep ⟨#[123]⟩ ⟨#[125]⟩ 5000 [(1, nameS, W)] [(5, ((0 + W.size : Nat) : Int), ⟨#[123]⟩, 0), (1, ((0 + W.size + 1 : Nat) : Int), ⟨#[49]⟩, 0), (5, ((0 + W.size + 1 + 1 : Nat) : Int), ⟨#[125]⟩, 0), z] := by
      generalize hr : [(5, ((0 + W.size : Nat) : Int), ⟨#[123]⟩, 0), (1, ((0 + W.size + 1 : Nat) : Int), ⟨#[49]⟩, 0), (5, ((0 + W.size + 1 + 1 : Nat) : Int), ⟨#[125]⟩, 0), z] = r
      have hr2 : isB ⟨#[123]⟩ r = true := by rw [← hr]; exact isB_of (.inr rfl) rfl
      unfold matchR
      rw [show hd (t1 :: r) = t1 from rfl, q1, hk1, if_pos (by decide)]
      unfold withR
      rw [show hd (t1 :: r) = t1 from rfl, q2, if_pos hm1, bind_ok, List.tail_cons, hr2, if_pos rfl]
      rfl
    unfold selR
    rw [hmt]
    unfold listR
    rw [need_of (s := ⟨#[123]⟩) (t := (5, ((0 + W.size : Nat) : Int), ⟨#[123]⟩, 0)) (.inr rfl) rfl, bind_ok, t_isBkind (t := (1, ((0 + W.size + 1 : Nat) : Int), ⟨#[49]⟩, 0)) (by show (1 : Int) ≠ 3; decide) (by show (1 : Int) ≠ 5; decide), if_neg (by decide)]
    unfold mstep questR lname fail failC
    simp only [hd]
    show Rs.bad _ _ = _
    congr 1
    omega
  have hn : W ≠ ⟨#[40]⟩ ∧ W ≠ ⟨#[45]⟩ := ⟨hW.ne (d := 40) (r := []) rfl (by decide), hW.ne (d := 45) (r := []) rfl (by decide)⟩
  have h5 := sel_bad (.inl ⟨q1, hk1, by rw [q2]; exact hn.1, by rw [q2]; exact hn.2⟩) hS 0 0
  have h4 := lv_bad (lv := 4) (by decide) h5
  have h3 := lv_bad (lv := 3) (by decide) h4
  have h2 := lv_bad (lv := 2) (by decide) h3
  have h1 := lv_bad (lv := 1) (by decide) h2
  have h0 := lv_bad (lv := 0) (by decide) h1
  unfold parseR
  rw [hlx]
  refine parseT_bad ?_ h0
  show 5 < 5000
  decide
end Go.Proofs.Ytnimdngiejcljaa
