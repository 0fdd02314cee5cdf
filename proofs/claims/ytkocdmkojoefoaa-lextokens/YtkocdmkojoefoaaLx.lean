/- Lex: the program's, walked. -/
import Derived.Test.YtkocdmkojoefoaaSh
import Derived.Test.YtkocdmkojoefoaaNw
import Derived.Test.YtkocdmkojoefoaaTy
namespace Go.Proofs.Ytkocdmkojoefoaa
open Go.RowKit
set_option linter.unusedVariables false
set_option maxRecDepth 20000

theorem text_len : ∀ (m : Nat) (l : List Int), l.length ≤ m → (textR l).2 ≤ l.length := by
  intro m
  induction m with
  | zero => intro l h; have : l = [] := List.eq_nil_of_length_eq_zero (by omega); subst this; rw [textR.eq_def]; exact Nat.le_refl _
  | succ m ih =>
    intro l h
    match l with
    | [] => rw [textR.eq_def]; exact Nat.le_refl _
    | c :: r =>
      have h1 := ih r (by simp at h; omega)
      rw [textR.eq_def]
      simp only []
      split
      · simp
      split
      · simp
      split
      · match r, h1 with
        | [], _ => simp
        | d :: r2, _ =>
          have h2 := ih r2 (by simp at h; omega)
          simp only []
          repeat' split
          all_goals (simp; try omega)
      · split
        · simp
        · simp; omega
theorem run_len (m : Int) (l : List Int) : (runR m l).length ≤ l.length := (List.takeWhile_prefix _).length_le
theorem sign_len (l : List Int) : signN l ≤ l.length := by
  unfold signN
  split
  · simp
  · split <;> simp
  · repeat' split
    all_goals simp
theorem tok_len (l : List Int) (h : 1 ≤ l.length) : (tokR l).1.2.2.2 ≤ l.length := by
  have h1 := run_len 46 l
  have h2 := run_len 58 l
  have h3 := text_len _ (l.drop 1) (Nat.le_refl _)
  have h4 := sign_len l
  rw [List.length_drop] at h3
  unfold tokR
  split
  · unfold numR; split; · exact h1
    split; · exact h1
    · exact Nat.zero_le _
  · split
    · exact h2
    · split
      · unfold txtR; split
        · exact Nat.zero_le _
        · show _ + 1 ≤ _; omega
      · unfold sgnR; split
        · exact Nat.zero_le _
        · exact h4
/-- What Lex answers. -/
def LxOut (R : Lx) (w : World) (e : Ending) (w' : World) : Prop :=
  match R with
  | .ok ts => ∃ a c, e = .returned (.tuple #[.slice a ts.length c, .int .i64 0, .int .i64 0]) ∧ SOwn tokE 32 w' w.heap.size (.slice a ts.length c) ts.length ts ∧ w.grownBy w' none
  | .bad p c => e = .returned (.tuple #[.slice none 0 0, .int .i64 (p : Int), .int .i64 c]) ∧ w.grownBy w' none
/-- Between tokens: a box for one, the list so far. -/
structure LxB (w W : World) (g : Nat) (v : Value) (ts : List Tok) (kd sp : Int) (t : ByteArray) : Prop where
  row : ∃ x : Int, W.heap[g]? = some (.cells #[.int .i64 kd, .int .i64 x, .string t, .int .i64 sp] 32 (0, 0))
  gb : w.grownBy W none
  le : w.heap.size ≤ g
  own : SOwn tokE 32 W (g + 1) v ts.length ts
theorem LxB.lt {w W : World} {g : Nat} {v : Value} {ts : List Tok} {kd sp : Int} {t : ByteArray} (h : LxB w W g v ts kd sp t) : g < W.heap.size := by
  obtain ⟨x, hx⟩ := h.row
  exact (Array.getElem?_eq_some_iff.1 hx).1
theorem LxB.grown {w W W' : World} {g : Nat} {v : Value} {ts : List Tok} {kd sp : Int} {t : ByteArray} (h : LxB w W g v ts kd sp t) (hg : W.grownBy W' none) : LxB w W' g v ts kd sp t := by
  obtain ⟨x, hx⟩ := h.row
  exact ⟨⟨x, by rw [hg.block g h.lt (by simp)]; exact hx⟩, h.gb.trans hg, h.le, SOwn.kept h.own hg (Classical.em _)⟩
theorem LxB.apart {w W : World} {g : Nat} {v : Value} {ts : List Tok} {kd sp : Int} {t : ByteArray} (h : LxB w W g v ts kd sp t) : v.ownBlock = none ∨ v.ownBlock ≠ some g := by
  refine .inr fun e => ?_
  have := (SOwn.block h.own g e).1
  omega
theorem LxB.put {w W : World} {g : Nat} {v : Value} {ts : List Tok} {kd sp : Int} {t : ByteArray} (h : LxB w W g v ts kd sp t) (kd2 a2 sp2 : Int) (t2 : ByteArray) : LxB w (put4 W g (.int .i64 kd2) (.int .i64 a2) (.string t2) (.int .i64 sp2)) g v ts kd2 sp2 t2 := by
  obtain ⟨x, hx⟩ := h.row
  exact ⟨⟨a2, row4 hx _ _ _ _⟩, gb_trans h.gb (gb_put4 _ _ _ _ _ _) (fun k hk => .inl (by cases hk; exact h.le)), h.le, SOwn.kept h.own (gb_put4 _ _ _ _ _ _) h.apart⟩
theorem LxB.at {w W : World} {g : Nat} {v : Value} {ts : List Tok} {kd sp : Int} {t : ByteArray} (h : LxB w W g v ts kd sp t) (a2 : Int) : (W.setCell ⟨g, 1, none⟩ (.int .i64 a2)).heap[g]? = some (.cells #[.int .i64 kd, .int .i64 a2, .string t, .int .i64 sp] 32 (0, 0)) ∧ LxB w (W.setCell ⟨g, 1, none⟩ (.int .i64 a2)) g v ts kd sp t := by
  obtain ⟨x, hx⟩ := h.row
  have e : (W.setCell ⟨g, 1, none⟩ (.int .i64 a2)).heap[g]? = some (.cells #[.int .i64 kd, .int .i64 a2, .string t, .int .i64 sp] 32 (0, 0)) := by
    simp [World.setCell, Array.getElem?_modify, hx]
  have gs : W.grownBy (W.setCell ⟨g, 1, none⟩ (.int .i64 a2)) (some g) := gb_set rfl
  exact ⟨e, ⟨a2, e⟩, gb_trans h.gb gs (fun k hk => .inl (by cases hk; exact h.le)), h.le, SOwn.kept h.own gs h.apart⟩
theorem LxB.app {w W W1 W2 : World} {g : Nat} {v v2 : Value} {ts : List Tok} {kd sp : Int} {t : ByteArray} {q : Tok} (h : LxB w W g v ts kd sp t) (hg : W.grownBy W1 none) (ho : SOwn tokE 32 W2 (g + 1) v2 (ts.length + 1) (ts ++ [q])) (hg2 : W1.grownBy W2 v.ownBlock) : LxB w W2 g v2 (ts ++ [q]) kd sp t := by
  have h1 := h.grown hg
  obtain ⟨x, hx⟩ := h1.row
  refine ⟨⟨x, ?_⟩, gb_trans h1.gb hg2 (fun k hk => .inl ?_), h.le, by rw [List.length_append]; exact ho⟩
  · rw [hg2.block g h1.lt (fun e => ?_)]; exact hx
    rcases h.apart with h2 | h2
    · rw [h2] at e; cases e
    · exact h2 e.symm
  · have := (SOwn.block h.own k hk).1
    have := h.le
    omega
def lexT (s : ByteArray) (g : Nat) (v : Value) (k : Nat) (n : Int) (u : Nat → Value) : Array Value := #[.string s, undef, .slice none 0 0, .int .i64 0, .int .i64 0, v, .pointer (some ⟨g, 0, none⟩), .int .i64 (k : Int), .int .i64 n, u 9, u 10, u 11, u 12, u 13, u 14, u 15, u 16, u 17, u 18, u 19, u 20, u 21, u 22, u 23, u 24, u 25, u 26, u 27, u 28, u 29, u 30, u 31, u 32, u 33, u 34, u 35, u 36, u 37, u 38, u 39, u 40, u 41, u 42, u 43, u 44, u 45, u 46, u 47, u 48, u 49, u 50, u 51, u 52, u 53, u 54, u 55, u 56, u 57, u 58, u 59, u 60, u 61, u 62, u 63, u 64, u 65, u 66, u 67, u 68, u 69, u 70, u 71, u 72, u 73, u 74, u 75, u 76, u 77, u 78, u 79, u 80, u 81, u 82, u 83, u 84]
def LxJ0 (s : ByteArray) (g : Nat) (R : Lx) (w : World) (a' : Act) (w' : World) : Prop := ∃ (k : Nat) (n kd sp : Int) (t : ByteArray) (v : Value) (ts : List Tok) (u : Nat → Value), a' = { tmps := lexT s g v k n u, defers := [] } ∧ LxB w w' g v ts kd sp t ∧ LexAt s ts k R ∧ ts.length ≤ k ∧ k = s.size
def LxJ1 (s : ByteArray) (g : Nat) (R : Lx) (w : World) (a' : Act) (w' : World) : Prop := ∃ (k : Nat) (n kd sp : Int) (t : ByteArray) (v : Value) (ts : List Tok) (u : Nat → Value), a' = { tmps := lexT s g v k n u, defers := [] } ∧ LxB w w' g v ts kd sp t ∧ LexAt s ts k R ∧ ts.length ≤ k ∧ k ≤ s.size
def LxJX (P : Int → Prop) (s : ByteArray) (g : Nat) (R : Lx) (w : World) (a' : Act) (w' : World) : Prop := ∃ (k : Nat) (n kd sp : Int) (t : ByteArray) (v : Value) (ts : List Tok) (u : Nat → Value), a' = { tmps := lexT s g v k n u, defers := [] } ∧ LxB w w' g v ts kd sp t ∧ LexAt s ts k R ∧ ts.length ≤ k ∧ k < s.size ∧ blankB (byteAt s k) = false ∧ P (byteAt s k)
def LxJ5 (s : ByteArray) (g : Nat) (R : Lx) (w : World) (a' : Act) (w' : World) : Prop := ∃ (k n : Nat) (kd sp c : Int) (t : ByteArray) (v : Value) (ts : List Tok) (u : Nat → Value), a' = { tmps := lexT s g v k (n : Int) u, defers := [] } ∧ LxB w w' g v ts kd sp t ∧ LexAt s ts k R ∧ ts.length ≤ k ∧ k < s.size ∧ blankB (byteAt s k) = false ∧ n ≠ 0 ∧ tokR ((sInts s).drop k) = ((kd, t, sp, n), c)
section
variable {s : ByteArray} {g : Nat} {R : Lx} {w : World} {a' : Act} {w' : World}
theorem lxJ0 (k : Nat) (n kd sp : Int) (t : ByteArray) (v : Value) (ts : List Tok) (h : a' = { tmps := lexT s g v k n (upon a'), defers := [] }) (h1 : LxB w w' g v ts kd sp t) (h2 : LexAt s ts k R) (h3 : ts.length ≤ k) (h4 : k = s.size) : LxJ0 s g R w a' w' := ⟨k, n, kd, sp, t, v, ts, _, h, h1, h2, h3, h4⟩
theorem lxJ1 (k : Nat) (n kd sp : Int) (t : ByteArray) (v : Value) (ts : List Tok) (h : a' = { tmps := lexT s g v k n (upon a'), defers := [] }) (h1 : LxB w w' g v ts kd sp t) (h2 : LexAt s ts k R) (h3 : ts.length ≤ k) (h4 : k ≤ s.size) : LxJ1 s g R w a' w' := ⟨k, n, kd, sp, t, v, ts, _, h, h1, h2, h3, h4⟩
theorem lxJX {P : Int → Prop} (k : Nat) (n kd sp : Int) (t : ByteArray) (v : Value) (ts : List Tok) (h : a' = { tmps := lexT s g v k n (upon a'), defers := [] }) (h1 : LxB w w' g v ts kd sp t) (h2 : LexAt s ts k R) (h3 : ts.length ≤ k) (h4 : k < s.size) (h5 : blankB (byteAt s k) = false) (h6 : P (byteAt s k)) : LxJX P s g R w a' w' := ⟨k, n, kd, sp, t, v, ts, _, h, h1, h2, h3, h4, h5, h6⟩
theorem lxJ5 (k n : Nat) (kd sp c : Int) (t : ByteArray) (v : Value) (ts : List Tok) (h : a' = { tmps := lexT s g v k (n : Int) (upon a'), defers := [] }) (h1 : LxB w w' g v ts kd sp t) (h2 : LexAt s ts k R) (h3 : ts.length ≤ k) (h4 : k < s.size) (h5 : blankB (byteAt s k) = false) (h6 : n ≠ 0) (h7 : tokR ((sInts s).drop k) = ((kd, t, sp, n), c)) : LxJ5 s g R w a' w' := ⟨k, n, kd, sp, c, t, v, ts, _, h, h1, h2, h3, h4, h5, h6, h7⟩
end
def lxM (s : ByteArray) (e : Nat) (a' : Act) (_ : World) : Nat := 3 * (s.size - (intOf (a'.tmps.getD 7 undef)).toNat) + e
theorem drop_head (s : ByteArray) (k : Nat) : byteAt (dropS s k) 0 = byteAt s k := by
  unfold byteAt
  rw [sInts_drop, List.getD_eq_getElem?_getD, List.getD_eq_getElem?_getD, List.getElem?_drop]
  rfl
theorem drop_head0 (s : ByteArray) (k : Nat) : ((sInts s).drop k).getD 0 0 = byteAt s k := by
  unfold byteAt
  rw [List.getD_eq_getElem?_getD, List.getD_eq_getElem?_getD, List.getElem?_drop]
  rfl
theorem lx_bad {R : Lx} {w W : World} {p : Nat} {c : Int} (hR : R = .bad p c) (hg : w.grownBy W none) : LxOut R w (.returned (.tuple #[.slice none 0 0, .int .i64 (p : Int), .int .i64 c])) W := by
  subst hR
  exact ⟨rfl, hg⟩
/-- A token at a place, and the code of none. -/
def TokAt (s : ByteArray) (k : Nat) (X : Int × ByteArray × Int × Nat) (c : Int) : Prop := tokR ((sInts s).drop k) = (X, c)
theorem isNum {s : ByteArray} {k : Nat} (h : digB (byteAt s k) = true) : TokAt s k (numR ((sInts s).drop k)) 172 := by
  unfold TokAt tokR
  rw [drop_head0, if_pos h]
  rfl
theorem isWord {s : ByteArray} {k : Nat} (h : digB (byteAt s k) = false ∧ runB 58 (byteAt s k) = true) : TokAt s k (wordR ((sInts s).drop k)) 0 := by
  unfold TokAt tokR
  have h2 : letB (byteAt s k) = true ∨ byteAt s k = 58 := by
    have := h.2
    unfold runB at this
    rw [h.1] at this
    simpa using this
  rw [drop_head0, if_neg (by rw [h.1]; simp), if_pos h2]
theorem isText {s : ByteArray} {k : Nat} (h : byteAt s k = 34) : TokAt s k (txtR ((sInts s).drop k)) 173 := by
  unfold TokAt tokR
  rw [drop_head0, h]
  rfl
theorem isSign {s : ByteArray} {k : Nat} (h : digB (byteAt s k) = false ∧ runB 58 (byteAt s k) = false ∧ byteAt s k ≠ 34) : TokAt s k (sgnR ((sInts s).drop k)) 171 := by
  unfold TokAt tokR
  have h2 : ¬ (letB (byteAt s k) = true ∨ byteAt s k = 58) := by
    have := h.2.1
    unfold runB at this
    rw [h.1] at this
    simpa using this
  rw [drop_head0, if_neg (by rw [h.1]; simp), if_neg h2, if_neg h.2.2]
theorem word_pos (l : List Int) (h : runB 58 (l.getD 0 0) = true) : (wordR l).2.2.2 ≠ 0 := by
  have h1 := (RunAt.next (by decide) (RunAt.zero (runB 58) l) h)
  match l, h1 with
  | [], h1 => exact absurd h1.1 (by simp)
  | c :: r, _ =>
    have h' : runB 58 c = true := h
    show (runR 58 (c :: r)).length ≠ 0
    unfold runR
    rw [List.takeWhile_cons, if_pos h']
    simp
end Go.Proofs.Ytkocdmkojoefoaa
