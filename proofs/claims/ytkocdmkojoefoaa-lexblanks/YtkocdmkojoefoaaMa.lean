/- A query's tokens, as maths: what the bytes say. -/
import Derived.Test.YtkocdmkojoefoaaConv
namespace Go.Proofs.Ytkocdmkojoefoaa
open Go.RowKit
set_option linter.unusedVariables false
set_option maxRecDepth 20000

/-- A token: its kind, place, text, span. -/
abbrev Tok := Int × Int × ByteArray × Int
def blankB (c : Int) : Bool := decide (c = 32) || decide (c = 9) || decide (c = 13) || decide (c = 10)
def digB (c : Int) : Bool := decide (48 ≤ c) && decide (c ≤ 57)
def letB (c : Int) : Bool := decide (65 ≤ c) && decide (c ≤ 90) || decide (97 ≤ c) && decide (c ≤ 122) || decide (c = 95)
def runB (m c : Int) : Bool := digB c || letB c || decide (c = m)
def wholeB (l : List Int) : Bool := l.all digB && decide (l ≠ []) && (decide (l.length = 1) || decide (l.getD 0 0 ≠ 48))
def valL (l : List Int) : Int := l.foldl (fun v c => 10 * v + (c - 48)) 0
def unitR (c : Int) : Int := if c = 115 then 1 else if c = 109 then 60 else if c = 104 then 3600 else if c = 100 then 86400 else 0
/-- The seconds of a span; below 1 of what is none. -/
def spanR (r : List Int) : Int :=
  if 2 ≤ r.length ∧ r.length ≤ 11 ∧ wholeB (r.take (r.length - 1)) = true then
    (if 1 ≤ valL (r.take (r.length - 1)) * unitR (r.getD (r.length - 1) 0) ∧ valL (r.take (r.length - 1)) * unitR (r.getD (r.length - 1) 0) ≤ 2147483647 then valL (r.take (r.length - 1)) * unitR (r.getD (r.length - 1) 0) else 0)
  else 0
def headR (l : List Int) : List Int := l.takeWhile (fun c => decide (c ≠ 46))
def numB (r : List Int) : Bool :=
  wholeB (headR r) && (if (headR r).length = r.length then decide (r.length ≤ 15) else (r.drop ((headR r).length + 1)).all digB && decide ((headR r).length + 1 < r.length) && decide (r.length ≤ 16))
/-- What a text says behind its first quote, and how many bytes it takes; 0: it is none. -/
def textR : List Int → List Int × Nat
  | [] => ([], 0)
  | c :: r =>
    if c = 34 then ([], 1) else if c < 32 then ([], 0) else if c = 92 then
      match r with
      | [] => ([], 0)
      | d :: r2 => if d = 34 ∨ d = 92 then (if (textR r2).2 = 0 then ([], 0) else (d :: (textR r2).1, (textR r2).2 + 2)) else if d = 110 then (if (textR r2).2 = 0 then ([], 0) else (10 :: (textR r2).1, (textR r2).2 + 2)) else ([], 0)
    else (if (textR r).2 = 0 then ([], 0) else (c :: (textR r).1, (textR r).2 + 1))
def sign2 (c d : Int) : Bool := decide (c = 61 ∧ d = 61) || decide (c = 33 ∧ d = 61) || decide (c = 60 ∧ d = 61) || decide (c = 62 ∧ d = 61) || decide (c = 61 ∧ d = 126) || decide (c = 33 ∧ d = 126)
def sign1 (c : Int) : Bool := decide (c = 60) || decide (c = 62) || decide (c = 61) || decide (c = 43) || decide (c = 45) || decide (c = 42) || decide (c = 47) || decide (c = 40) || decide (c = 41) || decide (c = 123) || decide (c = 125) || decide (c = 91) || decide (c = 93) || decide (c = 44)
def signN : List Int → Nat
  | [] => 0
  | [c] => if sign1 c = true then 1 else 0
  | c :: d :: _ => if sign2 c d = true then 2 else if sign1 c = true then 1 else 0
/-- What begins with a byte that is no blank: kind (below 0: none), text, span, bytes; of what is none the code behind. -/
def runR (m : Int) (l : List Int) : List Int := l.takeWhile (runB m)
def numR (l : List Int) : Int × ByteArray × Int × Nat :=
  if 1 ≤ spanR (runR 46 l) then (2, strOfNums (runR 46 l), spanR (runR 46 l), (runR 46 l).length) else if numB (runR 46 l) = true then (1, strOfNums (runR 46 l), 0, (runR 46 l).length) else (0, ⟨#[]⟩, 0, 0)
def wordR (l : List Int) : Int × ByteArray × Int × Nat := (3, strOfNums (runR 58 l), 0, (runR 58 l).length)
def txtR (l : List Int) : Int × ByteArray × Int × Nat := if (textR (l.drop 1)).2 = 0 then (0, ⟨#[]⟩, 0, 0) else (4, strOfNums (textR (l.drop 1)).1, 0, (textR (l.drop 1)).2 + 1)
def sgnR (l : List Int) : Int × ByteArray × Int × Nat := if signN l = 0 then (0, ⟨#[]⟩, 0, 0) else (5, strOfNums (l.take (signN l)), 0, signN l)
def tokR (l : List Int) : (Int × ByteArray × Int × Nat) × Int :=
  if digB (l.getD 0 0) = true then (numR l, 171 + 1) else if letB (l.getD 0 0) = true ∨ l.getD 0 0 = 58 then (wordR l, 0) else if l.getD 0 0 = 34 then (txtR l, 173) else (sgnR l, 171)
/-- What Lex tells: tokens, or a place and a code. -/
inductive Lx where
  | ok (ts : List Tok)
  | bad (at_ : Nat) (code : Int)
def Lx.cons (t : Tok) : Lx → Lx
  | .ok ts => .ok (t :: ts)
  | .bad p c => .bad p c
def Lx.cat (ts : List Tok) : Lx → Lx
  | .ok us => .ok (ts ++ us)
  | .bad p c => .bad p c
def lexL (at_ : Nat) (l : List Int) : Lx :=
  match l with
  | [] => .ok [(0, (at_ : Int), ⟨#[]⟩, 0)]
  | c :: r =>
    if blankB c = true then lexL (at_ + 1) r
    else if (tokR (c :: r)).1.2.2.2 = 0 then .bad at_ (tokR (c :: r)).2
    else .cons ((tokR (c :: r)).1.1, (at_ : Int), (tokR (c :: r)).1.2.1, (tokR (c :: r)).1.2.2.1) (lexL (at_ + (tokR (c :: r)).1.2.2.2) (r.drop ((tokR (c :: r)).1.2.2.2 - 1)))
termination_by l.length
decreasing_by all_goals (simp_wf; try omega)
def lexR (s : ByteArray) : Lx := if 4096 < s.size then .bad 0 170 else lexL 0 (sInts s)
/-- Where Lex stands: what it has, and what is ahead, are the whole. -/
def LexAt (s : ByteArray) (ts : List Tok) (k : Nat) (R : Lx) : Prop := Lx.cat ts (lexL k ((sInts s).drop k)) = R
theorem cat_nil (x : Lx) : Lx.cat [] x = x := by cases x <;> rfl
theorem cat_cons (ts : List Tok) (t : Tok) (x : Lx) : Lx.cat ts (Lx.cons t x) = Lx.cat (ts ++ [t]) x := by
  cases x with
  | ok us => simp [Lx.cons, Lx.cat]
  | bad p c => rfl
theorem drop_byte (s : ByteArray) (k : Nat) (hk : k < s.size) : (sInts s).drop k = byteAt s k :: (sInts s).drop (k + 1) := by
  have hl : k < (sInts s).length := by rw [sInts_len]; exact hk
  rw [List.drop_eq_getElem_cons hl]
  congr 1
  unfold byteAt
  rw [List.getD_eq_getElem?_getD, List.getElem?_eq_getElem hl]
  rfl
theorem LexAt.start (s : ByteArray) : LexAt s [] 0 (lexL 0 (sInts s)) := by unfold LexAt; rw [cat_nil]; rfl
theorem LexAt.blank {s : ByteArray} {ts : List Tok} {k : Nat} {R : Lx} (h : LexAt s ts k R) (hk : k < s.size) (hb : blankB (byteAt s k) = true) : LexAt s ts (k + 1) R := by
  unfold LexAt at h ⊢
  rw [drop_byte s k hk, lexL, if_pos hb] at h
  exact h
theorem LexAt.bad {s : ByteArray} {ts : List Tok} {k : Nat} {R : Lx} (h : LexAt s ts k R) (hk : k < s.size) (hb : blankB (byteAt s k) = false) (hn : (tokR ((sInts s).drop k)).1.2.2.2 = 0) : R = .bad k (tokR ((sInts s).drop k)).2 := by
  unfold LexAt at h
  rw [drop_byte s k hk] at h hn ⊢
  rw [lexL, if_neg (by rw [hb]; simp), if_pos hn] at h
  exact h.symm
theorem LexAt.tok {s : ByteArray} {ts : List Tok} {k n : Nat} {R : Lx} {kd sp c : Int} {t : ByteArray} (h : LexAt s ts k R) (hk : k < s.size) (hb : blankB (byteAt s k) = false) (hn : n ≠ 0) (ht : tokR ((sInts s).drop k) = ((kd, t, sp, n), c)) : LexAt s (ts ++ [(kd, (k : Int), t, sp)]) (k + n) R := by
  unfold LexAt at h ⊢
  rw [drop_byte s k hk] at h ht
  rw [lexL, if_neg (by rw [hb]; simp), ht, if_neg hn, cat_cons] at h
  rw [← h]
  congr 2
  rw [List.drop_drop]
  congr 1
  show k + n = k + 1 + (n - 1)
  omega
theorem LexAt.done {s : ByteArray} {ts : List Tok} {k : Nat} {R : Lx} (h : LexAt s ts k R) (hk : k = s.size) : R = .ok (ts ++ [(0, (k : Int), ⟨#[]⟩, 0)]) := by
  unfold LexAt at h
  rw [List.drop_eq_nil_of_le (by rw [sInts_len]; omega), lexL] at h
  exact h.symm
end Go.Proofs.Ytkocdmkojoefoaa
