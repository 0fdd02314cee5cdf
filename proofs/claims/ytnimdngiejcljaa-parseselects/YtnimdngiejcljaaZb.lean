/- Several texts in one: Ma, Mb, Pm, Pn, Pv, Pw, Sc. -/
import Derived.Test.YtnimdngiejcljaaZa
import Derived.WalkKit
import Derived.WalkMore
import Derived.ScopeJumps
/- A query's tokens, as maths: what the bytes say. -/
namespace Go.Proofs.Ytnimdngiejcljaa
open Go.RowKit
set_option linter.unusedVariables false
set_option maxRecDepth 20000

/-- A token: its kind, place, text, span. -/
abbrev Tok := Int × Int × ByteArray × Int
def blankB (c : Int) : Bool := decide (c = 32) || decide (c = 9) || decide (c = 13) || decide (c = 10)
def digB (c : Int) : Bool := decide (48 ≤ c) && decide (c ≤ 57)
def letB (c : Int) : Bool := decide (65 ≤ c) && decide (c ≤ 90) || decide (97 ≤ c) && decide (c ≤ 122) || decide (c = 95)
def runB (m c : Int) : Bool := digB c || letB c || decide (c = m)
def wholeB (l : List Int) : Bool := l.all digB && decide (l ≠ []) && (decide (l.length = 1) || decide (l.getD 0 0 ≠ 48))
def valL (l : List Int) : Int := l.foldl (fun v c => 10 * v + (c - 48)) 0
def unitR (c : Int) : Int := if c = 115 then 1 else if c = 109 then 60 else if c = 104 then 3600 else if c = 100 then 86400 else 0
/-- The seconds of a span; below 1 of what is none. -/
def spanR (r : List Int) : Int :=
  if 2 ≤ r.length ∧ r.length ≤ 11 ∧ wholeB (r.take (r.length - 1)) = true then
    (if 1 ≤ valL (r.take (r.length - 1)) * unitR (r.getD (r.length - 1) 0) ∧ valL (r.take (r.length - 1)) * unitR (r.getD (r.length - 1) 0) ≤ 2147483647 then valL (r.take (r.length - 1)) * unitR (r.getD (r.length - 1) 0) else 0)
  else 0
def headR (l : List Int) : List Int := l.takeWhile (fun c => decide (c ≠ 46))
def numB (r : List Int) : Bool :=
  wholeB (headR r) && (if (headR r).length = r.length then decide (r.length ≤ 15) else (r.drop ((headR r).length + 1)).all digB && decide ((headR r).length + 1 < r.length) && decide (r.length ≤ 16))
/-- What a text says behind its first quote, and how many bytes it takes; 0: it is none. -/
def textR : List Int → List Int × Nat
  | [] => ([], 0)
  | c :: r =>
    if c = 34 then ([], 1) else if c < 32 then ([], 0) else if c = 92 then
      match r with
      | [] => ([], 0)
      | d :: r2 => if d = 34 ∨ d = 92 then (if (textR r2).2 = 0 then ([], 0) else (d :: (textR r2).1, (textR r2).2 + 2)) else if d = 110 then (if (textR r2).2 = 0 then ([], 0) else (10 :: (textR r2).1, (textR r2).2 + 2)) else ([], 0)
    else (if (textR r).2 = 0 then ([], 0) else (c :: (textR r).1, (textR r).2 + 1))
def sign2 (c d : Int) : Bool := decide (c = 61 ∧ d = 61) || decide (c = 33 ∧ d = 61) || decide (c = 60 ∧ d = 61) || decide (c = 62 ∧ d = 61) || decide (c = 61 ∧ d = 126) || decide (c = 33 ∧ d = 126)
def sign1 (c : Int) : Bool := decide (c = 60) || decide (c = 62) || decide (c = 61) || decide (c = 43) || decide (c = 45) || decide (c = 42) || decide (c = 47) || decide (c = 40) || decide (c = 41) || decide (c = 123) || decide (c = 125) || decide (c = 91) || decide (c = 93) || decide (c = 44)
def signN : List Int → Nat
  | [] => 0
  | [c] => if sign1 c = true then 1 else 0
  | c :: d :: _ => if sign2 c d = true then 2 else if sign1 c = true then 1 else 0
/-- What begins with a byte that is no blank: kind (below 0: none), text, span, bytes; of what is none the code behind. -/
def runR (m : Int) (l : List Int) : List Int := l.takeWhile (runB m)
def numR (l : List Int) : Int × ByteArray × Int × Nat :=
  if 1 ≤ spanR (runR 46 l) then (2, strOfNums (runR 46 l), spanR (runR 46 l), (runR 46 l).length) else if numB (runR 46 l) = true then (1, strOfNums (runR 46 l), 0, (runR 46 l).length) else (0, ⟨#[]⟩, 0, 0)
def wordR (l : List Int) : Int × ByteArray × Int × Nat := (3, strOfNums (runR 58 l), 0, (runR 58 l).length)
def txtR (l : List Int) : Int × ByteArray × Int × Nat := if (textR (l.drop 1)).2 = 0 then (0, ⟨#[]⟩, 0, 0) else (4, strOfNums (textR (l.drop 1)).1, 0, (textR (l.drop 1)).2 + 1)
def sgnR (l : List Int) : Int × ByteArray × Int × Nat := if signN l = 0 then (0, ⟨#[]⟩, 0, 0) else (5, strOfNums (l.take (signN l)), 0, signN l)
def tokR (l : List Int) : (Int × ByteArray × Int × Nat) × Int :=
  if digB (l.getD 0 0) = true then (numR l, 171 + 1) else if letB (l.getD 0 0) = true ∨ l.getD 0 0 = 58 then (wordR l, 0) else if l.getD 0 0 = 34 then (txtR l, 173) else (sgnR l, 171)
/-- What Lex tells: tokens, or a place and a code. -/
inductive Lx where
  | ok (ts : List Tok)
  | bad (at_ : Nat) (code : Int)
def Lx.cons (t : Tok) : Lx → Lx
  | .ok ts => .ok (t :: ts)
  | .bad p c => .bad p c
def Lx.cat (ts : List Tok) : Lx → Lx
  | .ok us => .ok (ts ++ us)
  | .bad p c => .bad p c
def lexL (at_ : Nat) (l : List Int) : Lx :=
  match l with
  | [] => .ok [(0, (at_ : Int), ⟨#[]⟩, 0)]
  | c :: r =>
    if blankB c = true then lexL (at_ + 1) r
    else if (tokR (c :: r)).1.2.2.2 = 0 then .bad at_ (tokR (c :: r)).2
    else .cons ((tokR (c :: r)).1.1, (at_ : Int), (tokR (c :: r)).1.2.1, (tokR (c :: r)).1.2.2.1) (lexL (at_ + (tokR (c :: r)).1.2.2.2) (r.drop ((tokR (c :: r)).1.2.2.2 - 1)))
termination_by l.length
decreasing_by all_goals (simp_wf; try omega)
def lexR (s : ByteArray) : Lx := if 4096 < s.size then .bad 0 170 else lexL 0 (sInts s)
/-- Where Lex stands: what it has, and what is ahead, are the whole. -/
def LexAt (s : ByteArray) (ts : List Tok) (k : Nat) (R : Lx) : Prop := Lx.cat ts (lexL k ((sInts s).drop k)) = R
theorem cat_nil (x : Lx) : Lx.cat [] x = x := by cases x <;> rfl
theorem cat_cons (ts : List Tok) (t : Tok) (x : Lx) : Lx.cat ts (Lx.cons t x) = Lx.cat (ts ++ [t]) x := by
  cases x with
  | ok us => simp [Lx.cons, Lx.cat]
  | bad p c => rfl
theorem drop_byte (s : ByteArray) (k : Nat) (hk : k < s.size) : (sInts s).drop k = byteAt s k :: (sInts s).drop (k + 1) := by
  have hl : k < (sInts s).length := by rw [sInts_len]; exact hk
  rw [List.drop_eq_getElem_cons hl]
  congr 1
  unfold byteAt
  rw [List.getD_eq_getElem?_getD, List.getElem?_eq_getElem hl]
  rfl
theorem LexAt.start (s : ByteArray) : LexAt s [] 0 (lexL 0 (sInts s)) := by unfold LexAt; rw [cat_nil]; rfl
theorem LexAt.blank {s : ByteArray} {ts : List Tok} {k : Nat} {R : Lx} (h : LexAt s ts k R) (hk : k < s.size) (hb : blankB (byteAt s k) = true) : LexAt s ts (k + 1) R := by
  unfold LexAt at h ⊢
  rw [drop_byte s k hk, lexL, if_pos hb] at h
  exact h
theorem LexAt.bad {s : ByteArray} {ts : List Tok} {k : Nat} {R : Lx} (h : LexAt s ts k R) (hk : k < s.size) (hb : blankB (byteAt s k) = false) (hn : (tokR ((sInts s).drop k)).1.2.2.2 = 0) : R = .bad k (tokR ((sInts s).drop k)).2 := by
  unfold LexAt at h
  rw [drop_byte s k hk] at h hn ⊢
  rw [lexL, if_neg (by rw [hb]; simp), if_pos hn] at h
  exact h.symm
theorem LexAt.tok {s : ByteArray} {ts : List Tok} {k n : Nat} {R : Lx} {kd sp c : Int} {t : ByteArray} (h : LexAt s ts k R) (hk : k < s.size) (hb : blankB (byteAt s k) = false) (hn : n ≠ 0) (ht : tokR ((sInts s).drop k) = ((kd, t, sp, n), c)) : LexAt s (ts ++ [(kd, (k : Int), t, sp)]) (k + n) R := by
  unfold LexAt at h ⊢
  rw [drop_byte s k hk] at h ht
  rw [lexL, if_neg (by rw [hb]; simp), ht, if_neg hn, cat_cons] at h
  rw [← h]
  congr 2
  rw [List.drop_drop]
  congr 1
  show k + n = k + 1 + (n - 1)
  omega
theorem LexAt.done {s : ByteArray} {ts : List Tok} {k : Nat} {R : Lx} (h : LexAt s ts k R) (hk : k = s.size) : R = .ok (ts ++ [(0, (k : Int), ⟨#[]⟩, 0)]) := by
  unfold LexAt at h
  rw [List.drop_eq_nil_of_le (by rw [sInts_len]; omega), lexL] at h
  exact h.symm
end Go.Proofs.Ytnimdngiejcljaa

/- Predicates of one byte, the program's and the document's. (Printed by mk_mb.py.) -/
namespace Go.Proofs.Ytnimdngiejcljaa
open Go.RowKit
set_option linter.unusedVariables false
set_option linter.unusedSimpArgs false
set_option maxRecDepth 20000

theorem f_digit (c : Int) (R : Bool) (w : World) (hR : digB c = R) : Calls Try.prog 22 #[.int .u8 c] w fun e w' => e = .returned (.bool R) ∧ w = w' := by
  have hc : c ≤ 47 ∨ 48 ≤ c ∧ c ≤ 57 ∨ 58 ≤ c := by omega
  rcases hc with h | h | h
  · have hr : R = false := by rw [← hR]; unfold digB; simp; omega
    subst hr; clear hR
    have q0 : decide (48 ≤ c) = false := by simp; omega
    have q1 : decide (c ≤ 57) = true := by simp; omega
    clear h
    go_enter Try.func22, Try.ntmps22
    go_wp2
    go_ret
    exact ⟨rfl, rfl⟩
  · have hr : R = true := by rw [← hR]; unfold digB; simp; omega
    subst hr; clear hR
    have q0 : decide (48 ≤ c) = true := by simp; omega
    have q1 : decide (c ≤ 57) = true := by simp; omega
    clear h
    go_enter Try.func22, Try.ntmps22
    go_wp2
    go_ret
    exact ⟨rfl, rfl⟩
  · have hr : R = false := by rw [← hR]; unfold digB; simp; omega
    subst hr; clear hR
    have q0 : decide (48 ≤ c) = true := by simp; omega
    have q1 : decide (c ≤ 57) = false := by simp; omega
    clear h
    go_enter Try.func22, Try.ntmps22
    go_wp2
    go_ret
    exact ⟨rfl, rfl⟩
theorem f_letter (c : Int) (R : Bool) (w : World) (hR : letB c = R) : Calls Try.prog 39 #[.int .u8 c] w fun e w' => e = .returned (.bool R) ∧ w = w' := by
  have hc : c ≤ 64 ∨ 65 ≤ c ∧ c ≤ 90 ∨ 91 ≤ c ∧ c ≤ 94 ∨ c = 95 ∨ c = 96 ∨ 97 ≤ c ∧ c ≤ 122 ∨ 123 ≤ c := by omega
  rcases hc with h | h | h | h | h | h | h
  · have hr : R = false := by rw [← hR]; unfold letB; simp; omega
    subst hr; clear hR
    have q0 : decide (65 ≤ c) = false := by simp; omega
    have q1 : decide (c ≤ 90) = true := by simp; omega
    have q2 : decide (97 ≤ c) = false := by simp; omega
    have q3 : decide (c ≤ 122) = true := by simp; omega
    have q4 : (c == 95) = false := by simp; omega
    clear h
    go_enter Try.func39, Try.ntmps39
    go_wp2
    go_ret
    exact ⟨rfl, rfl⟩
  · have hr : R = true := by rw [← hR]; unfold letB; simp; omega
    subst hr; clear hR
    have q0 : decide (65 ≤ c) = true := by simp; omega
    have q1 : decide (c ≤ 90) = true := by simp; omega
    have q2 : decide (97 ≤ c) = false := by simp; omega
    have q3 : decide (c ≤ 122) = true := by simp; omega
    have q4 : (c == 95) = false := by simp; omega
    clear h
    go_enter Try.func39, Try.ntmps39
    go_wp2
    go_ret
    exact ⟨rfl, rfl⟩
  · have hr : R = false := by rw [← hR]; unfold letB; simp; omega
    subst hr; clear hR
    have q0 : decide (65 ≤ c) = true := by simp; omega
    have q1 : decide (c ≤ 90) = false := by simp; omega
    have q2 : decide (97 ≤ c) = false := by simp; omega
    have q3 : decide (c ≤ 122) = true := by simp; omega
    have q4 : (c == 95) = false := by simp; omega
    clear h
    go_enter Try.func39, Try.ntmps39
    go_wp2
    go_ret
    exact ⟨rfl, rfl⟩
  · have hr : R = true := by rw [← hR]; unfold letB; simp; omega
    subst hr; clear hR
    subst h
    go_enter Try.func39, Try.ntmps39
    go_wp2
    go_ret
    exact ⟨rfl, rfl⟩
  · have hr : R = false := by rw [← hR]; unfold letB; simp; omega
    subst hr; clear hR
    subst h
    go_enter Try.func39, Try.ntmps39
    go_wp2
    go_ret
    exact ⟨rfl, rfl⟩
  · have hr : R = true := by rw [← hR]; unfold letB; simp; omega
    subst hr; clear hR
    have q0 : decide (65 ≤ c) = true := by simp; omega
    have q1 : decide (c ≤ 90) = false := by simp; omega
    have q2 : decide (97 ≤ c) = true := by simp; omega
    have q3 : decide (c ≤ 122) = true := by simp; omega
    have q4 : (c == 95) = false := by simp; omega
    clear h
    go_enter Try.func39, Try.ntmps39
    go_wp2
    go_ret
    exact ⟨rfl, rfl⟩
  · have hr : R = false := by rw [← hR]; unfold letB; simp; omega
    subst hr; clear hR
    have q0 : decide (65 ≤ c) = true := by simp; omega
    have q1 : decide (c ≤ 90) = false := by simp; omega
    have q2 : decide (97 ≤ c) = true := by simp; omega
    have q3 : decide (c ≤ 122) = false := by simp; omega
    have q4 : (c == 95) = false := by simp; omega
    clear h
    go_enter Try.func39, Try.ntmps39
    go_wp2
    go_ret
    exact ⟨rfl, rfl⟩
theorem f_blank (c : Int) (R : Bool) (w : World) (hR : blankB c = R) : Calls Try.prog 21 #[.int .u8 c] w fun e w' => e = .returned (.bool R) ∧ w = w' := by
  have hc : c ≤ 8 ∨ c = 9 ∨ c = 10 ∨ 11 ≤ c ∧ c ≤ 12 ∨ c = 13 ∨ 14 ≤ c ∧ c ≤ 31 ∨ c = 32 ∨ 33 ≤ c := by omega
  rcases hc with h | h | h | h | h | h | h | h
  · have hr : R = false := by rw [← hR]; unfold blankB; simp; omega
    subst hr; clear hR
    have q0 : (c == 32) = false := by simp; omega
    have q1 : (c == 9) = false := by simp; omega
    have q2 : (c == 10) = false := by simp; omega
    have q3 : (c == 13) = false := by simp; omega
    clear h
    go_enter Try.func21, Try.ntmps21
    go_wp2
    go_ret
    exact ⟨rfl, rfl⟩
  · have hr : R = true := by rw [← hR]; unfold blankB; simp; omega
    subst hr; clear hR
    subst h
    go_enter Try.func21, Try.ntmps21
    go_wp2
    go_ret
    exact ⟨rfl, rfl⟩
  · have hr : R = true := by rw [← hR]; unfold blankB; simp; omega
    subst hr; clear hR
    subst h
    go_enter Try.func21, Try.ntmps21
    go_wp2
    go_ret
    exact ⟨rfl, rfl⟩
  · have hr : R = false := by rw [← hR]; unfold blankB; simp; omega
    subst hr; clear hR
    have q0 : (c == 32) = false := by simp; omega
    have q1 : (c == 9) = false := by simp; omega
    have q2 : (c == 10) = false := by simp; omega
    have q3 : (c == 13) = false := by simp; omega
    clear h
    go_enter Try.func21, Try.ntmps21
    go_wp2
    go_ret
    exact ⟨rfl, rfl⟩
  · have hr : R = true := by rw [← hR]; unfold blankB; simp; omega
    subst hr; clear hR
    subst h
    go_enter Try.func21, Try.ntmps21
    go_wp2
    go_ret
    exact ⟨rfl, rfl⟩
  · have hr : R = false := by rw [← hR]; unfold blankB; simp; omega
    subst hr; clear hR
    have q0 : (c == 32) = false := by simp; omega
    have q1 : (c == 9) = false := by simp; omega
    have q2 : (c == 10) = false := by simp; omega
    have q3 : (c == 13) = false := by simp; omega
    clear h
    go_enter Try.func21, Try.ntmps21
    go_wp2
    go_ret
    exact ⟨rfl, rfl⟩
  · have hr : R = true := by rw [← hR]; unfold blankB; simp; omega
    subst hr; clear hR
    subst h
    go_enter Try.func21, Try.ntmps21
    go_wp2
    go_ret
    exact ⟨rfl, rfl⟩
  · have hr : R = false := by rw [← hR]; unfold blankB; simp; omega
    subst hr; clear hR
    have q0 : (c == 32) = false := by simp; omega
    have q1 : (c == 9) = false := by simp; omega
    have q2 : (c == 10) = false := by simp; omega
    have q3 : (c == 13) = false := by simp; omega
    clear h
    go_enter Try.func21, Try.ntmps21
    go_wp2
    go_ret
    exact ⟨rfl, rfl⟩

/-- byteAt: what lies behind the end is a byte 0. -/
theorem f_byteAt (s : ByteArray) (k : Nat) (w : World) : Calls Try.prog 41 #[.string s, .int .i64 (k : Int)] w fun e w' => e = .returned (.int .u8 (byteAt s k)) ∧ w = w' := by
  by_cases h : k < s.size
  · have hi := idx9 s k h
    have hk : (k : Int) < (s.size : Int) := by omega
    go_enter Try.func41, Try.ntmps41
    go_wp2
    go_ret
    exact ⟨rfl, rfl⟩
  · have hk : ¬ (k : Int) < (s.size : Int) := by omega
    have e : byteAt s k = 0 := by
      unfold byteAt
      rw [List.getD_eq_getElem?_getD, List.getElem?_eq_none (by rw [sInts_len]; omega)]
      rfl
    rw [e]
    go_enter Try.func41, Try.ntmps41
    go_wp2
    go_ret
    exact ⟨rfl, rfl⟩
theorem f_seconds (c : Int) (w : World) : Calls Try.prog 42 #[.int .u8 c] w fun e w' => e = .returned (.int .i64 (unitR c)) ∧ w = w' := by
  by_cases h1 : c = 115
  · subst h1
    go_enter Try.func42, Try.ntmps42
    go_wp2
    go_ret
    exact ⟨rfl, rfl⟩
  · by_cases h2 : c = 109
    · subst h2
      go_enter Try.func42, Try.ntmps42
      go_wp2
      go_ret
      exact ⟨rfl, rfl⟩
    · by_cases h3 : c = 104
      · subst h3
        go_enter Try.func42, Try.ntmps42
        go_wp2
        go_ret
        exact ⟨rfl, rfl⟩
      · by_cases h4 : c = 100
        · subst h4
          go_enter Try.func42, Try.ntmps42
          go_wp2
          go_ret
          exact ⟨rfl, rfl⟩
        · have e : unitR c = 0 := by unfold unitR; rw [if_neg h1, if_neg h2, if_neg h3, if_neg h4]
          have q1 : (c == 115) = false := by simpa using h1
          have q2 : (c == 109) = false := by simpa using h2
          have q3 : (c == 104) = false := by simpa using h3
          have q4 : (c == 100) = false := by simpa using h4
          rw [e]
          clear h1 h2 h3 h4 e
          go_enter Try.func42, Try.ntmps42
          go_wp2
          go_ret
          exact ⟨rfl, rfl⟩
def wbB (c : Int) : Bool := letB c || digB c || decide (c = 58)
theorem f_wordByte (c : Int) (w : World) : Calls Try.prog 23 #[.int .u8 c] w fun e w' => e = .returned (.bool (wbB c)) ∧ w = w' := by
  have HL := fun w => f_letter c (letB c) w rfl
  have HD := fun w => f_digit c (digB c) w rfl
  unfold wbB
  have q : (c == 58) = decide (c = 58) := by by_cases h : c = 58 <;> simp [h]
  generalize decide (c = 58) = b3 at q ⊢
  generalize letB c = b1 at HL ⊢
  generalize digB c = b2 at HD ⊢
  cases b1 <;> cases b2 <;> cases b3 <;> (
    go_enter Try.func23, Try.ntmps23
    go_wp2_with (first | (refine (HL _).mono ?_; rintro e w1 ⟨rfl, rfl⟩) | (refine (HD _).mono ?_; rintro e w1 ⟨rfl, rfl⟩))
    go_ret
    exact ⟨rfl, rfl⟩)
theorem f_runByte (c : Int) (w : World) : Calls Try.prog 43 #[.int .u8 c] w fun e w' => e = .returned (.bool (letB c || digB c || decide (c = 46))) ∧ w = w' := by
  have HL := fun w => f_letter c (letB c) w rfl
  have HD := fun w => f_digit c (digB c) w rfl
  have q : (c == 46) = decide (c = 46) := by by_cases h : c = 46 <;> simp [h]
  generalize decide (c = 46) = b3 at q ⊢
  generalize letB c = b1 at HL ⊢
  generalize digB c = b2 at HD ⊢
  cases b1 <;> cases b2 <;> cases b3 <;> (
    go_enter Try.func43, Try.ntmps43
    go_wp2_with (first | (refine (HL _).mono ?_; rintro e w1 ⟨rfl, rfl⟩) | (refine (HD _).mono ?_; rintro e w1 ⟨rfl, rfl⟩))
    go_ret
    exact ⟨rfl, rfl⟩)

end Go.Proofs.Ytnimdngiejcljaa

/- A query's tree, as maths: what the tokens say. -/
namespace Go.Proofs.Ytnimdngiejcljaa
open Go.RowKit
set_option linter.unusedVariables false
set_option linter.unusedSimpArgs false
set_option maxRecDepth 20000

/-- A matcher: its kind, name, value. -/
abbrev Mt := Int × ByteArray × ByteArray
/-- A node. -/
structure Nd where
  kind : Int
  op : Int
  text : ByteArray
  mat : List Mt
  width : Int
  back : Int
  group : Int
  names : List ByteArray
  bool : Bool
  parts : Int
def hd : List Tok → Tok
  | [] => (0, 0, ⟨#[]⟩, 0)
  | t :: _ => t
/-- What reading comes to: something, and the tokens behind it; or a place and a code. -/
inductive Rs (α : Type) where
  | ok (a : α) (r : List Tok)
  | bad (p c : Int)
  | out
def Rs.bind {α β : Type} (x : Rs α) (f : α → List Tok → Rs β) : Rs β :=
  match x with
  | .ok a r => f a r
  | .bad p c => .bad p c
  | .out => .out
theorem bind_ok {α β : Type} (a : α) (r : List Tok) (f : α → List Tok → Rs β) : (Rs.ok a r).bind f = f a r := rfl
theorem bind_bad {α β : Type} (p c : Int) (f : α → List Tok → Rs β) : (Rs.bad p c : Rs α).bind f = .bad p c := rfl
def failC (ts : List Tok) : Int := if (hd ts).1 = 0 then 180 else 181
def fail {α : Type} (ts : List Tok) : Rs α := .bad (hd ts).2.1 (failC ts)
def meanB (t : Tok) : Bool := decide (t.1 = 3) || decide (t.1 = 5)
def isB (s : ByteArray) (ts : List Tok) : Bool := meanB (hd ts) && decide ((hd ts).2.2.1 = s)
def must (b : Bool) (ts : List Tok) : Rs Unit := if b = true then .ok () ts else fail ts
def need (s : ByteArray) (ts : List Tok) : Rs Unit := if isB s ts = true then .ok () ts.tail else fail ts
/-- Where a text stands in a row; -1: nowhere. -/
def findB (s : ByteArray) : List ByteArray → Int
  | [] => -1
  | x :: r => if s = x then 0 else (if findB s r < 0 then -1 else findB s r + 1)
def numIn (row : List ByteArray) (t : Tok) : Int := if meanB t = true then max (findB t.2.2.1 row) 0 else 0
def funcsR : List ByteArray := [⟨#[]⟩, ⟨#[114, 97, 116, 101]⟩, ⟨#[105, 110, 99, 114, 101, 97, 115, 101]⟩, ⟨#[100, 101, 108, 116, 97]⟩, ⟨#[115, 117, 109, 95, 111, 118, 101, 114, 95, 116, 105, 109, 101]⟩, ⟨#[97, 118, 103, 95, 111, 118, 101, 114, 95, 116, 105, 109, 101]⟩, ⟨#[109, 105, 110, 95, 111, 118, 101, 114, 95, 116, 105, 109, 101]⟩, ⟨#[109, 97, 120, 95, 111, 118, 101, 114, 95, 116, 105, 109, 101]⟩, ⟨#[99, 111, 117, 110, 116, 95, 111, 118, 101, 114, 95, 116, 105, 109, 101]⟩, ⟨#[108, 97, 115, 116, 95, 111, 118, 101, 114, 95, 116, 105, 109, 101]⟩, ⟨#[119, 97, 118, 101]⟩, ⟨#[97, 98, 115]⟩, ⟨#[102, 108, 111, 111, 114]⟩]
def aggsR : List ByteArray := [⟨#[]⟩, ⟨#[115, 117, 109]⟩, ⟨#[109, 105, 110]⟩, ⟨#[109, 97, 120]⟩, ⟨#[97, 118, 103]⟩, ⟨#[99, 111, 117, 110, 116]⟩]
def opsR : List ByteArray := [⟨#[]⟩, ⟨#[43]⟩, ⟨#[45]⟩, ⟨#[42]⟩, ⟨#[47]⟩, ⟨#[61, 61]⟩, ⟨#[33, 61]⟩, ⟨#[60]⟩, ⟨#[60, 61]⟩, ⟨#[62]⟩, ⟨#[62, 61]⟩, ⟨#[97, 110, 100]⟩, ⟨#[111, 114]⟩, ⟨#[117, 110, 108, 101, 115, 115]⟩]
def grpsR : List ByteArray := [⟨#[]⟩, ⟨#[98, 121]⟩, ⟨#[119, 105, 116, 104, 111, 117, 116]⟩, ⟨#[111, 110]⟩, ⟨#[105, 103, 110, 111, 114, 105, 110, 103]⟩]
def kindsR : List ByteArray := [⟨#[]⟩, ⟨#[61]⟩, ⟨#[33, 61]⟩, ⟨#[61, 126]⟩, ⟨#[33, 126]⟩]
def boolS : ByteArray := ⟨#[98, 111, 111, 108]⟩
def offS : ByteArray := ⟨#[111, 102, 102, 115, 101, 116]⟩
def nameS : ByteArray := ⟨#[95, 95, 110, 97, 109, 101, 95, 95]⟩
/-- The number of what is here, if it may be; and what is then ahead. -/
def takeN (row : List ByteArray) (may : List Int) (ts : List Tok) : Int := if may.contains (numIn row (hd ts)) = true then numIn row (hd ts) else 0
def takeR (row : List ByteArray) (may : List Int) (ts : List Tok) : List Tok := if may.contains (numIn row (hd ts)) = true then ts.tail else ts
def labC (c : Int) : Bool := letB c || digB c
def nameB (s : ByteArray) : Bool := decide (1 ≤ s.size) && decide (s.size ≤ 64) && (sInts s).all labC && !digB (byteAt s 0)
def lname (ts : List Tok) : Rs ByteArray := if (decide ((hd ts).1 = 3) && nameB (hd ts).2.2.1) = true then .ok (hd ts).2.2.1 ts.tail else fail ts
def moreR {α : Type} (step : α → List Tok → Rs α) (closes : ByteArray) : Nat → α → List Tok → Rs α
  | 0, _, _ => .out
  | f + 1, a, ts => if isB ⟨#[44]⟩ ts = true then (step a ts.tail).bind (moreR step closes f) else (need closes ts).bind fun _ r => .ok a r
def listR {α : Type} (step : α → List Tok → Rs α) (opens closes : ByteArray) (f : Nat) (a : α) (ts : List Tok) : Rs α :=
  (need opens ts).bind fun _ r => if isB closes r = true then .ok a r.tail else (step a r).bind (moreR step closes f)
def nstep (ns : List ByteArray) (ts : List Tok) : Rs (List ByteArray) := (lname ts).bind fun s r => .ok (ns ++ [s]) r
def groupR (f : Nat) (may : List Int) (ts : List Tok) : Rs (Int × List ByteArray) :=
  if takeN grpsR may ts = 0 then .ok (0, []) (takeR grpsR may ts) else (listR nstep ⟨#[40]⟩ ⟨#[41]⟩ f [] (takeR grpsR may ts)).bind fun ns r => .ok (takeN grpsR may ts, ns) r
def matB (m : Mt) : Bool := decide (1 ≤ m.1) && decide (m.1 ≤ 4) && nameB m.2.1 && decide (m.2.2.size ≤ 256)
def matsB (ms : List Mt) : Bool := decide (ms.length ≤ 8) && ms.all matB
def withR (ms : List Mt) (k : Int) (n : ByteArray) (ts : List Tok) : Rs (List Mt) :=
  if matsB (ms ++ [(k, n, (hd ts).2.2.1)]) = true then .ok (ms ++ [(k, n, (hd ts).2.2.1)]) ts.tail else .bad (hd ts).2.1 183
def questR (ts : List Tok) : Rs (Int × ByteArray) := (lname ts).bind fun s r =>
  (must (!decide (numIn kindsR (hd r) = 0)) r).bind fun _ _ => (must (decide ((hd r.tail).1 = 4)) r.tail).bind fun _ r2 => .ok (numIn kindsR (hd r), s) r2
def mstep (ms : List Mt) (ts : List Tok) : Rs (List Mt) := (questR ts).bind fun q r => withR ms q.1 q.2 r
def keptB (t : Tok) : Bool := !decide (numIn funcsR t = 0) || (!decide (numIn aggsR t = 0) || (!decide (numIn opsR t = 0) || (!decide (numIn grpsR t = 0) || (decide (t.2.2.1 = boolS) || decide (t.2.2.1 = offS)))))
def matchR (f : Nat) (ts : List Tok) : Rs (List Mt) :=
  if (decide ((hd ts).1 = 3) && !keptB (hd ts)) = true then
    (withR [] 1 nameS ts).bind fun ms r => if isB ⟨#[123]⟩ r = true then listR mstep ⟨#[123]⟩ ⟨#[125]⟩ f ms r else .ok ms r
  else listR mstep ⟨#[123]⟩ ⟨#[125]⟩ f [] ts
def spanT (ts : List Tok) : Rs Int := if (hd ts).1 = 2 then .ok (hd ts).2.2.2 ts.tail else fail ts
def widthR (ts : List Tok) : Rs (Int × Int) :=
  if isB ⟨#[91]⟩ ts = true then (spanT ts.tail).bind fun w r => (need ⟨#[93]⟩ r).bind fun _ r => .ok (3, w) r else .ok (2, 0) ts
def backR (ts : List Tok) : Rs Int := if isB offS ts = true then spanT ts.tail else .ok 0 ts
def selR (f : Nat) (ts : List Tok) : Rs (List Nd) :=
  (matchR f ts).bind fun ms r => (widthR r).bind fun kw r => (backR r).bind fun b r => .ok [⟨kw.1, 0, ⟨#[]⟩, ms, kw.2, b, 0, [], false, 0⟩] r
/-- The operations of each level. -/
def rowOps : Nat → List Int
  | 0 => [12]
  | 1 => [11, 13]
  | 2 => [5, 6, 7, 8, 9, 10]
  | 3 => [1, 2]
  | _ => [3, 4]
def boolN (op : Int) (ts : List Tok) : Bool := (decide (5 ≤ op) && decide (op ≤ 10)) && isB boolS ts
def boolR (op : Int) (ts : List Tok) : List Tok := if boolN op ts = true then ts.tail else ts
def negN : Nd := ⟨7, 0, ⟨#[]⟩, [], 0, 0, 0, [], false, 1⟩
def numN (t : ByteArray) : Nd := ⟨1, 0, t, [], 0, 0, 0, [], false, 0⟩
def callN (k : Int) : Nd := ⟨4, k, ⟨#[]⟩, [], 0, 0, 0, [], false, 1⟩
def aggN (k g : Int) (ns : List ByteArray) : Nd := ⟨5, k, ⟨#[]⟩, [], 0, 0, g, ns, false, 1⟩
def binN (k : Int) (b : Bool) (g : Int) (ns : List ByteArray) : Nd := ⟨6, k, ⟨#[]⟩, [], 0, 0, g, ns, b, 2⟩
/-- What stands behind a sign of which 64 may be open. -/
def nestR (sign : ByteArray) (nest : Nat) (part : Nat → List Tok → Rs (List Nd)) (ts : List Tok) : Rs (List Nd) :=
  (must (isB sign ts) ts).bind fun _ _ => if nest = 64 then .bad (hd ts).2.1 182 else part (nest + 1) ts.tail
def brackR (nest : Nat) (part : Nat → List Tok → Rs (List Nd)) (ts : List Tok) : Rs (List Nd) :=
  (nestR ⟨#[40]⟩ nest part ts).bind fun a r => (need ⟨#[41]⟩ r).bind fun _ r => .ok a r
def oneR (F : Nat) (nest : Nat) (part : Nat → List Tok → Rs (List Nd)) (ts : List Tok) : Rs (List Nd) :=
  if (hd ts).1 = 1 then .ok [numN (hd ts).2.2.1] ts.tail
  else if isB ⟨#[40]⟩ ts = true then brackR nest part ts
  else if numIn funcsR (hd ts) ≠ 0 then (brackR nest part ts.tail).bind fun a r => .ok (a ++ [callN (numIn funcsR (hd ts))]) r
  else if numIn aggsR (hd ts) ≠ 0 then (groupR F [1, 2] ts.tail).bind fun g r => (brackR nest part r).bind fun a r => .ok (a ++ [aggN (numIn aggsR (hd ts)) g.1 g.2]) r
  else selR F ts
/-- A level of the grammar (0 to 4: or, and, comparison, sum, term; 5: unary; 6: one; 7 to 11: what is behind the first part of a row). -/
def P : Nat → Nat → Nat → List Tok → Rs (List Nd)
  | 0, _, _, _ => .out
  | f + 1, lv, nest, ts =>
    if lv < 5 then (P f (lv + 1) nest ts).bind fun a r => (P f (lv + 7) nest r).bind fun b r => .ok (a ++ b) r
    else if lv = 5 then
      (if isB ⟨#[45]⟩ ts = true then (nestR ⟨#[45]⟩ nest (P f 5) ts).bind fun a r => .ok (a ++ [negN]) r else P f 6 nest ts)
    else if lv = 6 then oneR 5000 nest (P f 0) ts
    else if takeN opsR (rowOps (lv - 7)) ts = 0 then .ok [] ts
    else (groupR 5000 [3, 4] (boolR (takeN opsR (rowOps (lv - 7)) ts) (takeR opsR (rowOps (lv - 7)) ts))).bind fun g r =>
      (P f (lv - 6) nest r).bind fun a r2 => (P f lv nest r2).bind fun b r3 =>
        .ok (a ++ [binN (takeN opsR (rowOps (lv - 7)) ts) (boolN (takeN opsR (rowOps (lv - 7)) ts) (takeR opsR (rowOps (lv - 7)) ts)) g.1 g.2] ++ b) r3
/-- What Parse tells. -/
inductive Pr where
  | ok (ns : List Nd)
  | bad (p c : Int)
def endR (x : Rs (List Nd)) : Pr :=
  match x with
  | .ok a r => if (hd r).1 = 0 then .ok a else .bad (hd r).2.1 181
  | .bad p c => .bad p c
  | .out => .bad 0 0
def parseT (ts : List Tok) : Pr := endR (P (8 * ts.length + 8) 0 0 ts)
def parseR (s : ByteArray) : Pr :=
  match lexR s with
  | .ok ts => parseT ts
  | .bad p c => .bad (p : Int) c
end Go.Proofs.Ytnimdngiejcljaa

/- The parser, as maths: it comes to an end, and reads on. -/
namespace Go.Proofs.Ytnimdngiejcljaa
open Go.RowKit
set_option linter.unusedVariables false
set_option linter.unusedSimpArgs false
set_option maxRecDepth 20000

/-- It is not out, and what is ahead has become no longer. -/
def Rs.fine {α : Type} (x : Rs α) (n : Nat) : Prop :=
  match x with
  | .ok _ r => r.length ≤ n
  | .bad _ _ => True
  | .out => False
theorem fine_bind {α β : Type} {x : Rs α} {f : α → List Tok → Rs β} {n : Nat} (h : x.fine n) (hf : ∀ a r, x = .ok a r → r.length ≤ n → (f a r).fine n) : (x.bind f).fine n := by
  cases x with
  | ok a r => exact hf a r rfl h
  | bad p c => trivial
  | out => exact h.elim
theorem fine_mono {α : Type} {x : Rs α} {m n : Nat} (h : x.fine m) (hmn : m ≤ n) : x.fine n := by
  cases x with
  | ok a r => exact Nat.le_trans h hmn
  | bad p c => trivial
  | out => exact h.elim
theorem fine_ne {α : Type} {x : Rs α} {n : Nat} (h : x.fine n) : x ≠ .out := by
  intro e; rw [e] at h; exact h
theorem fail_fine {α : Type} (ts : List Tok) (n : Nat) : (fail ts : Rs α).fine n := trivial
theorem tail_le (ts : List Tok) : ts.tail.length ≤ ts.length := by rw [List.length_tail]; omega
theorem isB_ne {s : ByteArray} {ts : List Tok} (h : isB s ts = true) : ts.tail.length < ts.length := by
  cases ts with
  | nil => simp [isB, hd, meanB] at h
  | cons t r => simp
theorem hd_ne {ts : List Tok} (h : (hd ts).1 ≠ 0) : ts.tail.length < ts.length := by
  cases ts with
  | nil => exact absurd rfl h
  | cons t r => simp
theorem need_fine (s : ByteArray) (ts : List Tok) : (need s ts).fine ts.length := by
  unfold need
  split
  · exact tail_le ts
  · exact fail_fine _ _
theorem must_fine (b : Bool) (ts : List Tok) : (must b ts).fine ts.length := by
  unfold must
  split
  · exact Nat.le_refl _
  · exact fail_fine _ _
theorem lname_fine (ts : List Tok) : (lname ts).fine ts.length := by
  unfold lname
  split
  · exact tail_le ts
  · exact fail_fine _ _
theorem nstep_fine (ns : List ByteArray) (ts : List Tok) : (nstep ns ts).fine ts.length := fine_bind (lname_fine ts) fun a r _ h => h
theorem moreR_fine {α : Type} {step : α → List Tok → Rs α} {closes : ByteArray} (hs : ∀ a ts, (step a ts).fine ts.length) : ∀ (f : Nat) (a : α) (ts : List Tok), ts.length < f → (moreR step closes f a ts).fine ts.length := by
  intro f
  induction f with
  | zero => intro a ts h; omega
  | succ f ih =>
    intro a ts h
    unfold moreR
    split
    · rename_i hb
      have hl := isB_ne hb
      exact fine_mono (fine_bind (hs a ts.tail) fun a2 r _ h2 => fine_mono (ih a2 r (by omega)) h2) (by omega)
    · exact fine_bind (need_fine closes ts) fun _ r _ h => h
theorem listR_fine {α : Type} {step : α → List Tok → Rs α} {opens closes : ByteArray} (hs : ∀ a ts, (step a ts).fine ts.length) (f : Nat) (a : α) (ts : List Tok) (h : ts.length < f) : (listR step opens closes f a ts).fine ts.length := by
  unfold listR
  refine fine_bind (need_fine opens ts) fun _ r _ hr => ?_
  split
  · exact Nat.le_trans (tail_le r) hr
  · exact fine_mono (fine_bind (hs a r) fun a2 r2 _ h2 => fine_mono (moreR_fine hs f a2 r2 (by omega)) h2) hr
theorem takeR_le (row : List ByteArray) (may : List Int) (ts : List Tok) : (takeR row may ts).length ≤ ts.length := by
  unfold takeR
  split
  · exact tail_le ts
  · exact Nat.le_refl _
theorem groupR_fine {f : Nat} {may : List Int} {ts : List Tok} (h : ts.length < f) : (groupR f may ts).fine ts.length := by
  have hl := takeR_le grpsR may ts
  unfold groupR
  split
  · exact hl
  · exact fine_mono (fine_bind (listR_fine nstep_fine f [] _ (by omega)) fun a r _ h => h) hl
theorem withR_fine (ms : List Mt) (k : Int) (n : ByteArray) (ts : List Tok) : (withR ms k n ts).fine ts.length := by
  unfold withR
  split
  · exact tail_le ts
  · trivial
theorem questR_fine (ts : List Tok) : (questR ts).fine ts.length := by
  unfold questR
  refine fine_bind (lname_fine ts) fun s r _ hr => ?_
  refine fine_bind (n := ts.length) (fine_mono (must_fine _ r) hr) fun _ _ _ _ => ?_
  refine fine_bind (fine_mono (must_fine _ r.tail) (by have := tail_le r; omega)) fun _ r2 _ h2 => h2
theorem mstep_fine (ms : List Mt) (ts : List Tok) : (mstep ms ts).fine ts.length :=
  fine_bind (questR_fine ts) fun q r _ h => fine_mono (withR_fine _ _ _ r) h
theorem matchR_fine {f : Nat} {ts : List Tok} (h : ts.length < f) : (matchR f ts).fine ts.length := by
  unfold matchR
  split
  · refine fine_bind (withR_fine _ _ _ ts) fun ms r _ hr => ?_
    split
    · exact fine_mono (listR_fine mstep_fine f ms r (by omega)) hr
    · exact hr
  · exact listR_fine mstep_fine f [] ts h
theorem spanT_fine (ts : List Tok) : (spanT ts).fine ts.length := by
  unfold spanT
  split
  · exact tail_le ts
  · exact fail_fine _ _
theorem widthR_fine (ts : List Tok) : (widthR ts).fine ts.length := by
  unfold widthR
  split
  · refine fine_mono (fine_bind (spanT_fine ts.tail) fun w r _ hr => ?_) (tail_le ts)
    exact fine_mono (fine_bind (need_fine _ r) fun _ r2 _ h2 => h2) hr
  · exact Nat.le_refl _
theorem backR_fine (ts : List Tok) : (backR ts).fine ts.length := by
  unfold backR
  split
  · exact fine_mono (spanT_fine _) (tail_le ts)
  · exact Nat.le_refl _
theorem selR_fine {f : Nat} {ts : List Tok} (h : ts.length < f) : (selR f ts).fine ts.length :=
  fine_bind (matchR_fine h) fun ms r _ hr => fine_mono (fine_bind (widthR_fine r) fun kw r2 _ h2 => fine_mono (fine_bind (backR_fine r2) fun b r3 _ h3 => h3) h2) hr
end Go.Proofs.Ytnimdngiejcljaa

/- The parser, as maths: its levels come to an end; how many nodes there are. -/
namespace Go.Proofs.Ytnimdngiejcljaa
open Go.RowKit
set_option linter.unusedVariables false
set_option linter.unusedSimpArgs false
set_option maxRecDepth 20000

/-- So many nodes and tokens at most. -/
def Rs.few (x : Rs (List Nd)) (n : Nat) : Prop :=
  match x with
  | .ok a r => a.length + r.length ≤ n
  | .bad _ _ => True
  | .out => True
theorem few_mono {x : Rs (List Nd)} {m n : Nat} (h : x.few m) (hmn : m ≤ n) : x.few n := by
  cases x with
  | ok a r => exact Nat.le_trans h hmn
  | bad p c => trivial
  | out => trivial
theorem few_bind {α : Type} {x : Rs α} {f : α → List Tok → Rs (List Nd)} {n : Nat} (hf : ∀ a r, x = .ok a r → (f a r).few n) : (x.bind f).few n := by
  cases x with
  | ok a r => exact hf a r rfl
  | bad p c => trivial
  | out => trivial
theorem few_two {x : Rs (List Nd)} {f : List Nd → List Tok → Rs (List Nd)} {m n : Nat} (h : x.few m) (hf : ∀ a r, x = .ok a r → a.length + r.length ≤ m → (f a r).few n) : (x.bind f).few n := by
  cases x with
  | ok a r => exact hf a r rfl h
  | bad p c => trivial
  | out => trivial
theorem fine_ok {α : Type} {x : Rs α} {n : Nat} {a : α} {r : List Tok} (h : x.fine n) (e : x = .ok a r) : r.length ≤ n := by rw [e] at h; exact h
theorem need_less {s : ByteArray} {ts r : List Tok} {u : Unit} (h : need s ts = .ok u r) : r.length < ts.length := by
  unfold need at h
  split at h
  · rename_i hb
    cases h
    exact isB_ne hb
  · cases h
theorem lname_less {ts r : List Tok} {s : ByteArray} (h : lname ts = .ok s r) : r.length < ts.length := by
  unfold lname at h
  split at h
  · rename_i hb
    cases h
    simp only [Bool.and_eq_true, decide_eq_true_eq] at hb
    exact hd_ne (by rw [hb.1]; decide)
  · cases h
theorem nestR_few {sign : ByteArray} {nest : Nat} {X : Nat → List Tok → Rs (List Nd)} {ts : List Tok} (hX : ∀ n us, us.length < 5000 → (X n us).few us.length) (hl5 : ts.length < 5000) : (nestR sign nest X ts).few (ts.length - 1) := by
  unfold nestR must
  split
  · rename_i hb
    rw [bind_ok]
    split
    · trivial
    · have := hX (nest + 1) ts.tail (by have := tail_le ts; omega)
      rw [List.length_tail] at this
      exact this
  · trivial
theorem brackR_few {nest : Nat} {X : Nat → List Tok → Rs (List Nd)} {ts : List Tok} (hX : ∀ n us, us.length < 5000 → (X n us).few us.length) (hl5 : ts.length < 5000) : (brackR nest X ts).few (ts.length - 1) := by
  unfold brackR
  refine few_two (nestR_few hX hl5) fun a r _ h => few_bind fun u r2 h2 => ?_
  have := need_less h2
  show a.length + r2.length ≤ _
  omega
theorem numIn_less {row : List ByteArray} {ts : List Tok} (h : numIn row (hd ts) ≠ 0) : ts.tail.length < ts.length := hd_ne (fun e => h (by
  unfold numIn meanB
  rw [e]
  rfl))
theorem withR_less {ms : List Mt} {k : Int} {n : ByteArray} {ts r : List Tok} {ms2 : List Mt} (h : withR ms k n ts = .ok ms2 r) (h0 : (hd ts).1 ≠ 0) : r.length < ts.length := by
  unfold withR at h
  split at h
  · cases h
    exact hd_ne h0
  · cases h
theorem listR_less {α : Type} {step : α → List Tok → Rs α} {opens closes : ByteArray} (hs : ∀ a ts, (step a ts).fine ts.length) {f : Nat} {a a2 : α} {ts r : List Tok} (hf : ts.length < f) (h : listR step opens closes f a ts = .ok a2 r) : r.length < ts.length := by
  unfold listR at h
  cases hn : need opens ts with
  | bad q c => rw [hn, bind_bad] at h; cases h
  | out => rw [hn] at h; cases h
  | ok u r1 =>
    have h1 := need_less hn
    rw [hn, bind_ok] at h
    split at h
    · rename_i hb
      have := isB_ne hb
      cases h
      omega
    · have h2 := fine_mono (fine_bind (hs a r1) fun a3 r3 _ h3 => fine_mono (moreR_fine (closes := closes) hs f a3 r3 (by omega)) h3) (Nat.le_refl _)
      have := fine_ok h2 h
      omega
theorem matchR_less {f : Nat} {ts r : List Tok} {ms : List Mt} (hf : ts.length < f) (h : matchR f ts = .ok ms r) : r.length < ts.length := by
  unfold matchR at h
  split at h
  · rename_i hb
    simp only [Bool.and_eq_true, decide_eq_true_eq] at hb
    cases hw : withR [] 1 nameS ts with
    | bad q c => rw [hw, bind_bad] at h; cases h
    | out => rw [hw] at h; cases h
    | ok m1 r1 =>
      have h1 := withR_less hw (by rw [hb.1]; decide)
      rw [hw, bind_ok] at h
      split at h
      · have := listR_less mstep_fine (by omega) h
        omega
      · cases h; exact h1
  · exact listR_less mstep_fine hf h
theorem selR_few {f : Nat} {ts : List Tok} (hf : ts.length < f) : (selR f ts).few ts.length := by
  unfold selR
  refine few_bind fun ms r h1 => few_bind fun kw r2 h2 => few_bind fun b r3 h3 => ?_
  have l1 := matchR_less hf h1
  have l2 := fine_ok (widthR_fine r) h2
  have l3 := fine_ok (backR_fine r2) h3
  show 1 + r3.length ≤ _
  omega
theorem oneR_few {F nest : Nat} {X : Nat → List Tok → Rs (List Nd)} {ts : List Tok} (hF : ts.length < F) (hX : ∀ n us, us.length < 5000 → (X n us).few us.length) (hl5 : ts.length < 5000) : (oneR F nest X ts).few ts.length := by
  unfold oneR
  split
  · rename_i h
    have := hd_ne (ts := ts) (by rw [h]; decide)
    show 1 + ts.tail.length ≤ _
    omega
  · split
    · exact few_mono (brackR_few hX hl5) (by omega)
    · split
      · rename_i h
        have hl := numIn_less h
        refine few_two (brackR_few (nest := nest) (ts := ts.tail) hX (by omega)) fun a r _ h2 => ?_
        show (a ++ _).length + r.length ≤ _
        rw [List.length_append, List.length_singleton]
        omega
      · split
        · rename_i h
          have hl := numIn_less h
          refine few_bind fun g r h1 => few_two (brackR_few (nest := nest) (ts := r) hX (by have := fine_ok (groupR_fine (by omega)) h1; omega)) fun a r2 _ h2 => ?_
          have l1 := fine_ok (groupR_fine (by omega)) h1
          show (a ++ _).length + r2.length ≤ _
          rw [List.length_append, List.length_singleton]
          omega
        · exact selR_few hF
theorem P_succ (f lv nest : Nat) (ts : List Tok) : P (f + 1) lv nest ts =
    if lv < 5 then (P f (lv + 1) nest ts).bind fun a r => (P f (lv + 7) nest r).bind fun b r => .ok (a ++ b) r
    else if lv = 5 then
      (if isB ⟨#[45]⟩ ts = true then (nestR ⟨#[45]⟩ nest (P f 5) ts).bind fun a r => .ok (a ++ [negN]) r else P f 6 nest ts)
    else if lv = 6 then oneR 5000 nest (P f 0) ts
    else if takeN opsR (rowOps (lv - 7)) ts = 0 then .ok [] ts
    else (groupR 5000 [3, 4] (boolR (takeN opsR (rowOps (lv - 7)) ts) (takeR opsR (rowOps (lv - 7)) ts))).bind fun g r =>
      (P f (lv - 6) nest r).bind fun a r2 => (P f lv nest r2).bind fun b r3 =>
        .ok (a ++ [binN (takeN opsR (rowOps (lv - 7)) ts) (boolN (takeN opsR (rowOps (lv - 7)) ts) (takeR opsR (rowOps (lv - 7)) ts)) g.1 g.2] ++ b) r3 := rfl
theorem boolR_le (op : Int) (ts : List Tok) : (boolR op ts).length ≤ ts.length := by
  unfold boolR
  split
  · exact tail_le ts
  · exact Nat.le_refl _
theorem take_less {row : List ByteArray} {may : List Int} {ts : List Tok} (h : takeN row may ts ≠ 0) : (takeR row may ts).length < ts.length := by
  unfold takeN at h
  unfold takeR
  split at h
  · rename_i hc
    rw [if_pos hc]
    exact numIn_less h
  · exact absurd rfl h
/-- Longer texts than any: the inner loops' fuel is as good as none. -/
theorem P_few : ∀ (f lv nest : Nat) (ts : List Tok), ts.length < 5000 → (P f lv nest ts).few ts.length := by
  intro f
  induction f with
  | zero => intro lv nest ts _; trivial
  | succ f ih =>
    intro lv nest ts hl
    rw [P_succ]
    split
    · refine few_two (ih (lv + 1) nest ts hl) fun a r _ h1 => few_two (ih (lv + 7) nest r (by omega)) fun b r2 _ h2 => ?_
      show (a ++ b).length + r2.length ≤ _
      rw [List.length_append]
      omega
    · split
      · split
        · rename_i hb
          have hlt := isB_ne hb
          unfold nestR must
          split
          · rw [bind_ok]
            split
            · trivial
            · refine few_two (ih 5 (nest + 1) ts.tail (by omega)) fun a r _ h2 => ?_
              show (a ++ _).length + r.length ≤ _
              rw [List.length_append, List.length_singleton]
              omega
          · trivial
        · exact ih 6 nest ts hl
      · split
        · have hX : ∀ n us, us.length < 5000 → (P f 0 n us).few us.length := fun n us h => ih 0 n us h
          exact oneR_few hl hX hl
        · split
          · show 0 + ts.length ≤ _
            omega
          · rename_i hne
            have hlt := take_less hne
            have hb := boolR_le (takeN opsR (rowOps (lv - 7)) ts) (takeR opsR (rowOps (lv - 7)) ts)
            refine few_bind fun g r h1 => few_two (ih (lv - 6) nest r ?_) fun a r2 _ h2 => few_two (ih lv nest r2 ?_) fun b r3 _ h3 => ?_
            · have := fine_ok (groupR_fine (by omega)) h1
              omega
            · have := fine_ok (groupR_fine (by omega)) h1
              omega
            · have := fine_ok (groupR_fine (by omega)) h1
              show (a ++ _ ++ b).length + r3.length ≤ _
              rw [List.length_append, List.length_append, List.length_singleton]
              omega
end Go.Proofs.Ytnimdngiejcljaa

/- The parser, as maths: enough fuel. -/
namespace Go.Proofs.Ytnimdngiejcljaa
open Go.RowKit
set_option linter.unusedVariables false
set_option linter.unusedSimpArgs false
set_option maxRecDepth 20000

theorem nestR_fine {sign : ByteArray} {nest : Nat} {X : Nat → List Tok → Rs (List Nd)} {ts : List Tok} (hX : ∀ us, us.length < ts.length → (X (nest + 1) us).fine us.length) : (nestR sign nest X ts).fine ts.length := by
  unfold nestR must
  split
  · rename_i hb
    rw [bind_ok]
    split
    · trivial
    · have hlt := isB_ne hb
      exact fine_mono (hX _ hlt) (by omega)
  · trivial
theorem brackR_fine {nest : Nat} {X : Nat → List Tok → Rs (List Nd)} {ts : List Tok} (hX : ∀ us, us.length < ts.length → (X (nest + 1) us).fine us.length) : (brackR nest X ts).fine ts.length := by
  unfold brackR
  exact fine_bind (nestR_fine hX) fun a r _ h => fine_mono (fine_bind (need_fine _ r) fun _ r2 _ h2 => h2) h
theorem oneR_fine {F nest : Nat} {X : Nat → List Tok → Rs (List Nd)} {ts : List Tok} (hF : ts.length < F) (hX : ∀ us, us.length < ts.length → (X (nest + 1) us).fine us.length) : (oneR F nest X ts).fine ts.length := by
  unfold oneR
  split
  · exact tail_le ts
  · split
    · exact brackR_fine hX
    · split
      · rename_i h
        have hl := numIn_less h
        exact fine_mono (fine_bind (brackR_fine (nest := nest) (ts := ts.tail) fun us hu => hX us (by omega)) fun a r _ h2 => h2) (by omega)
      · split
        · rename_i h
          have hl := numIn_less h
          refine fine_mono (n := ts.length) (fine_bind (groupR_fine (f := F) (ts := ts.tail) (by omega)) fun g r _ h1 => ?_) (by omega)
          exact fine_mono (fine_bind (brackR_fine (nest := nest) (ts := r) fun us hu => hX us (by omega)) fun a r2 _ h2 => h2) h1
        · exact selR_fine hF
def fuelN (lv n : Nat) : Nat := if lv < 7 then 8 * n + (8 - lv) else 8 * n + 1
theorem P_fine : ∀ (f lv nest : Nat) (ts : List Tok), lv ≤ 11 → ts.length < 5000 → fuelN lv ts.length ≤ f → (P f lv nest ts).fine ts.length := by
  intro f
  induction f with
  | zero => intro lv nest ts h1 h2 h3; unfold fuelN at h3; split at h3 <;> omega
  | succ f ih =>
    intro lv nest ts h1 h2 h3
    unfold fuelN at h3
    rw [P_succ]
    split
    · rename_i hlv
      rw [if_pos (by omega)] at h3
      refine fine_bind (ih (lv + 1) nest ts (by omega) h2 (by unfold fuelN; rw [if_pos (by omega)]; omega)) fun a r _ hr => ?_
      exact fine_mono (fine_bind (ih (lv + 7) nest r (by omega) (by omega) (by unfold fuelN; rw [if_neg (by omega)]; omega)) fun b r2 _ h4 => h4) hr
    · split
      · rename_i hn hlv
        rw [if_pos (by omega)] at h3
        split
        · exact fine_bind (nestR_fine fun us hu => ih 5 (nest + 1) us (by omega) (by omega) (by unfold fuelN; rw [if_pos (by omega)]; omega)) fun a r _ h => h
        · exact ih 6 nest ts (by omega) h2 (by unfold fuelN; rw [if_pos (by omega)]; omega)
      · split
        · rename_i hn hn5 hlv
          rw [if_pos (by omega)] at h3
          exact oneR_fine h2 fun us hu => ih 0 (nest + 1) us (by omega) (by omega) (by unfold fuelN; rw [if_pos (by omega)]; omega)
        · rename_i hn hn5 hn6
          rw [if_neg (by omega)] at h3
          split
          · exact Nat.le_refl _
          · rename_i hne
            have hlt := take_less hne
            have hb := boolR_le (takeN opsR (rowOps (lv - 7)) ts) (takeR opsR (rowOps (lv - 7)) ts)
            refine fine_mono (m := (boolR (takeN opsR (rowOps (lv - 7)) ts) (takeR opsR (rowOps (lv - 7)) ts)).length) (fine_bind (groupR_fine (by omega)) fun g r _ hr => ?_) (by omega)
            refine fine_mono (fine_bind (ih (lv - 6) nest r (by omega) (by omega) (by unfold fuelN; rw [if_pos (by omega)]; omega)) fun a r2 _ hr2 => ?_) hr
            exact fine_mono (fine_bind (ih lv nest r2 h1 (by omega) (by unfold fuelN; rw [if_neg (by omega)]; omega)) fun b r3 _ h4 => h4) hr2
end Go.Proofs.Ytnimdngiejcljaa

/- A scope in which the run jumps to several labels. -/
namespace Go.Proofs.Ytnimdngiejcljaa
open Go.RowKit
set_option linter.unusedVariables false

/-- As Q; by a goto to a label l: J l. -/
def jumps (J : Nat → Act → World → Prop) (Q : Exit → Act → World → Prop) : Exit → Act → World → Prop
  | .goto l, a, w => J l a w
  | e, a, w => Q e a w
theorem jumps_mono {P : Program} {J J' : Nat → Act → World → Prop} {Q : Exit → Act → World → Prop} (h : ∀ l a w, J l a w → J' l a w) {c : Code} {a : Act} {w : World} (hc : c.wp P (jumps J Q) a w) : c.wp P (jumps J' Q) a w := by
  refine Code.wp_mono (fun e a' w' q => ?_) hc
  cases e with
  | goto l => exact h l a' w' q
  | _ => exact q
theorem wp_scope_many {P : Program} {a : Act} {w : World} {Q : Exit → Act → World → Prop} {c : Code} (rest : Nat → Code) (J : Nat → Act → World → Prop) (μ : Nat → Act → World → Nat) (hf : ∀ l a w, J l a w → findLabel c l = some (rest l))
    (first : c.wp P (jumps J Q) a w)
    (pass : ∀ l a w, J l a w → (rest l).wp P (jumps (fun l' a' w' => J l' a' w' ∧ μ l' a' w' < μ l a w) Q) a w) : (Code.scope c).wp P Q a w := by
  intro b k cs
  have hg : ∀ l a w, J l a w → gotoIn l (.inScope c :: k) = some (.code (rest l) :: .inScope c :: k) := fun l a w h => by simp [gotoIn, hf l a w h]
  have key : ∀ n l a w, μ l a w = n → J l a w → ∃ e a' w', Q e a' w' ∧ Arrives P (lone (b.at a (.code (rest l) :: .inScope c :: k)) cs w) b k cs e a' w' := by
    intro n
    induction n using Nat.strongRecOn with
    | _ n ih =>
      intro l a w hn hJ
      obtain ⟨e, a₁, w₁, hq, harr⟩ := pass l a w hJ b (.inScope c :: k) cs
      cases e with
      | normal => exact ⟨.normal, a₁, w₁, hq, Steps.trans harr (.one step_inScope)⟩
      | exit id => exact ⟨.exit id, a₁, w₁, hq, fun k' hk => harr k' (by simp [exitTo, hk])⟩
      | goto l' =>
        obtain ⟨hJ', hlt⟩ := hq
        obtain ⟨e₂, a₂, w₂, hq₂, harr₂⟩ := ih _ (by omega) l' a₁ w₁ rfl hJ'
        exact ⟨e₂, a₂, w₂, hq₂, .of_steps (harr _ (hg _ _ _ hJ')) harr₂⟩
      | ret => exact ⟨_, a₁, w₁, hq, harr⟩
      | panic ch => exact ⟨_, a₁, w₁, hq, harr⟩
      | outgrown => exact ⟨_, a₁, w₁, hq, harr⟩
  obtain ⟨e, a₁, w₁, hq, harr⟩ := first b (.inScope c :: k) cs
  cases e with
  | normal => exact ⟨.normal, a₁, w₁, hq, .head step_scope (Steps.trans harr (.one step_inScope))⟩
  | exit id => exact ⟨.exit id, a₁, w₁, hq, fun k' hk => .head step_scope (harr k' (by simp [exitTo, hk]))⟩
  | goto l' =>
    obtain ⟨e₂, a₂, w₂, hq₂, harr₂⟩ := key _ l' a₁ w₁ rfl hq
    exact ⟨e₂, a₂, w₂, hq₂, .of_steps (.head step_scope (harr _ (hg _ _ _ hq))) harr₂⟩
  | ret => exact ⟨_, a₁, w₁, hq, .of_steps (.one step_scope) harr⟩
  | panic ch => exact ⟨_, a₁, w₁, hq, .of_steps (.one step_scope) harr⟩
  | outgrown => exact ⟨_, a₁, w₁, hq, .of_steps (.one step_scope) harr⟩
/-- What is asked of a pass: behind a jump the label's state, and the measure below m. -/
def onto (J : Nat → Act → World → Prop) (μ : Nat → Act → World → Nat) (m : Nat) (Q : Exit → Act → World → Prop) : Exit → Act → World → Prop := jumps (fun l' a' w' => J l' a' w' ∧ μ l' a' w' < m) Q
def into (J : Nat → Act → World → Prop) (Q : Exit → Act → World → Prop) : Exit → Act → World → Prop := jumps J Q
theorem onto_le {P : Program} {J : Nat → Act → World → Prop} {μ : Nat → Act → World → Nat} {m n : Nat} {Q : Exit → Act → World → Prop} {c : Code} {a : Act} {w : World} (hn : m ≤ n) (h : c.wp P (onto J μ m Q) a w) : c.wp P (onto J μ n Q) a w :=
  jumps_mono (fun l a w h => ⟨h.1, Nat.lt_of_lt_of_le h.2 hn⟩) h
def upon (a : Act) : Nat → Value := fun i => a.tmps.toList.getD i undef
def sel1 {α : Sort _} (x0 z : α) : Nat → α
  | 0 => x0
  | _ => z
def sel4 {α : Sort _} (x0 x1 x2 x3 z : α) : Nat → α
  | 0 => x0
  | 1 => x1
  | 2 => x2
  | 3 => x3
  | _ => z
def sel6 {α : Sort _} (x0 x1 x2 x3 x4 x5 z : α) : Nat → α
  | 0 => x0
  | 1 => x1
  | 2 => x2
  | 3 => x3
  | 4 => x4
  | 5 => x5
  | _ => z
theorem wp_scope_word {P : Program} {a : Act} {w : World} {Q : Exit → Act → World → Prop} {c r0 : Code} (J0 : Act → World → Prop) (μ0 : Act → World → Nat)
    (h0 : findLabel c 0 = some (Code.skip.seq r0))
    (p0 : ∀ a w, J0 a w → r0.wp P (onto (sel1 J0 (fun _ _ => False)) (sel1 μ0 (fun _ _ => 0)) (μ0 a w) Q) a w)
    (first : (∀ a w, J0 a w → r0.wp P (into (sel1 J0 (fun _ _ => False)) Q) a w) → c.wp P (into (sel1 J0 (fun _ _ => False)) Q) a w) : (Code.scope c).wp P Q a w := by
  have q0 := p0
  refine wp_scope_many (sel1 (Code.skip.seq r0) Code.skip) (sel1 J0 (fun _ _ => False)) (sel1 μ0 (fun _ _ => 0)) ?_ (first fun a w h => jumps_mono (fun l a w h => h.1) (q0 a w h)) ?_
  · intro l a w h
    match l, h with
    | 0, _ => exact h0
    | n + 1, h => exact h.elim
  · intro l a w h
    match l, h with
    | 0, h => exact wp_seq (wp_skip (q0 a w h))
    | n + 1, h => exact h.elim
theorem wp_scope_text {P : Program} {a : Act} {w : World} {Q : Exit → Act → World → Prop} {c r0 r1 r2 r3 : Code} (J0 J1 J2 J3 : Act → World → Prop) (μ0 μ1 μ2 μ3 : Act → World → Nat)
    (h0 : findLabel c 0 = some (Code.skip.seq r0))
    (h1 : findLabel c 1 = some (Code.skip.seq r1))
    (h2 : findLabel c 2 = some (Code.skip.seq r2))
    (h3 : findLabel c 3 = some (Code.skip.seq r3))
    (p2 : ∀ a w, J2 a w → r2.wp P (onto (sel4 J0 J1 J2 J3 (fun _ _ => False)) (sel4 μ0 μ1 μ2 μ3 (fun _ _ => 0)) (μ2 a w) Q) a w)
    (p0 : (∀ n a w, J2 a w → μ2 a w ≤ n → r2.wp P (onto (sel4 J0 J1 J2 J3 (fun _ _ => False)) (sel4 μ0 μ1 μ2 μ3 (fun _ _ => 0)) n Q) a w) → ∀ a w, J0 a w → r0.wp P (onto (sel4 J0 J1 J2 J3 (fun _ _ => False)) (sel4 μ0 μ1 μ2 μ3 (fun _ _ => 0)) (μ0 a w) Q) a w)
    (p1 : (∀ n a w, J0 a w → μ0 a w ≤ n → r0.wp P (onto (sel4 J0 J1 J2 J3 (fun _ _ => False)) (sel4 μ0 μ1 μ2 μ3 (fun _ _ => 0)) n Q) a w) → ∀ a w, J1 a w → r1.wp P (onto (sel4 J0 J1 J2 J3 (fun _ _ => False)) (sel4 μ0 μ1 μ2 μ3 (fun _ _ => 0)) (μ1 a w) Q) a w)
    (p3 : (∀ n a w, J1 a w → μ1 a w ≤ n → r1.wp P (onto (sel4 J0 J1 J2 J3 (fun _ _ => False)) (sel4 μ0 μ1 μ2 μ3 (fun _ _ => 0)) n Q) a w) → ∀ a w, J3 a w → r3.wp P (onto (sel4 J0 J1 J2 J3 (fun _ _ => False)) (sel4 μ0 μ1 μ2 μ3 (fun _ _ => 0)) (μ3 a w) Q) a w)
    (first : (∀ a w, J3 a w → r3.wp P (into (sel4 J0 J1 J2 J3 (fun _ _ => False)) Q) a w) → c.wp P (into (sel4 J0 J1 J2 J3 (fun _ _ => False)) Q) a w) : (Code.scope c).wp P Q a w := by
  have q2 := p2
  have q0 := p0 (fun n a w h hn => onto_le hn (q2 a w h))
  have q1 := p1 (fun n a w h hn => onto_le hn (q0 a w h))
  have q3 := p3 (fun n a w h hn => onto_le hn (q1 a w h))
  refine wp_scope_many (sel4 (Code.skip.seq r0) (Code.skip.seq r1) (Code.skip.seq r2) (Code.skip.seq r3) Code.skip) (sel4 J0 J1 J2 J3 (fun _ _ => False)) (sel4 μ0 μ1 μ2 μ3 (fun _ _ => 0)) ?_ (first fun a w h => jumps_mono (fun l a w h => h.1) (q3 a w h)) ?_
  · intro l a w h
    match l, h with
    | 0, _ => exact h0
    | 1, _ => exact h1
    | 2, _ => exact h2
    | 3, _ => exact h3
    | n + 4, h => exact h.elim
  · intro l a w h
    match l, h with
    | 0, h => exact wp_seq (wp_skip (q0 a w h))
    | 1, h => exact wp_seq (wp_skip (q1 a w h))
    | 2, h => exact wp_seq (wp_skip (q2 a w h))
    | 3, h => exact wp_seq (wp_skip (q3 a w h))
    | n + 4, h => exact h.elim
theorem wp_scope_num {P : Program} {a : Act} {w : World} {Q : Exit → Act → World → Prop} {c r0 r1 r2 r3 r4 r5 : Code} (J0 J1 J2 J3 J4 J5 : Act → World → Prop) (μ0 μ1 μ2 μ3 μ4 μ5 : Act → World → Nat)
    (h0 : findLabel c 0 = some (Code.skip.seq r0))
    (h1 : findLabel c 1 = some (Code.skip.seq r1))
    (h2 : findLabel c 2 = some (Code.skip.seq r2))
    (h3 : findLabel c 3 = some (Code.skip.seq r3))
    (h4 : findLabel c 4 = some (Code.skip.seq r4))
    (h5 : findLabel c 5 = some (Code.skip.seq r5))
    (p1 : ∀ a w, J1 a w → r1.wp P (onto (sel6 J0 J1 J2 J3 J4 J5 (fun _ _ => False)) (sel6 μ0 μ1 μ2 μ3 μ4 μ5 (fun _ _ => 0)) (μ1 a w) Q) a w)
    (p4 : (∀ n a w, J1 a w → μ1 a w ≤ n → r1.wp P (onto (sel6 J0 J1 J2 J3 J4 J5 (fun _ _ => False)) (sel6 μ0 μ1 μ2 μ3 μ4 μ5 (fun _ _ => 0)) n Q) a w) → ∀ a w, J4 a w → r4.wp P (onto (sel6 J0 J1 J2 J3 J4 J5 (fun _ _ => False)) (sel6 μ0 μ1 μ2 μ3 μ4 μ5 (fun _ _ => 0)) (μ4 a w) Q) a w)
    (p3 : (∀ n a w, J4 a w → μ4 a w ≤ n → r4.wp P (onto (sel6 J0 J1 J2 J3 J4 J5 (fun _ _ => False)) (sel6 μ0 μ1 μ2 μ3 μ4 μ5 (fun _ _ => 0)) n Q) a w) → ∀ a w, J3 a w → r3.wp P (onto (sel6 J0 J1 J2 J3 J4 J5 (fun _ _ => False)) (sel6 μ0 μ1 μ2 μ3 μ4 μ5 (fun _ _ => 0)) (μ3 a w) Q) a w)
    (p5 : (∀ n a w, J3 a w → μ3 a w ≤ n → r3.wp P (onto (sel6 J0 J1 J2 J3 J4 J5 (fun _ _ => False)) (sel6 μ0 μ1 μ2 μ3 μ4 μ5 (fun _ _ => 0)) n Q) a w) → ∀ a w, J5 a w → r5.wp P (onto (sel6 J0 J1 J2 J3 J4 J5 (fun _ _ => False)) (sel6 μ0 μ1 μ2 μ3 μ4 μ5 (fun _ _ => 0)) (μ5 a w) Q) a w)
    (p2 : (∀ n a w, J5 a w → μ5 a w ≤ n → r5.wp P (onto (sel6 J0 J1 J2 J3 J4 J5 (fun _ _ => False)) (sel6 μ0 μ1 μ2 μ3 μ4 μ5 (fun _ _ => 0)) n Q) a w) → ∀ a w, J2 a w → r2.wp P (onto (sel6 J0 J1 J2 J3 J4 J5 (fun _ _ => False)) (sel6 μ0 μ1 μ2 μ3 μ4 μ5 (fun _ _ => 0)) (μ2 a w) Q) a w)
    (p0 : (∀ n a w, J2 a w → μ2 a w ≤ n → r2.wp P (onto (sel6 J0 J1 J2 J3 J4 J5 (fun _ _ => False)) (sel6 μ0 μ1 μ2 μ3 μ4 μ5 (fun _ _ => 0)) n Q) a w) → ∀ a w, J0 a w → r0.wp P (onto (sel6 J0 J1 J2 J3 J4 J5 (fun _ _ => False)) (sel6 μ0 μ1 μ2 μ3 μ4 μ5 (fun _ _ => 0)) (μ0 a w) Q) a w)
    (first : (∀ a w, J0 a w → r0.wp P (into (sel6 J0 J1 J2 J3 J4 J5 (fun _ _ => False)) Q) a w) → c.wp P (into (sel6 J0 J1 J2 J3 J4 J5 (fun _ _ => False)) Q) a w) : (Code.scope c).wp P Q a w := by
  have q1 := p1
  have q4 := p4 (fun n a w h hn => onto_le hn (q1 a w h))
  have q3 := p3 (fun n a w h hn => onto_le hn (q4 a w h))
  have q5 := p5 (fun n a w h hn => onto_le hn (q3 a w h))
  have q2 := p2 (fun n a w h hn => onto_le hn (q5 a w h))
  have q0 := p0 (fun n a w h hn => onto_le hn (q2 a w h))
  refine wp_scope_many (sel6 (Code.skip.seq r0) (Code.skip.seq r1) (Code.skip.seq r2) (Code.skip.seq r3) (Code.skip.seq r4) (Code.skip.seq r5) Code.skip) (sel6 J0 J1 J2 J3 J4 J5 (fun _ _ => False)) (sel6 μ0 μ1 μ2 μ3 μ4 μ5 (fun _ _ => 0)) ?_ (first fun a w h => jumps_mono (fun l a w h => h.1) (q0 a w h)) ?_
  · intro l a w h
    match l, h with
    | 0, _ => exact h0
    | 1, _ => exact h1
    | 2, _ => exact h2
    | 3, _ => exact h3
    | 4, _ => exact h4
    | 5, _ => exact h5
    | n + 6, h => exact h.elim
  · intro l a w h
    match l, h with
    | 0, h => exact wp_seq (wp_skip (q0 a w h))
    | 1, h => exact wp_seq (wp_skip (q1 a w h))
    | 2, h => exact wp_seq (wp_skip (q2 a w h))
    | 3, h => exact wp_seq (wp_skip (q3 a w h))
    | 4, h => exact wp_seq (wp_skip (q4 a w h))
    | 5, h => exact wp_seq (wp_skip (q5 a w h))
    | n + 6, h => exact h.elim
theorem wp_scope_lex {P : Program} {a : Act} {w : World} {Q : Exit → Act → World → Prop} {c r0 r1 r2 r3 r4 r5 : Code} (J0 J1 J2 J3 J4 J5 : Act → World → Prop) (μ0 μ1 μ2 μ3 μ4 μ5 : Act → World → Nat)
    (h0 : findLabel c 0 = some (Code.skip.seq r0))
    (h1 : findLabel c 1 = some (Code.skip.seq r1))
    (h2 : findLabel c 2 = some (Code.skip.seq r2))
    (h3 : findLabel c 3 = some (Code.skip.seq r3))
    (h4 : findLabel c 4 = some (Code.skip.seq r4))
    (h5 : findLabel c 5 = some (Code.skip.seq r5))
    (p0 : ∀ a w, J0 a w → r0.wp P (onto (sel6 J0 J1 J2 J3 J4 J5 (fun _ _ => False)) (sel6 μ0 μ1 μ2 μ3 μ4 μ5 (fun _ _ => 0)) (μ0 a w) Q) a w)
    (p5 : (∀ n a w, J0 a w → μ0 a w ≤ n → r0.wp P (onto (sel6 J0 J1 J2 J3 J4 J5 (fun _ _ => False)) (sel6 μ0 μ1 μ2 μ3 μ4 μ5 (fun _ _ => 0)) n Q) a w) → ∀ a w, J5 a w → r5.wp P (onto (sel6 J0 J1 J2 J3 J4 J5 (fun _ _ => False)) (sel6 μ0 μ1 μ2 μ3 μ4 μ5 (fun _ _ => 0)) (μ5 a w) Q) a w)
    (p4 : (∀ n a w, J5 a w → μ5 a w ≤ n → r5.wp P (onto (sel6 J0 J1 J2 J3 J4 J5 (fun _ _ => False)) (sel6 μ0 μ1 μ2 μ3 μ4 μ5 (fun _ _ => 0)) n Q) a w) → ∀ a w, J4 a w → r4.wp P (onto (sel6 J0 J1 J2 J3 J4 J5 (fun _ _ => False)) (sel6 μ0 μ1 μ2 μ3 μ4 μ5 (fun _ _ => 0)) (μ4 a w) Q) a w)
    (p3 : (∀ n a w, J4 a w → μ4 a w ≤ n → r4.wp P (onto (sel6 J0 J1 J2 J3 J4 J5 (fun _ _ => False)) (sel6 μ0 μ1 μ2 μ3 μ4 μ5 (fun _ _ => 0)) n Q) a w) → ∀ a w, J3 a w → r3.wp P (onto (sel6 J0 J1 J2 J3 J4 J5 (fun _ _ => False)) (sel6 μ0 μ1 μ2 μ3 μ4 μ5 (fun _ _ => 0)) (μ3 a w) Q) a w)
    (p2 : (∀ n a w, J3 a w → μ3 a w ≤ n → r3.wp P (onto (sel6 J0 J1 J2 J3 J4 J5 (fun _ _ => False)) (sel6 μ0 μ1 μ2 μ3 μ4 μ5 (fun _ _ => 0)) n Q) a w) → ∀ a w, J2 a w → r2.wp P (onto (sel6 J0 J1 J2 J3 J4 J5 (fun _ _ => False)) (sel6 μ0 μ1 μ2 μ3 μ4 μ5 (fun _ _ => 0)) (μ2 a w) Q) a w)
    (p1 : (∀ n a w, J2 a w → μ2 a w ≤ n → r2.wp P (onto (sel6 J0 J1 J2 J3 J4 J5 (fun _ _ => False)) (sel6 μ0 μ1 μ2 μ3 μ4 μ5 (fun _ _ => 0)) n Q) a w) → ∀ a w, J1 a w → r1.wp P (onto (sel6 J0 J1 J2 J3 J4 J5 (fun _ _ => False)) (sel6 μ0 μ1 μ2 μ3 μ4 μ5 (fun _ _ => 0)) (μ1 a w) Q) a w)
    (first : (∀ a w, J1 a w → r1.wp P (into (sel6 J0 J1 J2 J3 J4 J5 (fun _ _ => False)) Q) a w) → c.wp P (into (sel6 J0 J1 J2 J3 J4 J5 (fun _ _ => False)) Q) a w) : (Code.scope c).wp P Q a w := by
  have q0 := p0
  have q5 := p5 (fun n a w h hn => onto_le hn (q0 a w h))
  have q4 := p4 (fun n a w h hn => onto_le hn (q5 a w h))
  have q3 := p3 (fun n a w h hn => onto_le hn (q4 a w h))
  have q2 := p2 (fun n a w h hn => onto_le hn (q3 a w h))
  have q1 := p1 (fun n a w h hn => onto_le hn (q2 a w h))
  refine wp_scope_many (sel6 (Code.skip.seq r0) (Code.skip.seq r1) (Code.skip.seq r2) (Code.skip.seq r3) (Code.skip.seq r4) (Code.skip.seq r5) Code.skip) (sel6 J0 J1 J2 J3 J4 J5 (fun _ _ => False)) (sel6 μ0 μ1 μ2 μ3 μ4 μ5 (fun _ _ => 0)) ?_ (first fun a w h => jumps_mono (fun l a w h => h.1) (q1 a w h)) ?_
  · intro l a w h
    match l, h with
    | 0, _ => exact h0
    | 1, _ => exact h1
    | 2, _ => exact h2
    | 3, _ => exact h3
    | 4, _ => exact h4
    | 5, _ => exact h5
    | n + 6, h => exact h.elim
  · intro l a w h
    match l, h with
    | 0, h => exact wp_seq (wp_skip (q0 a w h))
    | 1, h => exact wp_seq (wp_skip (q1 a w h))
    | 2, h => exact wp_seq (wp_skip (q2 a w h))
    | 3, h => exact wp_seq (wp_skip (q3 a w h))
    | 4, h => exact wp_seq (wp_skip (q4 a w h))
    | 5, h => exact wp_seq (wp_skip (q5 a w h))
    | n + 6, h => exact h.elim
end Go.Proofs.Ytnimdngiejcljaa

