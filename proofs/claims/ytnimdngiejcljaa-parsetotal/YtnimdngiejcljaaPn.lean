/- The parser, as maths: it comes to an end, and reads on. -/
import Derived.Test.YtnimdngiejcljaaPm
namespace Go.Proofs.Ytnimdngiejcljaa
open Go.RowKit
set_option linter.unusedVariables false
set_option linter.unusedSimpArgs false
set_option maxRecDepth 20000

/-- It is not out, and what is ahead has become no longer. -/
def Rs.fine {α : Type} (x : Rs α) (n : Nat) : Prop :=
  match x with
  | .ok _ r => r.length ≤ n
  | .bad _ _ => True
  | .out => False
theorem fine_bind {α β : Type} {x : Rs α} {f : α → List Tok → Rs β} {n : Nat} (h : x.fine n) (hf : ∀ a r, x = .ok a r → r.length ≤ n → (f a r).fine n) : (x.bind f).fine n := by
  cases x with
  | ok a r => exact hf a r rfl h
  | bad p c => trivial
  | out => exact h.elim
theorem fine_mono {α : Type} {x : Rs α} {m n : Nat} (h : x.fine m) (hmn : m ≤ n) : x.fine n := by
  cases x with
  | ok a r => exact Nat.le_trans h hmn
  | bad p c => trivial
  | out => exact h.elim
theorem fine_ne {α : Type} {x : Rs α} {n : Nat} (h : x.fine n) : x ≠ .out := by
  intro e; rw [e] at h; exact h
theorem fail_fine {α : Type} (ts : List Tok) (n : Nat) : (fail ts : Rs α).fine n := trivial
theorem tail_le (ts : List Tok) : ts.tail.length ≤ ts.length := by rw [List.length_tail]; omega
theorem isB_ne {s : ByteArray} {ts : List Tok} (h : isB s ts = true) : ts.tail.length < ts.length := by
  cases ts with
  | nil => simp [isB, hd, meanB] at h
  | cons t r => simp
theorem hd_ne {ts : List Tok} (h : (hd ts).1 ≠ 0) : ts.tail.length < ts.length := by
  cases ts with
  | nil => exact absurd rfl h
  | cons t r => simp
theorem need_fine (s : ByteArray) (ts : List Tok) : (need s ts).fine ts.length := by
  unfold need
  split
  · exact tail_le ts
  · exact fail_fine _ _
theorem must_fine (b : Bool) (ts : List Tok) : (must b ts).fine ts.length := by
  unfold must
  split
  · exact Nat.le_refl _
  · exact fail_fine _ _
theorem lname_fine (ts : List Tok) : (lname ts).fine ts.length := by
  unfold lname
  split
  · exact tail_le ts
  · exact fail_fine _ _
theorem nstep_fine (ns : List ByteArray) (ts : List Tok) : (nstep ns ts).fine ts.length := fine_bind (lname_fine ts) fun a r _ h => h
theorem moreR_fine {α : Type} {step : α → List Tok → Rs α} {closes : ByteArray} (hs : ∀ a ts, (step a ts).fine ts.length) : ∀ (f : Nat) (a : α) (ts : List Tok), ts.length < f → (moreR step closes f a ts).fine ts.length := by
  intro f
  induction f with
  | zero => intro a ts h; omega
  | succ f ih =>
    intro a ts h
    unfold moreR
    split
    · rename_i hb
      have hl := isB_ne hb
      exact fine_mono (fine_bind (hs a ts.tail) fun a2 r _ h2 => fine_mono (ih a2 r (by omega)) h2) (by omega)
    · exact fine_bind (need_fine closes ts) fun _ r _ h => h
theorem listR_fine {α : Type} {step : α → List Tok → Rs α} {opens closes : ByteArray} (hs : ∀ a ts, (step a ts).fine ts.length) (f : Nat) (a : α) (ts : List Tok) (h : ts.length < f) : (listR step opens closes f a ts).fine ts.length := by
  unfold listR
  refine fine_bind (need_fine opens ts) fun _ r _ hr => ?_
  split
  · exact Nat.le_trans (tail_le r) hr
  · exact fine_mono (fine_bind (hs a r) fun a2 r2 _ h2 => fine_mono (moreR_fine hs f a2 r2 (by omega)) h2) hr
theorem takeR_le (row : List ByteArray) (may : List Int) (ts : List Tok) : (takeR row may ts).length ≤ ts.length := by
  unfold takeR
  split
  · exact tail_le ts
  · exact Nat.le_refl _
theorem groupR_fine {f : Nat} {may : List Int} {ts : List Tok} (h : ts.length < f) : (groupR f may ts).fine ts.length := by
  have hl := takeR_le grpsR may ts
  unfold groupR
  split
  · exact hl
  · exact fine_mono (fine_bind (listR_fine nstep_fine f [] _ (by omega)) fun a r _ h => h) hl
theorem withR_fine (ms : List Mt) (k : Int) (n : ByteArray) (ts : List Tok) : (withR ms k n ts).fine ts.length := by
  unfold withR
  split
  · exact tail_le ts
  · trivial
theorem questR_fine (ts : List Tok) : (questR ts).fine ts.length := by
  unfold questR
  refine fine_bind (lname_fine ts) fun s r _ hr => ?_
  refine fine_bind (n := ts.length) (fine_mono (must_fine _ r) hr) fun _ _ _ _ => ?_
  refine fine_bind (fine_mono (must_fine _ r.tail) (by have := tail_le r; omega)) fun _ r2 _ h2 => h2
theorem mstep_fine (ms : List Mt) (ts : List Tok) : (mstep ms ts).fine ts.length :=
  fine_bind (questR_fine ts) fun q r _ h => fine_mono (withR_fine _ _ _ r) h
theorem matchR_fine {f : Nat} {ts : List Tok} (h : ts.length < f) : (matchR f ts).fine ts.length := by
  unfold matchR
  split
  · refine fine_bind (withR_fine _ _ _ ts) fun ms r _ hr => ?_
    split
    · exact fine_mono (listR_fine mstep_fine f ms r (by omega)) hr
    · exact hr
  · exact listR_fine mstep_fine f [] ts h
theorem spanT_fine (ts : List Tok) : (spanT ts).fine ts.length := by
  unfold spanT
  split
  · exact tail_le ts
  · exact fail_fine _ _
theorem widthR_fine (ts : List Tok) : (widthR ts).fine ts.length := by
  unfold widthR
  split
  · refine fine_mono (fine_bind (spanT_fine ts.tail) fun w r _ hr => ?_) (tail_le ts)
    exact fine_mono (fine_bind (need_fine _ r) fun _ r2 _ h2 => h2) hr
  · exact Nat.le_refl _
theorem backR_fine (ts : List Tok) : (backR ts).fine ts.length := by
  unfold backR
  split
  · exact fine_mono (spanT_fine _) (tail_le ts)
  · exact Nat.le_refl _
theorem selR_fine {f : Nat} {ts : List Tok} (h : ts.length < f) : (selR f ts).fine ts.length :=
  fine_bind (matchR_fine h) fun ms r _ hr => fine_mono (fine_bind (widthR_fine r) fun kw r2 _ h2 => fine_mono (fine_bind (backR_fine r2) fun b r3 _ h3 => h3) h2) hr
end Go.Proofs.Ytnimdngiejcljaa
