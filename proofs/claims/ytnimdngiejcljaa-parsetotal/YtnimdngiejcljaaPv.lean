/- The parser, as maths: its levels come to an end; how many nodes there are. -/
import Derived.Test.YtnimdngiejcljaaPn
namespace Go.Proofs.Ytnimdngiejcljaa
open Go.RowKit
set_option linter.unusedVariables false
set_option linter.unusedSimpArgs false
set_option maxRecDepth 20000

/-- So many nodes and tokens at most. -/
def Rs.few (x : Rs (List Nd)) (n : Nat) : Prop :=
  match x with
  | .ok a r => a.length + r.length ≤ n
  | .bad _ _ => True
  | .out => True
theorem few_mono {x : Rs (List Nd)} {m n : Nat} (h : x.few m) (hmn : m ≤ n) : x.few n := by
  cases x with
  | ok a r => exact Nat.le_trans h hmn
  | bad p c => trivial
  | out => trivial
theorem few_bind {α : Type} {x : Rs α} {f : α → List Tok → Rs (List Nd)} {n : Nat} (hf : ∀ a r, x = .ok a r → (f a r).few n) : (x.bind f).few n := by
  cases x with
  | ok a r => exact hf a r rfl
  | bad p c => trivial
  | out => trivial
theorem few_two {x : Rs (List Nd)} {f : List Nd → List Tok → Rs (List Nd)} {m n : Nat} (h : x.few m) (hf : ∀ a r, x = .ok a r → a.length + r.length ≤ m → (f a r).few n) : (x.bind f).few n := by
  cases x with
  | ok a r => exact hf a r rfl h
  | bad p c => trivial
  | out => trivial
theorem fine_ok {α : Type} {x : Rs α} {n : Nat} {a : α} {r : List Tok} (h : x.fine n) (e : x = .ok a r) : r.length ≤ n := by rw [e] at h; exact h
theorem need_less {s : ByteArray} {ts r : List Tok} {u : Unit} (h : need s ts = .ok u r) : r.length < ts.length := by
  unfold need at h
  split at h
  · rename_i hb
    cases h
    exact isB_ne hb
  · cases h
theorem lname_less {ts r : List Tok} {s : ByteArray} (h : lname ts = .ok s r) : r.length < ts.length := by
  unfold lname at h
  split at h
  · rename_i hb
    cases h
    simp only [Bool.and_eq_true, decide_eq_true_eq] at hb
    exact hd_ne (by rw [hb.1]; decide)
  · cases h
theorem nestR_few {sign : ByteArray} {nest : Nat} {X : Nat → List Tok → Rs (List Nd)} {ts : List Tok} (hX : ∀ n us, us.length < 5000 → (X n us).few us.length) (hl5 : ts.length < 5000) : (nestR sign nest X ts).few (ts.length - 1) := by
  unfold nestR must
  split
  · rename_i hb
    rw [bind_ok]
    split
    · trivial
    · have := hX (nest + 1) ts.tail (by have := tail_le ts; omega)
      rw [List.length_tail] at this
      exact this
  · trivial
theorem brackR_few {nest : Nat} {X : Nat → List Tok → Rs (List Nd)} {ts : List Tok} (hX : ∀ n us, us.length < 5000 → (X n us).few us.length) (hl5 : ts.length < 5000) : (brackR nest X ts).few (ts.length - 1) := by
  unfold brackR
  refine few_two (nestR_few hX hl5) fun a r _ h => few_bind fun u r2 h2 => ?_
  have := need_less h2
  show a.length + r2.length ≤ _
  omega
theorem numIn_less {row : List ByteArray} {ts : List Tok} (h : numIn row (hd ts) ≠ 0) : ts.tail.length < ts.length := hd_ne (fun e => h (by
  unfold numIn meanB
  rw [e]
  rfl))
theorem withR_less {ms : List Mt} {k : Int} {n : ByteArray} {ts r : List Tok} {ms2 : List Mt} (h : withR ms k n ts = .ok ms2 r) (h0 : (hd ts).1 ≠ 0) : r.length < ts.length := by
  unfold withR at h
  split at h
  · cases h
    exact hd_ne h0
  · cases h
theorem listR_less {α : Type} {step : α → List Tok → Rs α} {opens closes : ByteArray} (hs : ∀ a ts, (step a ts).fine ts.length) {f : Nat} {a a2 : α} {ts r : List Tok} (hf : ts.length < f) (h : listR step opens closes f a ts = .ok a2 r) : r.length < ts.length := by
  unfold listR at h
  cases hn : need opens ts with
  | bad q c => rw [hn, bind_bad] at h; cases h
  | out => rw [hn] at h; cases h
  | ok u r1 =>
    have h1 := need_less hn
    rw [hn, bind_ok] at h
    split at h
    · rename_i hb
      have := isB_ne hb
      cases h
      omega
    · have h2 := fine_mono (fine_bind (hs a r1) fun a3 r3 _ h3 => fine_mono (moreR_fine (closes := closes) hs f a3 r3 (by omega)) h3) (Nat.le_refl _)
      have := fine_ok h2 h
      omega
theorem matchR_less {f : Nat} {ts r : List Tok} {ms : List Mt} (hf : ts.length < f) (h : matchR f ts = .ok ms r) : r.length < ts.length := by
  unfold matchR at h
  split at h
  · rename_i hb
    simp only [Bool.and_eq_true, decide_eq_true_eq] at hb
    cases hw : withR [] 1 nameS ts with
    | bad q c => rw [hw, bind_bad] at h; cases h
    | out => rw [hw] at h; cases h
    | ok m1 r1 =>
      have h1 := withR_less hw (by rw [hb.1]; decide)
      rw [hw, bind_ok] at h
      split at h
      · have := listR_less mstep_fine (by omega) h
        omega
      · cases h; exact h1
  · exact listR_less mstep_fine hf h
theorem selR_few {f : Nat} {ts : List Tok} (hf : ts.length < f) : (selR f ts).few ts.length := by
  unfold selR
  refine few_bind fun ms r h1 => few_bind fun kw r2 h2 => few_bind fun b r3 h3 => ?_
  have l1 := matchR_less hf h1
  have l2 := fine_ok (widthR_fine r) h2
  have l3 := fine_ok (backR_fine r2) h3
  show 1 + r3.length ≤ _
  omega
theorem oneR_few {F nest : Nat} {X : Nat → List Tok → Rs (List Nd)} {ts : List Tok} (hF : ts.length < F) (hX : ∀ n us, us.length < 5000 → (X n us).few us.length) (hl5 : ts.length < 5000) : (oneR F nest X ts).few ts.length := by
  unfold oneR
  split
  · rename_i h
    have := hd_ne (ts := ts) (by rw [h]; decide)
    show 1 + ts.tail.length ≤ _
    omega
  · split
    · exact few_mono (brackR_few hX hl5) (by omega)
    · split
      · rename_i h
        have hl := numIn_less h
        refine few_two (brackR_few (nest := nest) (ts := ts.tail) hX (by omega)) fun a r _ h2 => ?_
        show (a ++ _).length + r.length ≤ _
        rw [List.length_append, List.length_singleton]
        omega
      · split
        · rename_i h
          have hl := numIn_less h
          refine few_bind fun g r h1 => few_two (brackR_few (nest := nest) (ts := r) hX (by have := fine_ok (groupR_fine (by omega)) h1; omega)) fun a r2 _ h2 => ?_
          have l1 := fine_ok (groupR_fine (by omega)) h1
          show (a ++ _).length + r2.length ≤ _
          rw [List.length_append, List.length_singleton]
          omega
        · exact selR_few hF
theorem P_succ (f lv nest : Nat) (ts : List Tok) : P (f + 1) lv nest ts =
    if lv < 5 then (P f (lv + 1) nest ts).bind fun a r => (P f (lv + 7) nest r).bind fun b r => .ok (a ++ b) r
    else if lv = 5 then
      (if isB ⟨#[45]⟩ ts = true then (nestR ⟨#[45]⟩ nest (P f 5) ts).bind fun a r => .ok (a ++ [negN]) r else P f 6 nest ts)
    else if lv = 6 then oneR 5000 nest (P f 0) ts
    else if takeN opsR (rowOps (lv - 7)) ts = 0 then .ok [] ts
    else (groupR 5000 [3, 4] (boolR (takeN opsR (rowOps (lv - 7)) ts) (takeR opsR (rowOps (lv - 7)) ts))).bind fun g r =>
      (P f (lv - 6) nest r).bind fun a r2 => (P f lv nest r2).bind fun b r3 =>
        .ok (a ++ [binN (takeN opsR (rowOps (lv - 7)) ts) (boolN (takeN opsR (rowOps (lv - 7)) ts) (takeR opsR (rowOps (lv - 7)) ts)) g.1 g.2] ++ b) r3 := rfl
theorem boolR_le (op : Int) (ts : List Tok) : (boolR op ts).length ≤ ts.length := by
  unfold boolR
  split
  · exact tail_le ts
  · exact Nat.le_refl _
theorem take_less {row : List ByteArray} {may : List Int} {ts : List Tok} (h : takeN row may ts ≠ 0) : (takeR row may ts).length < ts.length := by
  unfold takeN at h
  unfold takeR
  split at h
  · rename_i hc
    rw [if_pos hc]
    exact numIn_less h
  · exact absurd rfl h
/-- Longer texts than any: the inner loops' fuel is as good as none. -/
theorem P_few : ∀ (f lv nest : Nat) (ts : List Tok), ts.length < 5000 → (P f lv nest ts).few ts.length := by
  intro f
  induction f with
  | zero => intro lv nest ts _; trivial
  | succ f ih =>
    intro lv nest ts hl
    rw [P_succ]
    split
    · refine few_two (ih (lv + 1) nest ts hl) fun a r _ h1 => few_two (ih (lv + 7) nest r (by omega)) fun b r2 _ h2 => ?_
      show (a ++ b).length + r2.length ≤ _
      rw [List.length_append]
      omega
    · split
      · split
        · rename_i hb
          have hlt := isB_ne hb
          unfold nestR must
          split
          · rw [bind_ok]
            split
            · trivial
            · refine few_two (ih 5 (nest + 1) ts.tail (by omega)) fun a r _ h2 => ?_
              show (a ++ _).length + r.length ≤ _
              rw [List.length_append, List.length_singleton]
              omega
          · trivial
        · exact ih 6 nest ts hl
      · split
        · have hX : ∀ n us, us.length < 5000 → (P f 0 n us).few us.length := fun n us h => ih 0 n us h
          exact oneR_few hl hX hl
        · split
          · show 0 + ts.length ≤ _
            omega
          · rename_i hne
            have hlt := take_less hne
            have hb := boolR_le (takeN opsR (rowOps (lv - 7)) ts) (takeR opsR (rowOps (lv - 7)) ts)
            refine few_bind fun g r h1 => few_two (ih (lv - 6) nest r ?_) fun a r2 _ h2 => few_two (ih lv nest r2 ?_) fun b r3 _ h3 => ?_
            · have := fine_ok (groupR_fine (by omega)) h1
              omega
            · have := fine_ok (groupR_fine (by omega)) h1
              omega
            · have := fine_ok (groupR_fine (by omega)) h1
              show (a ++ _ ++ b).length + r3.length ≤ _
              rw [List.length_append, List.length_append, List.length_singleton]
              omega
end Go.Proofs.Ytnimdngiejcljaa
