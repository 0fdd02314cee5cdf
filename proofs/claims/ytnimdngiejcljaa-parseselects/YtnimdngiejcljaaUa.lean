/- ParseTotal: its maths: each part is found, each place lies in the text. -/
import Derived.Test.YtnimdngiejcljaaZb
import Derived.Test.YtnimdngiejcljaaZd
namespace Go.Proofs.Ytnimdngiejcljaa
open Go.RowKit
set_option linter.unusedVariables false
set_option linter.unusedSimpArgs false
set_option maxRecDepth 20000

/-- How many parts a kind of node has; -1: no kind. -/
def partsK (k : Int) : Int := if k = 1 ∨ k = 2 ∨ k = 3 then 0 else if k = 4 ∨ k = 5 ∨ k = 7 then 1 else if k = 6 then 2 else -1
/-- How many trees lie there behind these nodes, where so many lay ahead; -1: a part isn't found. -/
def runK : Int → List Nd → Int
  | n, [] => n
  | n, x :: r => if partsK x.kind < 0 ∨ partsK x.kind > n ∨ x.parts ≠ partsK x.kind then -1 else runK (n - partsK x.kind + 1) r
theorem runK_cons (n : Int) (x : Nd) (r : List Nd) : runK n (x :: r) = if partsK x.kind < 0 ∨ partsK x.kind > n ∨ x.parts ≠ partsK x.kind then -1 else runK (n - partsK x.kind + 1) r := rfl
theorem runK_one {n : Int} {x : Nd} (h0 : 0 ≤ partsK x.kind) (h1 : partsK x.kind ≤ n) (h2 : x.parts = partsK x.kind) : runK n [x] = n - partsK x.kind + 1 := by
  unfold runK
  rw [if_neg (by omega)]
  rfl
theorem runK_app : ∀ (a b : List Nd) (n : Int), 0 ≤ n → 0 ≤ runK n a → runK n (a ++ b) = runK (runK n a) b := by
  intro a
  induction a with
  | nil => intro b n _ _; rfl
  | cons x r ih =>
    intro b n hn h
    rw [List.cons_append, runK_cons, runK_cons]
    rw [runK_cons] at h
    split at h
    · omega
    · rename_i hx
      rw [if_neg hx, if_neg hx]
      exact ih b _ (by omega) h
/-- One tree more. -/
def Tree (a : List Nd) : Prop := ∀ n : Int, 0 ≤ n → runK n a = n + 1
/-- As many trees, if there is one. -/
def Tail (a : List Nd) : Prop := ∀ n : Int, 1 ≤ n → runK n a = n
theorem tree_one {x : Nd} (h : partsK x.kind = 0) (h2 : x.parts = 0) : Tree [x] := fun n hn => by
  rw [runK_one (by omega) (by omega) (by omega), h]; omega
theorem tree_up {a : List Nd} {x : Nd} (h : Tree a) (h1 : partsK x.kind = 1) (h2 : x.parts = 1) : Tree (a ++ [x]) := fun n hn => by
  rw [runK_app a _ n hn (by rw [h n hn]; omega), h n hn, runK_one (by omega) (by omega) (by omega), h1]; omega
theorem tree_row {a b : List Nd} (h : Tree a) (h2 : Tail b) : Tree (a ++ b) := fun n hn => by
  rw [runK_app a _ n hn (by rw [h n hn]; omega), h n hn, h2 _ (by omega)]
theorem tail_nil : Tail [] := fun n hn => rfl
theorem tail_row {a b : List Nd} {x : Nd} (h : Tree a) (h1 : partsK x.kind = 2) (h2 : x.parts = 2) (hb : Tail b) : Tail (a ++ [x] ++ b) := fun n hn => by
  have e1 : runK n (a ++ [x]) = n := by
    rw [runK_app a _ n (by omega) (by rw [h n (by omega)]; omega), h n (by omega), runK_one (by omega) (by omega) (by omega), h1]; omega
  rw [runK_app (a ++ [x]) b n (by omega) (by rw [e1]; omega), e1, hb n hn]
/-- What is ahead: tokens within the text, then the end. -/
def Good (N : Int) (ts : List Tok) : Prop := ∃ us z, ts = us ++ [z] ∧ z.1 = 0 ∧ z.2.1 = N ∧ ∀ q ∈ us, TokIn 0 N q
/-- Where a fault is told. -/
def BadAt (N p c : Int) : Prop := (c = 180 ∧ p = N) ∨ (c ≠ 180 ∧ c ≠ 0 ∧ 0 ≤ p ∧ p < N)
def Rs.keep {α : Type} (N : Int) (V : α → Prop) (x : Rs α) : Prop :=
  match x with
  | .ok a r => V a ∧ Good N r
  | .bad p c => BadAt N p c
  | .out => True
abbrev Any {α : Type} : α → Prop := fun _ => True
theorem keep_bind {α β : Type} {N : Int} {V : α → Prop} {W : β → Prop} {x : Rs α} {f : α → List Tok → Rs β} (h : x.keep N V) (hf : ∀ a r, V a → Good N r → (f a r).keep N W) : (x.bind f).keep N W := by
  cases x with
  | ok a r => exact hf a r h.1 h.2
  | bad p c => exact h
  | out => trivial
theorem good_tail {N : Int} {ts : List Tok} (h : Good N ts) (h0 : (hd ts).1 ≠ 0) : Good N ts.tail := by
  obtain ⟨us, z, rfl, hz, hn, hu⟩ := h
  cases us with
  | nil => exact absurd hz h0
  | cons u us => exact ⟨us, z, rfl, hz, hn, fun q hq => hu q (List.mem_cons_of_mem _ hq)⟩
theorem good_hd {N : Int} {ts : List Tok} (h : Good N ts) : ((hd ts).1 = 0 ∧ (hd ts).2.1 = N) ∨ TokIn 0 N (hd ts) := by
  obtain ⟨us, z, rfl, hz, hn, hu⟩ := h
  cases us with
  | nil => exact .inl ⟨hz, hn⟩
  | cons u us => exact .inr (hu u List.mem_cons_self)
theorem keep_fail {α : Type} {N : Int} {V : α → Prop} {ts : List Tok} (h : Good N ts) : (fail ts : Rs α).keep N V := by
  show BadAt N (hd ts).2.1 (failC ts)
  unfold failC BadAt
  rcases good_hd h with ⟨h0, hn⟩ | ⟨h0, h1, h2⟩
  · rw [if_pos h0]; exact .inl ⟨rfl, hn⟩
  · rw [if_neg h0]; exact .inr ⟨by decide, by decide, h1, h2⟩
theorem keep_bad {α : Type} {N c : Int} {V : α → Prop} {ts : List Tok} (h : Good N ts) (h0 : (hd ts).1 ≠ 0) (hc : c ≠ 180 ∧ c ≠ 0) : (Rs.bad (hd ts).2.1 c : Rs α).keep N V := by
  rcases good_hd h with ⟨h1, hn⟩ | ⟨h1, h2, h3⟩
  · exact absurd h1 h0
  · exact .inr ⟨hc.1, hc.2, h2, h3⟩
theorem isB_kind {s : ByteArray} {ts : List Tok} (h : isB s ts = true) : (hd ts).1 ≠ 0 := by
  unfold isB meanB at h
  simp only [Bool.and_eq_true, Bool.or_eq_true, decide_eq_true_eq] at h
  omega
theorem num_kind {row : List ByteArray} {ts : List Tok} (h : numIn row (hd ts) ≠ 0) : (hd ts).1 ≠ 0 := fun e => h (by
  unfold numIn meanB
  rw [e]
  rfl)
theorem keep_must {N : Int} {b : Bool} {ts : List Tok} (h : Good N ts) : (must b ts).keep N Any := by
  unfold must
  split
  · exact ⟨trivial, h⟩
  · exact keep_fail h
theorem keep_need {N : Int} {s : ByteArray} {ts : List Tok} (h : Good N ts) : (need s ts).keep N Any := by
  unfold need
  split
  · rename_i hb; exact ⟨trivial, good_tail h (isB_kind hb)⟩
  · exact keep_fail h
theorem keep_lname {N : Int} {ts : List Tok} (h : Good N ts) : (lname ts).keep N Any := by
  unfold lname
  split
  · rename_i hb
    simp only [Bool.and_eq_true, decide_eq_true_eq] at hb
    exact ⟨trivial, good_tail h (by rw [hb.1]; decide)⟩
  · exact keep_fail h
theorem keep_nstep {N : Int} {ns : List ByteArray} {ts : List Tok} (h : Good N ts) : (nstep ns ts).keep N Any := keep_bind (keep_lname h) fun a r _ hr => ⟨trivial, hr⟩
theorem keep_more {α : Type} {N : Int} {step : α → List Tok → Rs α} {closes : ByteArray} (hs : ∀ a ts, Good N ts → (step a ts).keep N Any) : ∀ (f : Nat) (a : α) (ts : List Tok), Good N ts → (moreR step closes f a ts).keep N Any := by
  intro f
  induction f with
  | zero => intro a ts h; trivial
  | succ f ih =>
    intro a ts h
    unfold moreR
    split
    · rename_i hb
      exact keep_bind (hs a ts.tail (good_tail h (isB_kind hb))) fun a2 r _ hr => ih a2 r hr
    · exact keep_bind (keep_need h) fun _ r _ hr => ⟨trivial, hr⟩
theorem keep_list {α : Type} {N : Int} {step : α → List Tok → Rs α} {opens closes : ByteArray} (hs : ∀ a ts, Good N ts → (step a ts).keep N Any) (f : Nat) (a : α) (ts : List Tok) (h : Good N ts) : (listR step opens closes f a ts).keep N Any := by
  unfold listR
  refine keep_bind (keep_need h) fun _ r _ hr => ?_
  split
  · rename_i hb; exact ⟨trivial, good_tail hr (isB_kind hb)⟩
  · exact keep_bind (hs a r hr) fun a2 r2 _ h2 => keep_more hs f a2 r2 h2
theorem good_take {N : Int} {row : List ByteArray} {may : List Int} {ts : List Tok} (h : Good N ts) (hm : may.contains 0 = false) : Good N (takeR row may ts) := by
  unfold takeR
  split
  · rename_i hb
    refine good_tail h (num_kind (row := row) fun e => ?_)
    rw [e, hm] at hb
    cases hb
  · exact h
theorem keep_group {N : Int} {f : Nat} {may : List Int} {ts : List Tok} (h : Good N ts) (hm : may.contains 0 = false) : (groupR f may ts).keep N Any := by
  unfold groupR
  split
  · exact ⟨trivial, good_take h hm⟩
  · exact keep_bind (keep_list (fun _ _ h => keep_nstep h) f [] _ (good_take h hm)) fun a r _ hr => ⟨trivial, hr⟩
theorem keep_with {N : Int} {ms : List Mt} {k : Int} {n : ByteArray} {ts : List Tok} (h : Good N ts) (h0 : (hd ts).1 ≠ 0) : (withR ms k n ts).keep N Any := by
  unfold withR
  split
  · exact ⟨trivial, good_tail h h0⟩
  · exact keep_bad h h0 (by decide)
theorem keep_mstep {N : Int} {ms : List Mt} {ts : List Tok} (h : Good N ts) : (mstep ms ts).keep N Any := by
  unfold mstep
  cases hq : questR ts with
  | out => trivial
  | bad p c =>
    have hk : (questR ts).keep N Any := by
      unfold questR
      refine keep_bind (keep_lname h) fun s r _ hr => ?_
      unfold must
      split
      · rename_i hb
        rw [bind_ok]
        have hn : numIn kindsR (hd r) ≠ 0 := by simpa using hb
        split
        · exact ⟨trivial, good_tail hr (num_kind hn)⟩
        · exact keep_fail (good_tail hr (num_kind hn))
      · exact keep_fail hr
    rw [hq] at hk
    exact hk
  | ok q r =>
    rw [bind_ok]
    have hk : (questR ts).keep N (fun _ => True) := by
      unfold questR
      refine keep_bind (keep_lname h) fun s r _ hr => ?_
      unfold must
      split
      · rename_i hb
        rw [bind_ok]
        have hn : numIn kindsR (hd r) ≠ 0 := by simpa using hb
        split
        · exact ⟨trivial, good_tail hr (num_kind hn)⟩
        · exact keep_fail (good_tail hr (num_kind hn))
      · exact keep_fail hr
    rw [hq] at hk
    have h4 : (hd r).1 = 4 := by
      unfold questR at hq
      cases hl : lname ts with
      | out => rw [hl] at hq; cases hq
      | bad p c => rw [hl, bind_bad] at hq; cases hq
      | ok s r1 =>
        rw [hl, bind_ok] at hq
        unfold must at hq
        split at hq
        · rw [bind_ok] at hq
          split at hq
          · rename_i h4
            rw [bind_ok] at hq
            cases hq
            simpa using h4
          · cases hq
        · cases hq
    exact keep_with hk.2 (by rw [h4]; decide)
theorem keep_match {N : Int} {f : Nat} {ts : List Tok} (h : Good N ts) : (matchR f ts).keep N Any := by
  unfold matchR
  split
  · rename_i hb
    simp only [Bool.and_eq_true, decide_eq_true_eq] at hb
    refine keep_bind (keep_with h (by rw [hb.1]; decide)) fun ms r _ hr => ?_
    split
    · exact keep_list (fun _ _ h => keep_mstep h) f ms r hr
    · exact ⟨trivial, hr⟩
  · exact keep_list (fun _ _ h => keep_mstep h) f [] ts h
theorem keep_span {N : Int} {ts : List Tok} (h : Good N ts) : (spanT ts).keep N Any := by
  unfold spanT
  split
  · rename_i h2; exact ⟨trivial, good_tail h (by rw [h2]; decide)⟩
  · exact keep_fail h
theorem keep_width {N : Int} {ts : List Tok} (h : Good N ts) : (widthR ts).keep N (fun kw => kw.1 = 2 ∨ kw.1 = 3) := by
  unfold widthR
  split
  · rename_i hb
    exact keep_bind (keep_span (good_tail h (isB_kind hb))) fun w r _ hr => keep_bind (keep_need hr) fun _ r2 _ h2 => ⟨.inr rfl, h2⟩
  · exact ⟨.inl rfl, h⟩
theorem keep_back {N : Int} {ts : List Tok} (h : Good N ts) : (backR ts).keep N Any := by
  unfold backR
  split
  · rename_i hb; exact keep_span (good_tail h (isB_kind hb))
  · exact ⟨trivial, h⟩
theorem keep_sel {N : Int} {f : Nat} {ts : List Tok} (h : Good N ts) : (selR f ts).keep N Tree := by
  unfold selR
  refine keep_bind (keep_match h) fun ms r _ hr => keep_bind (keep_width hr) fun kw r2 hk h2 => keep_bind (keep_back h2) fun b r3 _ h3 => ⟨?_, h3⟩
  refine tree_one ?_ rfl
  show partsK kw.1 = 0
  rcases hk with e | e <;> rw [e] <;> rfl
theorem keep_nest {N : Int} {sign : ByteArray} {nest : Nat} {X : Nat → List Tok → Rs (List Nd)} {ts : List Tok} (h : Good N ts) (hX : ∀ n us, Good N us → (X n us).keep N Tree) : (nestR sign nest X ts).keep N Tree := by
  unfold nestR must
  split
  · rename_i hb
    rw [bind_ok]
    split
    · exact keep_bad h (isB_kind hb) (by decide)
    · exact hX _ _ (good_tail h (isB_kind hb))
  · exact keep_fail h
theorem keep_brack {N : Int} {nest : Nat} {X : Nat → List Tok → Rs (List Nd)} {ts : List Tok} (h : Good N ts) (hX : ∀ n us, Good N us → (X n us).keep N Tree) : (brackR nest X ts).keep N Tree :=
  keep_bind (keep_nest h hX) fun a r ha hr => keep_bind (keep_need hr) fun _ r2 _ h2 => ⟨ha, h2⟩
theorem keep_one {N : Int} {F nest : Nat} {X : Nat → List Tok → Rs (List Nd)} {ts : List Tok} (h : Good N ts) (hX : ∀ n us, Good N us → (X n us).keep N Tree) : (oneR F nest X ts).keep N Tree := by
  unfold oneR
  split
  · rename_i h1; exact ⟨tree_one rfl rfl, good_tail h (by rw [h1]; decide)⟩
  · split
    · exact keep_brack h hX
    · split
      · rename_i hf; exact keep_bind (keep_brack (good_tail h (num_kind hf)) hX) fun a r ha hr => ⟨tree_up ha rfl rfl, hr⟩
      · split
        · rename_i hf
          exact keep_bind (keep_group (good_tail h (num_kind hf)) rfl) fun g r _ hr => keep_bind (keep_brack hr hX) fun a r2 ha h2 => ⟨tree_up ha rfl rfl, h2⟩
        · exact keep_sel h
theorem rowOps_zero (i : Nat) : (rowOps i).contains 0 = false := by
  match i with
  | 0 => rfl
  | 1 => rfl
  | 2 => rfl
  | 3 => rfl
  | n + 4 => rfl
theorem good_bool {N op : Int} {ts : List Tok} (h : Good N ts) : Good N (boolR op ts) := by
  unfold boolR
  split
  · rename_i hb
    unfold boolN at hb
    simp only [Bool.and_eq_true] at hb
    exact good_tail h (isB_kind hb.2)
  · exact h
/-- What a level reads. -/
def Lv (lv : Nat) (a : List Nd) : Prop := if lv ≤ 6 then Tree a else Tail a
theorem lv_tree {lv : Nat} {a : List Nd} (h : lv ≤ 6) : Lv lv a = Tree a := if_pos h
theorem lv_tail {lv : Nat} {a : List Nd} (h : ¬ lv ≤ 6) : Lv lv a = Tail a := if_neg h
theorem keep_P {N : Int} : ∀ (f lv nest : Nat) (ts : List Tok), lv ≤ 11 → Good N ts → (P f lv nest ts).keep N (Lv lv) := by
  intro f
  induction f with
  | zero => intro lv nest ts _ _; trivial
  | succ f ih =>
    intro lv nest ts hl h
    rw [P_succ]
    split
    · rename_i hlv
      refine keep_bind (W := Lv lv) (ih (lv + 1) nest ts (by omega) h) fun a r ha hr => keep_bind (W := Lv lv) (ih (lv + 7) nest r (by omega) hr) fun b r2 hb h2 => ?_
      rw [lv_tree (by omega)] at ha
      rw [lv_tail (by omega)] at hb
      refine ⟨?_, h2⟩
      rw [lv_tree (by omega)]
      exact tree_row ha hb
    · split
      · rename_i h5
        subst h5
        split
        · refine keep_bind (keep_nest (N := N) h fun n us hu => ?_) fun a r ha hr => ⟨?_, hr⟩
          · exact ih 5 n us (by omega) hu
          · exact tree_up ha rfl rfl
        · exact ih 6 nest ts (by omega) h
      · split
        · rename_i h6
          subst h6
          exact keep_one h fun n us hu => ih 0 n us (by omega) hu
        · rename_i h4 h5 h6
          have h7 : ¬ lv ≤ 6 := by omega
          split
          · refine ⟨?_, h⟩
            rw [lv_tail h7]
            exact tail_nil
          · refine keep_bind (W := Lv lv) (keep_group (may := [3, 4]) (good_bool (good_take h (rowOps_zero _))) rfl) fun g r _ hr => keep_bind (W := Lv lv) (ih (lv - 6) nest r (by omega) hr) fun a r2 ha h2 => keep_bind (W := Lv lv) (ih lv nest r2 hl h2) fun b r3 hb h3 => ?_
            rw [lv_tree (by omega)] at ha
            rw [lv_tail h7] at hb
            refine ⟨?_, h3⟩
            rw [lv_tail h7]
            exact tail_row ha rfl rfl hb
theorem good_lex {s : ByteArray} {ts : List Tok} (h : lexR s = .ok ts) : Good (s.size : Int) ts := by
  obtain ⟨us, e, hu, -, -⟩ := (lexR_toks h).ex
  exact ⟨us, _, e, rfl, rfl, hu⟩
/-- What Parse tells of a text that is cut into tokens. -/
theorem parse_total {s : ByteArray} {ts : List Tok} (h : lexR s = .ok ts) : match parseR s with
    | .ok ns => runK 0 ns = 1 ∧ ns.length ≤ 4097
    | .bad p c => BadAt (s.size : Int) p c := by
  have hfew := P_few (8 * ts.length + 8) 0 0 ts (by have := (lexR_end h).2; omega)
  have hl := (lexR_end h).2
  have hk := keep_P (N := (s.size : Int)) (8 * ts.length + 8) 0 0 ts (by omega) (good_lex h)
  have hf := P_fine (8 * ts.length + 8) 0 0 ts (by omega) (by omega) (by unfold fuelN; rw [if_pos (by omega)]; omega)
  unfold parseR
  rw [h]
  show match parseT ts with
    | .ok ns => runK 0 ns = 1 ∧ ns.length ≤ 4097
    | .bad p c => BadAt (s.size : Int) p c
  unfold parseT
  cases hp : P (8 * ts.length + 8) 0 0 ts with
  | out => rw [hp] at hf; exact hf.elim
  | bad p c => rw [hp] at hk; exact hk
  | ok a r =>
    rw [hp] at hk hfew
    have hfew2 : a.length + r.length ≤ ts.length := hfew
    obtain ⟨ha, hr⟩ := hk
    rw [lv_tree (by omega)] at ha
    by_cases h0 : (hd r).1 = 0
    · have h1 : endR (.ok a r) = .ok a := if_pos h0
      rw [h1]
      exact ⟨ha 0 (by omega), by omega⟩
    · have h1 : endR (.ok a r) = .bad (hd r).2.1 181 := if_neg h0
      rw [h1]
      exact keep_bad (α := Unit) (V := Any) hr h0 (by decide)
end Go.Proofs.Ytnimdngiejcljaa
