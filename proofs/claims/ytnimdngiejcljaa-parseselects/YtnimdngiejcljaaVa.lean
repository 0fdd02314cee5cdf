/- The same tokens elsewhere: other places, another tail behind a closing bracket: what is read is the same. -/
import Derived.Test.YtnimdngiejcljaaZb
namespace Go.Proofs.Ytnimdngiejcljaa
open Go.RowKit
set_option linter.unusedVariables false
set_option linter.unusedSimpArgs false
set_option maxRecDepth 20000

def clS : ByteArray := ⟨#[41]⟩
/-- The end, or a closing bracket. -/
def Stop (t : Tok) : Prop := t.1 = 0 ∨ (t.1 = 5 ∧ t.2.2.1 = clS)
/-- The same tokens up to an end; there T, which begins with a stop. -/
inductive Al (T : List Tok) : List Tok → List Tok → Prop
  | cons (t t' : Tok) (r r' : List Tok) : t.1 ≠ 0 → t.1 = t'.1 → t.2.2 = t'.2.2 → Al T r r' → Al T (t :: r) (t' :: r')
  | fin (z : Tok) : z.1 = 0 → Stop (hd T) → Al T [z] T
variable {T : List Tok}
theorem Al.head {ts ts' : List Tok} (h : Al T ts ts') : (hd ts).1 ≠ 0 ∧ (hd ts).1 = (hd ts').1 ∧ (hd ts).2.2 = (hd ts').2.2 ∧ Al T ts.tail ts'.tail ∨ (hd ts).1 = 0 ∧ Stop (hd ts') := by
  cases h with
  | cons t t' r r' h0 h1 h2 h3 => exact .inl ⟨h0, h1, h2, h3⟩
  | fin z h0 h1 => exact .inr ⟨h0, h1⟩
theorem mean_zero {t : Tok} (h : t.1 = 0) : meanB t = false := by unfold meanB; rw [h]; rfl
theorem is_kind {s : ByteArray} {ts : List Tok} (h : isB s ts = true) : (hd ts).1 ≠ 0 := fun e => by
  unfold isB at h
  rw [mean_zero e] at h
  cases h
theorem Al.tail {ts ts' : List Tok} (h : Al T ts ts') (h0 : (hd ts).1 ≠ 0) : (hd ts).1 = (hd ts').1 ∧ (hd ts).2.2 = (hd ts').2.2 ∧ Al T ts.tail ts'.tail := by
  rcases h.head with ⟨_, h1, h2, h3⟩ | ⟨h1, _⟩
  · exact ⟨h1, h2, h3⟩
  · exact absurd h1 h0
theorem stop_is {s : ByteArray} {t : Tok} (hs : s ≠ clS) (h : Stop t) : (meanB t && decide (t.2.2.1 = s)) = false := by
  rcases h with h | ⟨h1, h2⟩
  · rw [mean_zero h]; rfl
  · rw [h2, decide_eq_false (fun e => hs e.symm), Bool.and_false]
theorem Al.is {s : ByteArray} {ts ts' : List Tok} (h : Al T ts ts') (hs : s ≠ clS) : isB s ts = isB s ts' := by
  unfold isB
  rcases h.head with ⟨_, h1, h2, _⟩ | ⟨h1, h2⟩
  · have e : meanB (hd ts) = meanB (hd ts') := by unfold meanB; rw [h1]
    rw [e, h2]
  · rw [mean_zero h1, stop_is hs h2]; rfl
theorem Al.yes {s : ByteArray} {ts ts' : List Tok} (h : Al T ts ts') (hs : isB s ts = true) : isB s ts' = true := by
  obtain ⟨h1, h2, _⟩ := h.tail (is_kind hs)
  unfold isB at hs ⊢
  have e : meanB (hd ts) = meanB (hd ts') := by unfold meanB; rw [h1]
  rw [← e, ← h2]
  exact hs
def NoCl (row : List ByteArray) : Prop := row.all (fun x => !decide (clS = x)) = true
theorem find_no : ∀ row : List ByteArray, NoCl row → findB clS row = -1 := by
  intro row
  induction row with
  | nil => intro _; rfl
  | cons x r ih =>
    intro h
    unfold NoCl at h
    rw [List.all_cons, Bool.and_eq_true] at h
    have h1 : ¬ clS = x := by simpa using h.1
    unfold findB
    rw [if_neg h1, ih h.2]
    rfl
theorem Al.num {row : List ByteArray} {ts ts' : List Tok} (h : Al T ts ts') (hr : NoCl row) : numIn row (hd ts) = numIn row (hd ts') := by
  unfold numIn
  rcases h.head with ⟨_, h1, h2, _⟩ | ⟨h1, h2⟩
  · have e : meanB (hd ts) = meanB (hd ts') := by unfold meanB; rw [h1]
    rw [e, h2]
  · rw [if_neg (by rw [mean_zero h1]; decide)]
    rcases h2 with h2 | ⟨h2, h3⟩
    · rw [if_neg (by rw [mean_zero h2]; decide)]
    · rw [h3, find_no _ hr]
      split <;> rfl
theorem num_kindV {row : List ByteArray} {ts : List Tok} (h : numIn row (hd ts) ≠ 0) : (hd ts).1 ≠ 0 := fun e => by
  unfold numIn at h
  rw [mean_zero e] at h
  exact h rfl
theorem no_funcs : NoCl funcsR := by unfold NoCl; decide +kernel
theorem no_aggs : NoCl aggsR := by unfold NoCl; decide +kernel
theorem no_ops : NoCl opsR := by unfold NoCl; decide +kernel
theorem no_grps : NoCl grpsR := by unfold NoCl; decide +kernel
theorem no_kinds : NoCl kindsR := by unfold NoCl; decide +kernel
/-- What is read of both is the same. -/
def Rs.sim {α : Type} (T : List Tok) (x y : Rs α) : Prop :=
  match x with
  | .ok a r => ∃ r', y = .ok a r' ∧ Al T r r'
  | _ => True
theorem sim_bind {α β : Type} {x y : Rs α} {f g : α → List Tok → Rs β} (h : x.sim T y) (hf : ∀ a r r', Al T r r' → (f a r).sim T (g a r')) : (x.bind f).sim T (y.bind g) := by
  cases x with
  | ok a r =>
    obtain ⟨r', rfl, hr⟩ := h
    exact hf a r r' hr
  | bad p c => trivial
  | out => trivial
theorem sim_must {b b' : Bool} {ts ts' : List Tok} (h : Al T ts ts') (hb : b = true → b' = true) : (must b ts).sim T (must b' ts') := by
  unfold must
  split
  · rename_i h1
    rw [if_pos (hb h1)]
    exact ⟨ts', rfl, h⟩
  · trivial
theorem sim_need {s : ByteArray} {ts ts' : List Tok} (h : Al T ts ts') : (need s ts).sim T (need s ts') := by
  unfold need
  split
  · rename_i h1
    rw [if_pos (h.yes h1)]
    exact ⟨_, rfl, (h.tail (is_kind h1)).2.2⟩
  · trivial
theorem sim_lname {ts ts' : List Tok} (h : Al T ts ts') : (lname ts).sim T (lname ts') := by
  unfold lname
  split
  · rename_i h1
    have h3 : (hd ts).1 = 3 := by simp only [Bool.and_eq_true, decide_eq_true_eq] at h1; exact h1.1
    obtain ⟨e1, e2, e3⟩ := h.tail (by rw [h3]; decide)
    rw [← e1, ← e2, if_pos h1]
    exact ⟨_, rfl, e3⟩
  · trivial
theorem lname_end {ts : List Tok} (h : (hd ts).1 = 0) : lname ts = fail ts := by
  unfold lname
  rw [h]
  rfl
theorem sim_more {α : Type} {step : α → List Tok → Rs α} {closes : ByteArray} (hs : ∀ a ts ts', Al T ts ts' → (step a ts).sim T (step a ts')) : ∀ (f : Nat) (a : α) (ts ts' : List Tok), Al T ts ts' → (moreR step closes f a ts).sim T (moreR step closes f a ts') := by
  intro f
  induction f with
  | zero => intro a ts ts' _; trivial
  | succ f ih =>
    intro a ts ts' h
    unfold moreR
    have e := h.is (s := ⟨#[44]⟩) (by decide +kernel)
    rw [← e]
    split
    · rename_i h1
      exact sim_bind (hs a _ _ (h.tail (is_kind h1)).2.2) fun b r r' hr => ih b r r' hr
    · exact sim_bind (sim_need h) fun _ r r' hr => ⟨r', rfl, hr⟩
theorem sim_list {α : Type} {step : α → List Tok → Rs α} {opens closes : ByteArray} (hs : ∀ a ts ts', Al T ts ts' → (step a ts).sim T (step a ts')) (h0 : ∀ a ts, (hd ts).1 = 0 → step a ts = fail ts) (f : Nat) (a : α) (ts ts' : List Tok) (h : Al T ts ts') : (listR step opens closes f a ts).sim T (listR step opens closes f a ts') := by
  unfold listR
  refine sim_bind (sim_need h) fun _ r r' hr => ?_
  by_cases h1 : isB closes r = true
  · rw [if_pos h1, if_pos (hr.yes h1)]
    exact ⟨_, rfl, (hr.tail (is_kind h1)).2.2⟩
  · rw [if_neg h1]
    by_cases h2 : isB closes r' = true
    · have hz : (hd r).1 = 0 := by
        rcases hr.head with ⟨_, e1, e2, _⟩ | ⟨e1, _⟩
        · exfalso
          apply h1
          unfold isB at h2 ⊢
          have e : meanB (hd r) = meanB (hd r') := by unfold meanB; rw [e1]
          rw [e, e2]
          exact h2
        · exact e1
      rw [h0 a r hz]
      trivial
    · rw [if_neg h2]
      exact sim_bind (hs a _ _ hr) fun b r2 r2' hr2 => sim_more hs f b r2 r2' hr2
theorem sim_nstep {ns : List ByteArray} {ts ts' : List Tok} (h : Al T ts ts') : (nstep ns ts).sim T (nstep ns ts') := sim_bind (sim_lname h) fun a r r' hr => ⟨r', rfl, hr⟩
theorem nstep_end {ns : List ByteArray} {ts : List Tok} (h : (hd ts).1 = 0) : nstep ns ts = fail ts := by unfold nstep; rw [lname_end h]; rfl
theorem Al.takeN {row : List ByteArray} {may : List Int} {ts ts' : List Tok} (h : Al T ts ts') (hr : NoCl row) : takeN row may ts = takeN row may ts' := by unfold Go.Proofs.Ytnimdngiejcljaa.takeN; rw [h.num hr]
theorem Al.takeR {row : List ByteArray} {may : List Int} {ts ts' : List Tok} (h : Al T ts ts') (hr : NoCl row) (hm : (0 : Int) ∉ may) : Al T (takeR row may ts) (takeR row may ts') := by
  unfold Go.Proofs.Ytnimdngiejcljaa.takeR
  rw [← h.num hr]
  split
  · rename_i h1
    refine (h.tail (num_kindV (row := row) fun e => ?_)).2.2
    rw [e] at h1
    exact hm (List.contains_iff_mem.1 h1)
  · exact h
theorem sim_group {f : Nat} {may : List Int} {ts ts' : List Tok} (h : Al T ts ts') (hm : (0 : Int) ∉ may) : (groupR f may ts).sim T (groupR f may ts') := by
  unfold groupR
  rw [← h.takeN no_grps]
  split
  · exact ⟨_, rfl, h.takeR no_grps hm⟩
  · exact sim_bind (sim_list (fun a _ _ h => sim_nstep (ns := a) h) (fun a _ h => nstep_end (ns := a) h) f [] _ _ (h.takeR no_grps hm)) fun a r r' hr => ⟨r', rfl, hr⟩
theorem sim_with {ms : List Mt} {k : Int} {n : ByteArray} {ts ts' : List Tok} (h : Al T ts ts') (h0 : (hd ts).1 ≠ 0) : (withR ms k n ts).sim T (withR ms k n ts') := by
  obtain ⟨e1, e2, e3⟩ := h.tail h0
  unfold withR
  rw [← e2]
  split
  · exact ⟨_, rfl, e3⟩
  · trivial
theorem sim_quest {ts ts' : List Tok} (h : Al T ts ts') : (questR ts).sim T (questR ts') := by
  unfold questR
  refine sim_bind (sim_lname h) fun s r r' hr => ?_
  rw [← hr.num no_kinds]
  by_cases hk : numIn kindsR (hd r) = 0
  · rw [decide_eq_true hk]
    unfold must
    trivial
  · have h0 := num_kindV hk
    refine sim_bind (sim_must hr fun e => e) fun _ r2 r2' hr2 => ?_
    obtain ⟨e1, e2, e3⟩ := hr.tail h0
    unfold must
    by_cases h4 : (hd r.tail).1 = 4
    · obtain ⟨g1, g2, g3⟩ := e3.tail (by rw [h4]; decide)
      rw [if_pos (by simpa using h4), if_pos (by rw [← g1]; simpa using h4), bind_ok, bind_ok]
      exact ⟨_, rfl, e3⟩
    · rw [if_neg (by simpa using h4)]
      trivial
theorem quest_text {ts r : List Tok} {q : Int × ByteArray} (h : questR ts = .ok q r) : (hd r).1 = 4 := by
  unfold questR at h
  cases hl : lname ts with
  | out => rw [hl] at h; cases h
  | bad p c => rw [hl, bind_bad] at h; cases h
  | ok s r1 =>
    rw [hl, bind_ok] at h
    unfold must at h
    split at h
    · rw [bind_ok] at h
      split at h
      · rename_i h4
        rw [bind_ok] at h
        cases h
        simpa using h4
      · cases h
    · cases h
theorem sim_mstep {ms : List Mt} {ts ts' : List Tok} (h : Al T ts ts') : (mstep ms ts).sim T (mstep ms ts') := by
  unfold mstep
  have hq := sim_quest h
  cases hx : questR ts with
  | bad p c => trivial
  | out => trivial
  | ok q r =>
    rw [hx] at hq
    obtain ⟨r', e, hr⟩ := hq
    rw [e, bind_ok, bind_ok]
    exact sim_with hr (by rw [quest_text hx]; decide)
theorem mstep_end {ms : List Mt} {ts : List Tok} (h : (hd ts).1 = 0) : mstep ms ts = fail ts := by unfold mstep questR; rw [lname_end h]; rfl
theorem Al.kept {ts ts' : List Tok} (h : Al T ts ts') (h3 : (hd ts).1 = 3) : keptB (hd ts) = keptB (hd ts') := by
  obtain ⟨e1, e2, e3⟩ := h.tail (by rw [h3]; decide)
  unfold keptB
  rw [h.num no_funcs, h.num no_aggs, h.num no_ops, h.num no_grps, e2]
theorem sim_match {f : Nat} {ts ts' : List Tok} (h : Al T ts ts') : (matchR f ts).sim T (matchR f ts') := by
  unfold matchR
  have hl : ∀ (ms : List Mt) r r', Al T r r' → (listR mstep ⟨#[123]⟩ ⟨#[125]⟩ f ms r).sim T (listR mstep ⟨#[123]⟩ ⟨#[125]⟩ f ms r') := fun ms r r' hr => sim_list (fun a _ _ h => sim_mstep (ms := a) h) (fun a _ h => mstep_end (ms := a) h) f ms r r' hr
  by_cases h3 : (hd ts).1 = 3
  · obtain ⟨e1, e2, e3⟩ := h.tail (by rw [h3]; decide)
    rw [← h.kept h3, ← e1]
    split
    · refine sim_bind (sim_with h (by rw [h3]; decide)) fun ms r r' hr => ?_
      rw [← hr.is (s := ⟨#[123]⟩) (by decide +kernel)]
      split
      · exact hl ms r r' hr
      · exact ⟨r', rfl, hr⟩
    · exact hl [] ts ts' h
  · have h3' : ¬ (hd ts').1 = 3 := by
      rcases h.head with ⟨_, e1, _, _⟩ | ⟨_, e | ⟨e, _⟩⟩
      · rw [← e1]; exact h3
      · rw [e]; decide
      · rw [e]; decide
    rw [decide_eq_false h3, decide_eq_false h3']
    exact hl [] ts ts' h
theorem sim_span {ts ts' : List Tok} (h : Al T ts ts') : (spanT ts).sim T (spanT ts') := by
  unfold spanT
  split
  · rename_i h2
    obtain ⟨e1, e2, e3⟩ := h.tail (by rw [h2]; decide)
    rw [← e1, if_pos h2, ← e2]
    exact ⟨_, rfl, e3⟩
  · trivial
theorem sim_width {ts ts' : List Tok} (h : Al T ts ts') : (widthR ts).sim T (widthR ts') := by
  unfold widthR
  rw [← h.is (s := ⟨#[91]⟩) (by decide +kernel)]
  split
  · rename_i h1
    exact sim_bind (sim_span (h.tail (is_kind h1)).2.2) fun w r r' hr => sim_bind (sim_need hr) fun _ r2 r2' hr2 => ⟨r2', rfl, hr2⟩
  · exact ⟨ts', rfl, h⟩
theorem sim_back {ts ts' : List Tok} (h : Al T ts ts') : (backR ts).sim T (backR ts') := by
  unfold backR
  rw [← h.is (s := offS) (by decide +kernel)]
  split
  · rename_i h1
    exact sim_span (h.tail (is_kind h1)).2.2
  · exact ⟨ts', rfl, h⟩
theorem sim_sel {f : Nat} {ts ts' : List Tok} (h : Al T ts ts') : (selR f ts).sim T (selR f ts') :=
  sim_bind (sim_match h) fun ms r r' hr => sim_bind (sim_width hr) fun kw r2 r2' hr2 => sim_bind (sim_back hr2) fun b r3 r3' hr3 => ⟨r3', rfl, hr3⟩
/-- The same is read, or there are too many open. -/
def Rs.simD {α : Type} (q : Prop) (T : List Tok) (x y : Rs α) : Prop :=
  match x with
  | .ok a r => (∃ r', y = .ok a r' ∧ Al T r r') ∨ q ∧ ∃ p, y = .bad p 182
  | _ => True
variable {q : Prop}
theorem Rs.sim.D {α : Type} {x y : Rs α} (h : x.sim T y) : x.simD q T y := by
  cases x with
  | ok a r => exact .inl h
  | bad p c => trivial
  | out => trivial
theorem simD_bind {α β : Type} {x y : Rs α} {f g : α → List Tok → Rs β} (h : x.simD q T y) (hf : ∀ a r r', Al T r r' → (f a r).simD q T (g a r')) : (x.bind f).simD q T (y.bind g) := by
  cases x with
  | ok a r =>
    rcases h with ⟨r', rfl, hr⟩ | ⟨hq, p, rfl⟩
    · exact hf a r r' hr
    · rw [bind_ok, bind_bad]
      cases f a r with
      | ok b r2 => exact .inr ⟨hq, p, rfl⟩
      | bad p c => trivial
      | out => trivial
  | bad p c => trivial
  | out => trivial
theorem simD_nest {sign : ByteArray} {nest nest' : Nat} {X : Nat → List Tok → Rs (List Nd)} {ts ts' : List Tok} (h : Al T ts ts') (hn : nest ≤ nest') (hq : nest < nest' → q) (hX : ∀ n n' us us', n ≤ n' → (n < n' → q) → Al T us us' → (X n us).simD q T (X n' us')) : (nestR sign nest X ts).simD q T (nestR sign nest' X ts') := by
  unfold nestR must
  split
  · rename_i h1
    rw [if_pos (h.yes h1), bind_ok, bind_ok]
    by_cases h6 : nest = 64
    · rw [if_pos h6]; trivial
    · rw [if_neg h6]
      by_cases h7 : nest' = 64
      · rw [if_pos h7]
        cases X (nest + 1) ts.tail with
        | ok a r => exact .inr ⟨hq (by omega), _, rfl⟩
        | bad p c => trivial
        | out => trivial
      · rw [if_neg h7]
        exact hX _ _ _ _ (by omega) (fun _ => hq (by omega)) (h.tail (is_kind h1)).2.2
  · trivial
theorem simD_brack {nest nest' : Nat} {X : Nat → List Tok → Rs (List Nd)} {ts ts' : List Tok} (h : Al T ts ts') (hn : nest ≤ nest') (hq : nest < nest' → q) (hX : ∀ n n' us us', n ≤ n' → (n < n' → q) → Al T us us' → (X n us).simD q T (X n' us')) : (brackR nest X ts).simD q T (brackR nest' X ts') :=
  simD_bind (simD_nest h hn hq hX) fun a r r' hr => by
    have h9 : ((need ⟨#[41]⟩ r).bind fun _ r => Rs.ok a r).sim T ((need ⟨#[41]⟩ r').bind fun _ r => Rs.ok a r) := sim_bind (sim_need hr) fun _ r2 r2' hr2 => ⟨r2', rfl, hr2⟩
    exact h9.D
theorem simD_one {F nest nest' : Nat} {X : Nat → List Tok → Rs (List Nd)} {ts ts' : List Tok} (h : Al T ts ts') (hn : nest ≤ nest') (hq : nest < nest' → q) (hX : ∀ n n' us us', n ≤ n' → (n < n' → q) → Al T us us' → (X n us).simD q T (X n' us')) : (oneR F nest X ts).simD q T (oneR F nest' X ts') := by
  unfold oneR
  by_cases h1 : (hd ts).1 = 1
  · obtain ⟨e1, e2, e3⟩ := h.tail (by rw [h1]; decide)
    rw [if_pos h1, if_pos (by rw [← e1]; exact h1), e2]
    exact .inl ⟨_, rfl, e3⟩
  · have h1' : ¬ (hd ts').1 = 1 := by
      rcases h.head with ⟨_, e1, _, _⟩ | ⟨_, e | ⟨e, _⟩⟩
      · rw [← e1]; exact h1
      · rw [e]; decide
      · rw [e]; decide
    rw [if_neg h1, if_neg h1', ← h.is (s := ⟨#[40]⟩) (by decide +kernel), ← h.num no_funcs, ← h.num no_aggs]
    split
    · exact simD_brack h hn hq hX
    · split
      · rename_i hf
        exact simD_bind (simD_brack (h.tail (num_kindV hf)).2.2 hn hq hX) fun a r r' hr => .inl ⟨r', rfl, hr⟩
      · split
        · rename_i hf
          exact simD_bind (sim_group (h.tail (num_kindV hf)).2.2 (by decide)).D fun g r r' hr => simD_bind (simD_brack hr hn hq hX) fun a r2 r2' hr2 => .inl ⟨r2', rfl, hr2⟩
        · exact (sim_sel h).D
theorem rowOps_no0 (i : Nat) : (0 : Int) ∉ rowOps i := by
  match i with
  | 0 => decide
  | 1 => decide
  | 2 => decide
  | 3 => decide
  | n + 4 => show (0 : Int) ∉ [(3 : Int), 4]; decide
/-- P of the same tokens elsewhere, with as many open, or more. -/
theorem simD_P : ∀ (f lv nest nest' : Nat) (ts ts' : List Tok), nest ≤ nest' → (nest < nest' → q) → Al T ts ts' → (P f lv nest ts).simD q T (P f lv nest' ts') := by
  intro f
  induction f with
  | zero => intro lv nest nest' ts ts' _ _ _; trivial
  | succ f ih =>
    intro lv nest nest' ts ts' hn hq h
    rw [P_succ, P_succ]
    split
    · exact simD_bind (ih (lv + 1) nest nest' ts ts' hn hq h) fun a r r' hr => simD_bind (ih (lv + 7) nest nest' r r' hn hq hr) fun b r2 r2' hr2 => .inl ⟨r2', rfl, hr2⟩
    · split
      · rw [← h.is (s := ⟨#[45]⟩) (by decide +kernel)]
        split
        · exact simD_bind (simD_nest h hn hq fun n n' us us' hn hq hu => ih 5 n n' us us' hn hq hu) fun a r r' hr => .inl ⟨r', rfl, hr⟩
        · exact ih 6 nest nest' ts ts' hn hq h
      · split
        · exact simD_one h hn hq fun n n' us us' hn hq hu => ih 0 n n' us us' hn hq hu
        · rw [← h.takeN no_ops]
          split
          · exact .inl ⟨ts', rfl, h⟩
          · have ht := h.takeR (may := rowOps (lv - 7)) no_ops (rowOps_no0 _)
            generalize Go.Proofs.Ytnimdngiejcljaa.takeN opsR (rowOps (lv - 7)) ts = op
            have hb : boolN op (Go.Proofs.Ytnimdngiejcljaa.takeR opsR (rowOps (lv - 7)) ts) = boolN op (Go.Proofs.Ytnimdngiejcljaa.takeR opsR (rowOps (lv - 7)) ts') := by unfold boolN; rw [ht.is (s := boolS) (by decide +kernel)]
            have hb2 : Al T (boolR op (Go.Proofs.Ytnimdngiejcljaa.takeR opsR (rowOps (lv - 7)) ts)) (boolR op (Go.Proofs.Ytnimdngiejcljaa.takeR opsR (rowOps (lv - 7)) ts')) := by
              unfold boolR
              rw [← hb]
              split
              · rename_i h5
                unfold boolN at h5
                rw [Bool.and_eq_true] at h5
                exact (ht.tail (is_kind h5.2)).2.2
              · exact ht
            rw [← hb]
            exact simD_bind (sim_group hb2 (by decide)).D fun g r r' hr => simD_bind (ih (lv - 6) nest nest' r r' hn hq hr) fun a r2 r2' hr2 => simD_bind (ih lv nest nest' r2 r2' hn hq hr2) fun b r3 r3' hr3 => .inl ⟨r3', rfl, hr3⟩
end Go.Proofs.Ytnimdngiejcljaa
