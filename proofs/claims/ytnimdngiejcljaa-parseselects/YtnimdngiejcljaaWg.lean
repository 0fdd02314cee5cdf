/- What Parse gives is small: 8 matchers, as many names as tokens; it may be copied. -/
import Derived.Test.YtnimdngiejcljaaWf
import Derived.Test.YtnimdngiejcljaaWc
namespace Go.Proofs.Ytnimdngiejcljaa
open Go.RowKit
set_option linter.unusedVariables false
set_option linter.unusedSimpArgs false
set_option maxRecDepth 20000

/-- What is read, and what is ahead. -/
def Rs.each {α : Type} (V : α → List Tok → Prop) (x : Rs α) : Prop :=
  match x with
  | .ok a r => V a r
  | _ => True
theorem each_bind {α β : Type} {V : α → List Tok → Prop} {W : β → List Tok → Prop} {x : Rs α} {f : α → List Tok → Rs β} (h : x.each V) (hf : ∀ a r, V a r → (f a r).each W) : (x.bind f).each W := by
  cases x with
  | ok a r => exact hf a r h
  | bad p c => trivial
  | out => trivial
abbrev Ln (N : Nat) {α : Type} : α → List Tok → Prop := fun _ r => r.length ≤ N
theorem each_must {N : Nat} {b : Bool} {ts : List Tok} (h : ts.length ≤ N) : (must b ts).each (Ln N) := by
  unfold must
  split
  · exact h
  · trivial
theorem each_need {N : Nat} {s : ByteArray} {ts : List Tok} (h : ts.length ≤ N) : (need s ts).each (Ln N) := by
  unfold need
  split
  · exact Nat.le_trans (tail_le ts) h
  · trivial
theorem each_lname {N : Nat} {ts : List Tok} (h : ts.length ≤ N + 1) : (lname ts).each (Ln N) := by
  cases e : lname ts with
  | ok a r => have := lname_less e; show r.length ≤ N; omega
  | bad p c => trivial
  | out => trivial
abbrev Nl (N : Nat) : List ByteArray → List Tok → Prop := fun a r => a.length + r.length ≤ N
theorem each_nstep {N : Nat} {ns : List ByteArray} {ts : List Tok} (h : ns.length + ts.length ≤ N) : (nstep ns ts).each (Nl N) := by
  unfold nstep
  cases e : lname ts with
  | ok a r =>
    have := lname_less e
    show (ns ++ [a]).length + r.length ≤ N
    rw [List.length_append, List.length_cons, List.length_nil]
    omega
  | bad p c => trivial
  | out => trivial
theorem each_more {α : Type} {V : α → List Tok → Prop} (hV : ∀ a ts, V a ts → V a ts.tail) {step : α → List Tok → Rs α} {closes : ByteArray} (hs : ∀ a ts, V a ts → (step a ts).each V) : ∀ (f : Nat) (a : α) (ts : List Tok), V a ts → (moreR step closes f a ts).each V := by
  intro f
  induction f with
  | zero => intro a ts _; trivial
  | succ f ih =>
    intro a ts h
    unfold moreR
    split
    · exact each_bind (hs a ts.tail (hV a ts h)) fun a2 r h2 => ih a2 r h2
    · unfold need
      split
      · exact hV a ts h
      · trivial
theorem each_list {α : Type} {V : α → List Tok → Prop} (hV : ∀ a ts, V a ts → V a ts.tail) {step : α → List Tok → Rs α} {opens closes : ByteArray} (hs : ∀ a ts, V a ts → (step a ts).each V) (f : Nat) (a : α) (ts : List Tok) (h : V a ts) : (listR step opens closes f a ts).each V := by
  unfold listR need
  split
  · rw [bind_ok]
    split
    · exact hV _ _ (hV _ _ h)
    · exact each_bind (hs a _ (hV _ _ h)) fun a2 r h2 => each_more hV hs f a2 r h2
  · trivial
theorem takeR_leV (row : List ByteArray) (may : List Int) (ts : List Tok) : (takeR row may ts).length ≤ ts.length := by
  unfold takeR
  split
  · exact tail_le ts
  · exact Nat.le_refl _
theorem each_group {N f : Nat} {may : List Int} {ts : List Tok} (h : ts.length ≤ N) : (groupR f may ts).each (fun g r => g.2.length ≤ N ∧ r.length ≤ N) := by
  have ht := takeR_leV grpsR may ts
  unfold groupR
  split
  · exact ⟨Nat.zero_le _, by omega⟩
  · refine each_bind (each_list (V := Nl N) (fun a ts h => Nat.le_trans (Nat.add_le_add_left (tail_le ts) _) h) (fun a ts h => each_nstep h) f [] _ (by show 0 + _ ≤ N; omega)) fun ns r h2 => ?_
    exact ⟨by show ns.length ≤ N; have : ns.length + r.length ≤ N := h2; omega, by have : ns.length + r.length ≤ N := h2; omega⟩
abbrev Ml (N : Nat) : List Mt → List Tok → Prop := fun a r => a.length ≤ 8 ∧ r.length ≤ N
theorem each_with {N : Nat} {ms : List Mt} {k : Int} {n : ByteArray} {ts : List Tok} (h : ts.length ≤ N) : (withR ms k n ts).each (Ml N) := by
  unfold withR
  split
  · rename_i hm
    unfold matsB at hm
    simp only [Bool.and_eq_true, decide_eq_true_eq] at hm
    exact ⟨hm.1, Nat.le_trans (tail_le ts) h⟩
  · trivial
theorem each_mstep {N : Nat} {ms : List Mt} {ts : List Tok} (h : ts.length ≤ N) : (mstep ms ts).each (Ml N) := by
  unfold mstep questR
  refine each_bind (V := Ln N) (each_bind (each_lname (N := N) (by omega)) fun s r hr => each_bind (V := Ln N) (each_must hr) fun _ r1 h1 => each_bind (V := Ln N) (each_must (Nat.le_trans (tail_le _) hr)) fun _ r2 h2 => h2) fun q r hr => each_with hr
theorem each_match {N f : Nat} {ts : List Tok} (h : ts.length ≤ N) : (matchR f ts).each (Ml N) := by
  have hV : ∀ (a : List Mt) (ts : List Tok), Ml N a ts → Ml N a ts.tail := fun a ts h => ⟨h.1, Nat.le_trans (tail_le ts) h.2⟩
  unfold matchR
  split
  · refine each_bind (each_with h) fun ms r hr => ?_
    split
    · exact each_list hV (fun a ts h => each_mstep h.2) f ms r hr
    · exact hr
  · exact each_list hV (fun a ts h => each_mstep h.2) f [] ts ⟨Nat.zero_le _, h⟩
theorem each_span {N : Nat} {ts : List Tok} (h : ts.length ≤ N) : (spanT ts).each (Ln N) := by
  unfold spanT
  split
  · exact Nat.le_trans (tail_le ts) h
  · trivial
theorem each_width {N : Nat} {ts : List Tok} (h : ts.length ≤ N) : (widthR ts).each (Ln N) := by
  unfold widthR
  split
  · exact each_bind (each_span (Nat.le_trans (tail_le ts) h)) fun w r hr => each_bind (each_need hr) fun _ r h => h
  · exact h
theorem each_back {N : Nat} {ts : List Tok} (h : ts.length ≤ N) : (backR ts).each (Ln N) := by
  unfold backR
  split
  · exact each_span (Nat.le_trans (tail_le ts) h)
  · exact h
/-- A node whose lists are small. -/
def Small (N : Nat) (x : Nd) : Prop := x.mat.length ≤ 8 ∧ x.names.length ≤ N
abbrev Sm (N : Nat) : List Nd → List Tok → Prop := fun a r => (∀ x ∈ a, Small N x) ∧ r.length ≤ N
theorem sm_app {N : Nat} {a b : List Nd} (ha : ∀ x ∈ a, Small N x) (hb : ∀ x ∈ b, Small N x) : ∀ x ∈ a ++ b, Small N x := fun x hx => (List.mem_append.1 hx).elim (ha x) (hb x)
theorem sm_one {N : Nat} {x : Nd} (h : Small N x) : ∀ y ∈ [x], Small N y := fun y hy => by rw [List.mem_singleton.1 hy]; exact h
theorem small0 {N : Nat} {x : Nd} (h1 : x.mat = []) (h2 : x.names.length ≤ N) : Small N x := ⟨by rw [h1]; exact Nat.zero_le _, h2⟩
theorem each_sel {N f : Nat} {ts : List Tok} (h : ts.length ≤ N) : (selR f ts).each (Sm N) :=
  each_bind (each_match h) fun ms r hr => each_bind (each_width hr.2) fun kw r2 h2 => each_bind (each_back h2) fun b r3 h3 => ⟨sm_one ⟨hr.1, Nat.zero_le _⟩, h3⟩
theorem each_nest {N : Nat} {sign : ByteArray} {nest : Nat} {X : Nat → List Tok → Rs (List Nd)} {ts : List Tok} (hX : ∀ n us, us.length ≤ N → (X n us).each (Sm N)) (h : ts.length ≤ N) : (nestR sign nest X ts).each (Sm N) := by
  unfold nestR
  refine each_bind (each_must (N := N) h) fun _ _ _ => ?_
  split
  · trivial
  · exact hX _ _ (Nat.le_trans (tail_le ts) h)
theorem each_brack {N : Nat} {nest : Nat} {X : Nat → List Tok → Rs (List Nd)} {ts : List Tok} (hX : ∀ n us, us.length ≤ N → (X n us).each (Sm N)) (h : ts.length ≤ N) : (brackR nest X ts).each (Sm N) := by
  unfold brackR
  exact each_bind (each_nest hX h) fun a r hr => each_bind (each_need hr.2) fun _ r2 h2 => ⟨hr.1, h2⟩
theorem each_one {N F nest : Nat} {X : Nat → List Tok → Rs (List Nd)} {ts : List Tok} (hX : ∀ n us, us.length ≤ N → (X n us).each (Sm N)) (h : ts.length ≤ N) : (oneR F nest X ts).each (Sm N) := by
  have ht := Nat.le_trans (tail_le ts) h
  unfold oneR
  split
  · exact ⟨sm_one (small0 rfl (Nat.zero_le _)), ht⟩
  · split
    · exact each_brack hX h
    · split
      · exact each_bind (each_brack hX ht) fun a r hr => ⟨sm_app hr.1 (sm_one (small0 rfl (Nat.zero_le _))), hr.2⟩
      · split
        · exact each_bind (each_group ht) fun g r hr => each_bind (each_brack hX hr.2) fun a r2 h2 => ⟨sm_app h2.1 (sm_one (small0 rfl hr.1)), h2.2⟩
        · exact each_sel h
theorem each_P {N : Nat} : ∀ (f lv nest : Nat) (ts : List Tok), ts.length ≤ N → (P f lv nest ts).each (Sm N) := by
  intro f
  induction f with
  | zero => intro lv nest ts _; trivial
  | succ f ih =>
    intro lv nest ts h
    rw [P_succ]
    split
    · exact each_bind (ih _ _ _ h) fun a r hr => each_bind (ih _ _ _ hr.2) fun b r2 h2 => ⟨sm_app hr.1 h2.1, h2.2⟩
    · split
      · split
        · exact each_bind (each_nest (fun n us hu => ih 5 n us hu) h) fun a r hr => ⟨sm_app hr.1 (sm_one (small0 rfl (Nat.zero_le _))), hr.2⟩
        · exact ih _ _ _ h
      · split
        · exact each_one (fun n us hu => ih 0 n us hu) h
        · split
          · exact ⟨fun x hx => (List.not_mem_nil hx).elim, h⟩
          · have h2 := Nat.le_trans (boolR_le (takeN opsR (rowOps (lv - 7)) ts) (takeR opsR (rowOps (lv - 7)) ts)) (Nat.le_trans (takeR_leV opsR (rowOps (lv - 7)) ts) h)
            exact each_bind (each_group h2) fun g r hr => each_bind (ih _ _ _ hr.2) fun a r2 h2 => each_bind (ih _ _ _ h2.2) fun b r3 h3 => ⟨sm_app (sm_app h2.1 (sm_one (small0 rfl hr.1))) h3.1, h3.2⟩
theorem parse_small {s : ByteArray} {ns : List Nd} (h : parseR s = .ok ns) : ∀ x ∈ ns, Small 4097 x := by
  obtain ⟨ts, e1, e2⟩ := parseR_inv h
  obtain ⟨r, e3, _⟩ := parseT_inv e2
  have hp := each_P (N := 4097) (8 * ts.length + 8) 0 0 ts (lexR_end e1).2
  rw [e3] at hp
  exact hp.1
theorem own_nil {α : Type} {E : Elem α} {e : TypeId} {w : World} {b n : Nat} {s : Sl} {l : List α} (h : SOwn E e w b (slV s) n l) (hn : s.1 = none) : s.2.2 = 0 := by
  obtain ⟨a, m, c⟩ := s
  unfold slV at h
  dsimp only at h hn
  rcases h.2 with ⟨h', h0⟩ | ⟨g, cap, cur, h', _⟩
  · injection h' with _ _ h3
  · injection h' with h1 _ _
    rw [hn] at h1
    cases h1
/-- What Parse made may be copied. -/
theorem NdAt.nsIn {w : World} {b : Nat} {a : Option Addr} {n c : Nat} {Q : List Row} (h : NdAt w b (.slice a n c) Q) (hs : ∀ q ∈ Q, Small 4097 q.1) (hl : Q.length ≤ 4097) : NsIn w a c Q := by
  obtain ⟨h1, h2⟩ := h.rds
  refine ⟨h1.rd, fun q hq => ⟨h1.each q hq, own_nil (h.mat q hq), own_nil (h.nam q hq), ?_, ?_⟩, own_nil (s := (a, n, c)) h.own, ?_⟩
  · have := (hs q hq).1; unfold reachBytes; omega
  · have := (hs q hq).2; unfold reachBytes; omega
  · unfold reachBytes; omega
end Go.Proofs.Ytnimdngiejcljaa
