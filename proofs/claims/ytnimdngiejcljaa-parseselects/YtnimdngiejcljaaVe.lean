/- Two texts in brackets, an operation between: their nodes and the operation's, or too many are open. -/
import Derived.Test.YtnimdngiejcljaaVd
import Derived.Test.YtnimdngiejcljaaRa
namespace Go.Proofs.Ytnimdngiejcljaa
open Go.RowKit
set_option linter.unusedVariables false
set_option linter.unusedSimpArgs false
set_option maxRecDepth 20000

/-- With fuel enough, that is read there. -/
def Rdd (lv : Nat) (ts : List Tok) (a : List Nd) (T : List Tok) : Prop := ∃ f, P f lv 0 ts = .ok a T
def Dpp (lv : Nat) (ts : List Tok) : Prop := ∃ f p, P f lv 0 ts = .bad p 182
theorem rd_up {f f' lv : Nat} {ts T : List Tok} {a : List Nd} (h : f ≤ f') (e : P f lv 0 ts = .ok a T) : P f' lv 0 ts = .ok a T := by
  rw [up_P h (by rw [e]; simp), e]
theorem dp_up {f f' lv : Nat} {ts : List Tok} {p c : Int} (h : f ≤ f') (e : P f lv 0 ts = .bad p c) : P f' lv 0 ts = .bad p c := by
  rw [up_P h (by rw [e]; simp), e]
theorem rd_pass {lv : Nat} {ts T : List Tok} {a : List Nd} (hl : lv < 5) (hT : takeN opsR (rowOps lv) T = 0) (h : Rdd (lv + 1) ts a T) : Rdd lv ts a T := by
  obtain ⟨f, e⟩ := h
  refine ⟨f + 1 + 1, ?_⟩
  rw [P_succ, if_pos hl, rd_up (Nat.le_succ f) e, bind_ok, P_succ, if_neg (by omega), if_neg (by omega), if_neg (by omega), show lv + 7 - 7 = lv by omega, if_pos hT, bind_ok, List.append_nil]
theorem rd_down {hi : Nat} {ts T : List Tok} {a : List Nd} (h5 : hi ≤ 5) : ∀ d lo : Nat, hi = lo + d → (∀ i, lo ≤ i → i < hi → takeN opsR (rowOps i) T = 0) → Rdd hi ts a T → Rdd lo ts a T := by
  intro d
  induction d with
  | zero => intro lo e _ h; rwa [show lo = hi by omega]
  | succ d ih =>
    intro lo e hT h
    exact rd_pass (by omega) (hT lo (by omega) (by omega)) (ih (lo + 1) (by omega) (fun i h1 h2 => hT i (by omega) h2) h)
theorem dp_first {lv : Nat} {ts : List Tok} (hl : lv < 5) (h : Dpp (lv + 1) ts) : Dpp lv ts := by
  obtain ⟨f, p, e⟩ := h
  exact ⟨f + 1, p, lv_bad hl e⟩
theorem dp_down {hi : Nat} {ts : List Tok} (h5 : hi ≤ 5) : ∀ d lo : Nat, hi = lo + d → Dpp hi ts → Dpp lo ts := by
  intro d
  induction d with
  | zero => intro lo e h; rwa [show lo = hi by omega]
  | succ d ih => intro lo e h; exact dp_first (by omega) (ih (lo + 1) (by omega) h)
theorem rd_take {lv : Nat} {ts T R T2 : List Tok} {x y : List Nd} {op : Int} {bo : Bool} {g : Int × List ByteArray} (hl : lv < 5) (h : Rdd (lv + 1) ts x T) (ho : takeN opsR (rowOps lv) T = op) (h0 : op ≠ 0)
    (hb : boolN op (takeR opsR (rowOps lv) T) = bo) (hg : groupR 5000 [3, 4] (boolR op (takeR opsR (rowOps lv) T)) = .ok g R) (h2 : Rdd (lv + 1) R y T2) (hT2 : takeN opsR (rowOps lv) T2 = 0) :
    Rdd lv ts (x ++ (y ++ [binN op bo g.1 g.2])) T2 := by
  obtain ⟨f1, e1⟩ := h
  obtain ⟨f2, e2⟩ := h2
  refine ⟨f1 + f2 + 1 + 1 + 1, ?_⟩
  rw [P_succ, if_pos hl, rd_up (f' := f1 + f2 + 1 + 1) (by omega) e1, bind_ok, P_succ, if_neg (by omega), if_neg (by omega), if_neg (by omega), show lv + 7 - 7 = lv by omega, ho, if_neg h0, hb, hg, bind_ok, show lv + 7 - 6 = lv + 1 by omega,
    rd_up (f' := f1 + f2 + 1) (by omega) e2, bind_ok, P_succ, if_neg (by omega), if_neg (by omega), if_neg (by omega), show lv + 7 - 7 = lv by omega, if_pos hT2, bind_ok, bind_ok, List.append_nil]
theorem dp_take {lv : Nat} {ts T R : List Tok} {x : List Nd} {op : Int} {g : Int × List ByteArray} (hl : lv < 5) (h : Rdd (lv + 1) ts x T) (ho : takeN opsR (rowOps lv) T = op) (h0 : op ≠ 0)
    (hg : groupR 5000 [3, 4] (boolR op (takeR opsR (rowOps lv) T)) = .ok g R) (h2 : Dpp (lv + 1) R) : Dpp lv ts := by
  obtain ⟨f1, e1⟩ := h
  obtain ⟨f2, p, e2⟩ := h2
  refine ⟨f1 + f2 + 1 + 1, p, ?_⟩
  rw [P_succ, if_pos hl, rd_up (f' := f1 + f2 + 1) (by omega) e1, bind_ok, P_succ, if_neg (by omega), if_neg (by omega), if_neg (by omega), show lv + 7 - 7 = lv by omega, ho, if_neg h0, hg, bind_ok, show lv + 7 - 6 = lv + 1 by omega,
    dp_up (f' := f1 + f2) (by omega) e2, bind_bad, bind_bad]
/-- A text in brackets, read as one. -/
theorem one_bk {F : Nat} {us vs r : List Tok} {z o c : Tok} {a : List Nd} {T : List Tok} (h : P F 0 0 (us ++ [z]) = .ok a r) (h0 : (hd r).1 = 0) (hz : z.1 = 0) (he : El us vs) (ho : OpT o) (hc : ClT c) : Rdd 5 (o :: (vs ++ c :: T)) a T ∨ Dpp 5 (o :: (vs ++ c :: T)) := by
  have h5 : ∀ f, P (f + 1 + 1) 5 0 (o :: (vs ++ c :: T)) = brackR 0 (P f 0) (o :: (vs ++ c :: T)) := fun f => by
    rw [P_succ, if_neg (by decide), if_pos rfl, if_neg (by rw [not_tok ho.2 (by decide)]; decide), P6_open ho]
  have hs := simD_P (T := c :: T) (q := True) F 0 0 1 (us ++ [z]) (vs ++ c :: T) (by omega) (fun _ => trivial) (he.al hz (.inr ⟨hc.1, hc.2⟩))
  rw [h] at hs
  rcases hs with ⟨r', e, hr⟩ | ⟨_, p, e⟩
  · exact .inl ⟨F + 1 + 1, by rw [h5, brack_ok2 ho hc (by decide) (by rw [e, hr.done h0])]⟩
  · obtain ⟨p2, e2⟩ := brack_bad2 (f := F) (nest := 0) (ts := vs ++ c :: T) (p := p) ho fun _ => e
    exact .inr ⟨F + 1 + 1, p2, by rw [h5, e2]⟩
def strip (t : Tok) : Int × ByteArray × Int := (t.1, t.2.2)
theorem El.strip {us vs : List Tok} (h : El us vs) : us.map Go.Proofs.Ytnimdngiejcljaa.strip = vs.map Go.Proofs.Ytnimdngiejcljaa.strip := by
  induction h with
  | nil => rfl
  | cons t t' r r' h0 h1 h2 _ ih =>
    rw [List.map_cons, List.map_cons, ih]
    congr 1
    unfold Go.Proofs.Ytnimdngiejcljaa.strip
    rw [h1, h2]
def cmpK (k : Nat) (on : Bool) : Bool := on && (decide (4 ≤ k) && decide (k < 10))
/-- What stands between the brackets, but the last blank. -/
def midL (k : Nat) (on : Bool) : List Int := 32 :: sInts (opI k) ++ (if cmpK k on = true then [32, 98, 111, 111, 108] else []) ++ (if on = true then [32, 111, 110, 40, 97, 44, 111, 114, 41] else [])
def onT : List (Int × ByteArray × Int) := [(3, ⟨#[111, 110]⟩, 0), (5, ⟨#[40]⟩, 0), (3, ⟨#[97]⟩, 0), (5, ⟨#[44]⟩, 0), (3, ⟨#[111, 114]⟩, 0), (5, ⟨#[41]⟩, 0)]
def midT (k : Nat) (on : Bool) : List (Int × ByteArray × Int) := (if 10 ≤ k then 3 else 5, opI k, 0) :: ((if cmpK k on = true then [(3, ⟨#[98, 111, 111, 108]⟩, 0)] else []) ++ (if on = true then onT else []))
def midGood (k : Nat) (on : Bool) : Bool := match lexF 51 0 (midL k on) with
  | .ok ts => decide (ts.map strip = midT k on ++ [(0, ⟨#[]⟩, 0)])
  | .bad _ _ => false
theorem mid_all : ((List.range 13).all fun k => midGood k true && midGood k false) = true := by kernel_rfl
theorem mid_lex {k : Nat} (on : Bool) (hk : k < 13) : ∃ us z, lexL 0 (midL k on) = .ok (us ++ [z]) ∧ us.map strip = midT k on := by
  have h := mid_all
  rw [List.all_eq_true] at h
  have h1 := h k (List.mem_range.2 hk)
  rw [Bool.and_eq_true] at h1
  have hg : midGood k on = true := by cases on; exact h1.2; exact h1.1
  have hl : (midL k on).length < 51 := by
    have := opI_le hk
    unfold midL
    simp only [List.length_append, List.length_cons, sInts_len]
    split <;> split <;> simp <;> omega
  unfold midGood at hg
  rw [← lexF_eq 51 0 _ hl] at hg
  cases e : lexL 0 (midL k on) with
  | bad p c => rw [e] at hg; cases hg
  | ok ts =>
    rw [e] at hg
    obtain ⟨us, e2, _, _⟩ := lexL_toks _ 0 _ ts (Nat.le_refl _) e
    have h3 : ts.map strip = midT k on ++ [(0, ⟨#[]⟩, 0)] := by simpa using hg
    rw [e2, List.map_append] at h3
    exact ⟨us, _, by rw [e2], (List.append_inj' h3 rfl).1⟩
theorem bins_lex {A B : List Int} {ua ub : List Tok} {za zb : Tok} (hA : lexL 0 A = .ok (ua ++ [za])) (hB : lexL 0 B = .ok (ub ++ [zb])) {k : Nat} (hk : k < 13) (on : Bool) :
    ∃ va vm vb o c o2 c2 z, El ua va ∧ El ub vb ∧ vm.map strip = midT k on ∧ OpT o ∧ ClT c ∧ OpT o2 ∧ ClT c2 ∧ z.1 = 0 ∧
      lexL 0 (40 :: (A ++ 41 :: (midL k on ++ 32 :: 40 :: (B ++ [41])))) = .ok (o :: (va ++ c :: (vm ++ o2 :: (vb ++ c2 :: [z])))) := by
  obtain ⟨um, zm, em, hm⟩ := mid_lex on hk
  obtain ⟨_, va, _, a1, _, a2, a3⟩ := lex_gap gap_close (midL k on ++ 32 :: 40 :: (B ++ [41])) _ 0 (0 + 1) A _ (Nat.le_refl _) hA
  obtain ⟨_, vm, _, m1, _, m2, m3⟩ := lex_gap gap_blank (40 :: (B ++ [41])) _ 0 (0 + 1 + A.length + 1) (midL k on) _ (Nat.le_refl _) em
  obtain ⟨_, vb, _, b1, _, b2, b3⟩ := lex_gap gap_close [] _ 0 (0 + 1 + A.length + 1 + (midL k on).length + 1 + 1) B _ (Nat.le_refl _) hB
  rw [← (List.append_inj' a1 rfl).1] at a2
  rw [← (List.append_inj' m1 rfl).1] at m2
  rw [← (List.append_inj' b1 rfl).1] at b2
  have key : lexL 0 (40 :: (A ++ 41 :: (midL k on ++ 32 :: 40 :: (B ++ [41])))) = .ok ((5, ((0 : Nat) : Int), opS, 0) :: (va ++ (5, ((0 + 1 + A.length : Nat) : Int), clS, 0) :: (vm ++ (5, ((0 + 1 + A.length + 1 + (midL k on).length + 1 : Nat) : Int), opS, 0) :: (vb ++ (5, ((0 + 1 + A.length + 1 + (midL k on).length + 1 + 1 + B.length : Nat) : Int), clS, 0) :: [(0, ((0 + 1 + A.length + 1 + (midL k on).length + 1 + 1 + B.length + 1 : Nat) : Int), ⟨#[]⟩, 0)])))) := by
    rw [lex_open, a3, lex_close, m3, lex_blank, lex_open, b3, lex_close, lexL]
    rfl
  exact ⟨va, vm, vb, _, _, _, _, _, a2, b2, by rw [← hm, m2.strip], ⟨rfl, rfl⟩, ⟨rfl, rfl⟩, ⟨rfl, rfl⟩, ⟨rfl, rfl⟩, by rfl, key⟩
end Go.Proofs.Ytnimdngiejcljaa
