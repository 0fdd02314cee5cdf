/- Lex of any text; awake. -/
import Derived.Test.YtkocdmkojoefoaaLy
import Derived.Test.YtkocdmkojoefoaaTk
import Derived.BigQuiet
namespace Go.Proofs.Ytkocdmkojoefoaa
open Go.RowKit
set_option linter.unusedVariables false
set_option maxRecDepth 20000

theorem f_lex (s : ByteArray) (w : World) : Calls Try.prog 9 #[.string s] w fun e w' => LxOut (lexR s) w e w' := by
  unfold lexR
  by_cases h : 4096 < s.size
  · rw [if_pos h]
    have q0 : decide ((4096 : Int) < (s.size : Int)) = true := by simp; omega
    have q1 : (4096 : Int) < (s.size : Int) := by omega
    have HG : Hid (w.grownBy (w.alloc (.cells #[.int .i64 0, .int .i64 0, .string ⟨#[]⟩, .int .i64 0] 32)) none) := World.grownBy_alloc w _ none
    clear h
    go_enter Try.func9, Try.ntmps9
    go_wp2_with fail
    refine wp_scope_straight ?_
    go_wp2
    simp +zetaDelta only [Exit.noGoto_ret]
    refine bodyPost_ret (v := .tuple #[.slice none 0 0, .int .i64 0, .int .i64 170]) (by simp [results, Try.results9, go_sem]) rfl ?_
    exact ⟨rfl, HG.out⟩
  · rw [if_neg h]
    exact f_lexR s _ w (by omega) rfl
def lexF : Nat → Nat → List Int → Lx
  | 0, at_, _ => .bad at_ 0
  | f + 1, at_, [] => .ok [(0, (at_ : Int), ⟨#[]⟩, 0)]
  | f + 1, at_, c :: r =>
    if blankB c = true then lexF f (at_ + 1) r
    else if (tokR (c :: r)).1.2.2.2 = 0 then .bad at_ (tokR (c :: r)).2
    else .cons ((tokR (c :: r)).1.1, (at_ : Int), (tokR (c :: r)).1.2.1, (tokR (c :: r)).1.2.2.1) (lexF f (at_ + (tokR (c :: r)).1.2.2.2) (r.drop ((tokR (c :: r)).1.2.2.2 - 1)))
theorem lexF_eq : ∀ (f at_ : Nat) (l : List Int), l.length < f → lexL at_ l = lexF f at_ l := by
  intro f
  induction f with
  | zero => intro at_ l h; omega
  | succ f ih =>
    intro at_ l h
    match l with
    | [] => rw [lexL, lexF]
    | c :: r =>
      simp only [List.length_cons] at h
      rw [lexL, lexF, ih _ r (by omega), ih _ (r.drop _) (by rw [List.length_drop]; omega)]
theorem lex_lit (s : ByteArray) (l : List Int) (R : Lx) (hl : sInts s = l) (hs : l.length ≤ 50) (h : lexF 51 0 l = R) : lexR s = R := by
  unfold lexR
  rw [if_neg (by rw [← sInts_len, hl]; omega), hl, lexF_eq 51 0 l (by omega), h]
def aw8 : List Tok := [(3, 0, ⟨#[114, 97, 116, 101]⟩, 0), (5, 4, ⟨#[40]⟩, 0), (3, 5, ⟨#[120]⟩, 0), (5, 6, ⟨#[91]⟩, 0), (2, 7, ⟨#[53, 109]⟩, 300), (5, 9, ⟨#[93]⟩, 0), (5, 10, ⟨#[41]⟩, 0), (0, 11, ⟨#[]⟩, 0)]
theorem aw_one : lexR ⟨#[114, 97, 116, 101, 40, 120, 91, 53, 109, 93, 41]⟩ = .ok aw8 := lex_lit _ _ _ rfl (by decide) (by rfl)
theorem aw_two : lexR ⟨#[120, 32, 36]⟩ = .bad 2 171 := lex_lit _ _ _ rfl (by decide) (by rfl)
theorem tok_cells {w : World} {b off i : Nat} {ts : List Tok} {q : Tok} (h : SRd tokE w (some ⟨b, off, none⟩) ts) (hq : ts[i]? = some q) :
    w.cell? ⟨b, off + i * 4, none⟩ = some (.int .i64 q.1) ∧ w.cell? ⟨b, off + i * 4 + 1, none⟩ = some (.int .i64 q.2.1) ∧ w.cell? ⟨b, off + i * 4 + 2, none⟩ = some (.string q.2.2.1) ∧ w.cell? ⟨b, off + i * 4 + 3, none⟩ = some (.int .i64 q.2.2.2) := by
  obtain ⟨b', off', e, hc⟩ := h.at (by have := (List.getElem?_eq_some_iff.1 hq).1; omega)
  cases e
  refine ⟨hc i q 0 _ hq rfl, ?_, ?_, ?_⟩
  · rw [Nat.add_assoc]; exact hc i q 1 _ hq rfl
  · rw [Nat.add_assoc]; exact hc i q 2 _ hq rfl
  · rw [Nat.add_assoc]; exact hc i q 3 _ hq rfl
theorem lx_slice {w w' : World} {e : Ending} {ts : List Tok} (h : LxOut (.ok ts) w e w') (hn : ts ≠ []) : ∃ g c, e = .returned (.tuple #[.slice (some ⟨g, 0, none⟩) ts.length c, .int .i64 0, .int .i64 0]) ∧ SOwn tokE 32 w' w.heap.size (.slice (some ⟨g, 0, none⟩) ts.length c) ts.length ts ∧ w.grownBy w' none := by
  obtain ⟨a, c, he, ho, hg⟩ := h
  obtain ⟨g, c2, e2, _⟩ := SOwn.some ho (fun e2 => by
    simp only [Value.slice.injEq] at e2
    exact hn (List.eq_nil_of_length_eq_zero e2.2.1))
  simp only [Value.slice.injEq] at e2
  obtain ⟨rfl, _, rfl⟩ := e2
  exact ⟨g, c, he, ho, hg⟩
set_option maxHeartbeats 4000000 in
theorem f_awake (w : World) : Calls Try.prog 12 #[] w fun e w' => e = .returned (.bool true) ∧ w.grownBy w' none := by
  have HC1 : Hid (∀ w, Calls Try.prog 9 #[.string ⟨#[114, 97, 116, 101, 40, 120, 91, 53, 109, 93, 41]⟩] w fun e w' => ∃ g c, e = .returned (.tuple #[.slice (some ⟨g, 0, none⟩) 8 c, .int .i64 0, .int .i64 0]) ∧ SOwn tokE 32 w' w.heap.size (.slice (some ⟨g, 0, none⟩) 8 c) 8 aw8 ∧ w.grownBy w' none) := fun w => (f_lex _ w).mono fun e w' h => by
    rw [aw_one] at h
    exact lx_slice h (by unfold aw8; simp)
  have HC2 : Hid (∀ w, Calls Try.prog 9 #[.string ⟨#[120, 32, 36]⟩] w fun e w' => e = .returned (.tuple #[.slice none 0 0, .int .i64 2, .int .i64 171]) ∧ w.grownBy w' none) := fun w => (f_lex _ w).mono fun e w' h => by
    rw [aw_two] at h
    exact h
  go_enter Try.func12, Try.ntmps12
  go_wp2_with fail
  refine (HC1.out _).mono ?_
  rintro e w1 ⟨g, c, rfl, ho, hg1⟩
  have HO := hid ho
  have HG1 := hid hg1
  clear ho hg1 HC1
  go_wp2_with fail
  refine (HC2.out _).mono ?_
  rintro e w2 ⟨rfl, hg2⟩
  have HG2 : Hid (w.grownBy w2 none) := HG1.out.trans hg2
  have ho2 := SOwn.kept HO.out hg2 (Classical.em _)
  obtain ⟨r0, r1, r2, r3⟩ := tok_cells (i := 4) (q := (2, 7, ⟨#[53, 109]⟩, 300)) (SOwn.rd ho2) rfl
  have hq : ∀ w, (binOp .eql 32 (.agg #[.int .i64 2, .int .i64 7, .string ⟨#[53, 109]⟩, .int .i64 300]) (.agg #[.int .i64 2, .int .i64 7, .string ⟨#[53, 109]⟩, .int .i64 300])).run Try.prog w = .ok (.bool true) w := fun w => by
    rw [eql32, decide_eq_true rfl]
  clear HO HG1 hg2 ho2 HC2
  simp only [Nat.zero_add] at r0 r1 r2 r3
  go_wp2
  go_ret
  exact ⟨rfl, HG2.out⟩
end Go.Proofs.Ytkocdmkojoefoaa
