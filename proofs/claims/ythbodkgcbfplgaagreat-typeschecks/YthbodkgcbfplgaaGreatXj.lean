/- Two trees and an operation; one tree and a sum, a rate, a minus: the maths. -/
import Derived.Test.YthbodkgcbfplgaaGreatXf
namespace Go.Proofs.YthbodkgcbfplgaaGreat
open Go.RowKit
set_option linter.unusedVariables false
set_option linter.unusedSimpArgs false
set_option maxRecDepth 20000

/-- One node behind nodes whose types are left. -/
theorem chk_snoc {A : List Nd} {st : List Int} (x : Nd) (h : (runT 0 [] A).1 = 0) (h2 : (runT 0 [] A).2.2 = st) (hl : A.length + 1 ≤ 4096) (hn : (nextT st x).length = 1) :
    chkT (A ++ [x]) = if codeT st x = 0 then ((nextT st x).getD 0 0, 0, 0) else (0, (A.length : Int), codeT st x) := by
  have e : runT 0 [] (A ++ [x]) = if codeT st x = 0 then (0, A.length + 1, nextT st x) else (codeT st x, A.length, st) := by
    rw [runT_app, if_pos h, h2, runT_cons, Nat.zero_add, runT_nil]
  unfold chkT
  rw [e]
  by_cases hc : codeT st x = 0
  · rw [if_pos hc, if_pos hc, if_pos rfl, if_neg (by rw [List.length_append, List.length_singleton]; simp only [hn]; omega)]
  · rw [if_neg hc, if_neg hc, if_neg hc]
def TyB (k : Int) : Prop := k = 1 ∨ k = 2 ∨ k = 3
/-- What an operation makes of two types. -/
def jnB (x y k : Int) : Bool := !(decide (x = 3) || decide (y = 3)) && (decide (k < 11) || (decide (x = 2) && decide (y = 2))) && (!(decide (5 ≤ k) && decide (k ≤ 10)) || decide (x = 2) || decide (y = 2))
theorem jn_code {x y k : Int} (hx : TyB x) (hy : TyB y) (hk : 1 ≤ k ∧ k ≤ 13) : codeT [x, y] (binN k false 0 []) = (if jnB x y k = true then 0 else 192) ∧ nextT [x, y] (binN k false 0 []) = [if x = 1 ∧ y = 1 then 1 else 2] ∨ codeT [x, y] (binN k false 0 []) = 192 ∧ jnB x y k = false ∧ (nextT [x, y] (binN k false 0 [])).length = 1 := by
  have hk2 : k = 1 ∨ k = 2 ∨ k = 3 ∨ k = 4 ∨ k = 5 ∨ k = 6 ∨ k = 7 ∨ k = 8 ∨ k = 9 ∨ k = 10 ∨ k = 11 ∨ k = 12 ∨ k = 13 := by omega
  rcases hx with rfl | rfl | rfl <;> rcases hy with rfl | rfl | rfl <;> rcases hk2 with rfl | rfl | rfl | rfl | rfl | rfl | rfl | rfl | rfl | rfl | rfl | rfl | rfl <;> decide +kernel
theorem chk_join {A B : List Nd} {x i e y i2 e2 k : Int} (h : chkT A = (x, i, e)) (he : e = 0) (h2 : chkT B = (y, i2, e2)) (he2 : e2 = 0) (hl : A.length + B.length ≤ 2000) (hk : 1 ≤ k ∧ k ≤ 13) :
    ∃ n : Int, chkT (A ++ B ++ [binN k false 0 []]) = if jnB x y k = true then (if x = 1 ∧ y = 1 then 1 else 2, 0, 0) else (0, n, 192) := by
  obtain ⟨a1, a2, a3, -⟩ := chk_tree h he
  obtain ⟨b1, b2, b3, -⟩ := chk_tree h2 he2
  obtain ⟨r1, r2⟩ := run_two a1 a2 b1 b2
  refine ⟨((A ++ B).length : Int), ?_⟩
  rcases jn_code a3 b3 hk with ⟨h1, h3⟩ | ⟨h1, h3, h4⟩
  · rw [chk_snoc (binN k false 0 []) r1 r2 (by rw [List.length_append]; omega) (by rw [h3]; rfl), h1, h3]
    cases jnB x y k with
    | true => rfl
    | false => rfl
  · rw [chk_snoc (binN k false 0 []) r1 r2 (by rw [List.length_append]; omega) h4, h1, h3]
    rfl
theorem one_code (x : Int) (hx : TyB x) :
    (codeT [x] (aggN 1 0 []) = (if x = 2 then 0 else 191) ∧ (nextT [x] (aggN 1 0 [])).length = 1) ∧ (codeT [x] (callN 1) = (if x = 3 then 0 else 191) ∧ (nextT [x] (callN 1)).length = 1) ∧ (codeT [x] negN = (if x = 3 then 191 else 0) ∧ (nextT [x] negN).length = 1 ∧ (x = 3 ∨ nextT [x] negN = [x])) := by
  rcases hx with rfl | rfl | rfl <;> decide +kernel
theorem chk_one {A : List Nd} {x i e : Int} (h : chkT A = (x, i, e)) (he : e = 0) (hl : A.length ≤ 2000) :
    (∃ z n : Int, chkT (A ++ [aggN 1 0 []]) = (z, n, if x = 2 then 0 else 191)) ∧ (∃ z n : Int, chkT (A ++ [callN 1]) = (z, n, if x = 3 then 0 else 191)) ∧ (∃ z n : Int, chkT (A ++ [negN]) = (z, n, if x = 3 then 191 else 0) ∧ (x = 3 ∨ z = x)) := by
  obtain ⟨a1, a2, a3, -⟩ := chk_tree h he
  obtain ⟨⟨c1, c2⟩, ⟨d1, d2⟩, e1, e2, e3⟩ := one_code x a3
  refine ⟨?_, ?_, ?_⟩
  · rw [chk_snoc _ a1 a2 (by omega) c2, c1]
    by_cases hx : x = 2
    · rw [if_pos hx, if_pos rfl]; exact ⟨_, _, rfl⟩
    · rw [if_neg hx, if_neg (by decide)]; exact ⟨_, _, rfl⟩
  · rw [chk_snoc _ a1 a2 (by omega) d2, d1]
    by_cases hx : x = 3
    · rw [if_pos hx, if_pos rfl]; exact ⟨_, _, rfl⟩
    · rw [if_neg hx, if_neg (by decide)]; exact ⟨_, _, rfl⟩
  · rw [chk_snoc _ a1 a2 (by omega) e2, e1]
    by_cases hx : x = 3
    · rw [if_pos hx, if_neg (by decide)]; exact ⟨_, _, rfl, .inl hx⟩
    · rw [if_neg hx, if_pos rfl]
      refine ⟨_, _, rfl, .inr ?_⟩
      rcases e3 with e3 | e3
      · exact absurd e3 hx
      · rw [e3]; rfl
theorem r_low (x : Int) (w : World) : Calls Tryz.prog 13 #[.int .i64 x] w fun e w' => e = .returned (.int .i64 (bits .and .i64 x 9223372036854775807)) ∧ w = w' := by
  go_enter Tryz.func13, Tryz.ntmps13
  go_wp2
  go_ret
  exact ⟨rfl, rfl⟩
theorem low_rem (x : Int) (m : Nat) (hm : 0 < m) : ∃ k : Nat, k < m ∧ (bits .and .i64 x 9223372036854775807).tmod (m : Int) = (k : Int) := by
  have h := and_low x
  generalize bits .and .i64 x 9223372036854775807 = X at h
  have h2 := Int.tmod_nonneg (m : Int) h.1
  have h3 := Int.tmod_lt_of_pos X (by omega : (0 : Int) < (m : Int))
  exact ⟨(X.tmod (m : Int)).toNat, by omega, by omega⟩
end Go.Proofs.YthbodkgcbfplgaaGreat
