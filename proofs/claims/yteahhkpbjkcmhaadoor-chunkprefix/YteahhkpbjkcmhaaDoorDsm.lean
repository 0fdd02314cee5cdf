/- Small calls of package chunk. -/
import Derived.Test.YteahhkpbjkcmhaaDoorMb
import Derived.Test.YteahhkpbjkcmhaaDoorMh
import Derived.Test.YteahhkpbjkcmhaaDoorRpts
import Derived.Test.YteahhkpbjkcmhaaDoorRzero
namespace Go.Proofs.YteahhkpbjkcmhaaDoor
open Go.RowKit
set_option linter.unusedVariables false

/-- What a number of so many bits as form k has stands for. -/
def sg (k : Nat) (u : Int) : Int := if k = 0 then 0 else sgn (bitsN k) (u % 2 ^ bitsN k)
theorem wrap64_val (x : Int) (h0 : 0 ≤ x) (h1 : x < 18446744073709551616) : IntKind.i64.wrap x = if x < 9223372036854775808 then x else x - 18446744073709551616 := by
  unfold IntKind.wrap
  simp only [IntKind.bits, IntKind.signed]
  simp
  split <;> split <;> omega
theorem wrap_u64_id (u : Int) (h : 0 ≤ u ∧ u < 18446744073709551616) : IntKind.u64.wrap u = u := by
  unfold IntKind.wrap; simp only [IntKind.bits, IntKind.signed]; simp; omega
theorem sg_is (k : Nat) (hk : k ≤ 4) (u : Int) (h0 : 0 ≤ u) (h1 : u ≤ 18446744073709551615) : IntKind.i64.wrap (IntKind.u64.wrap (u * 2 ^ (64 - bitsN k))) / 2 ^ (64 - bitsN k) = sg k u := by
  have hu : ∀ x : Int, IntKind.u64.wrap x = x % 18446744073709551616 := fun x => by
    unfold IntKind.wrap; simp [IntKind.bits, IntKind.signed]
  rw [hu, wrap64_val _ (by omega) (by omega)]
  unfold sg sgn
  match k, hk with
  | 0, _ => simp [bitsN]
  | 1, _ => simp only [bitsN]; simp; split <;> split <;> omega
  | 2, _ => simp only [bitsN]; simp; split <;> split <;> omega
  | 3, _ => simp only [bitsN]; simp; split <;> split <;> omega
  | 4, _ => simp only [bitsN]; simp; try (split <;> (try split) <;> omega)
set_option maxHeartbeats 1000000 in
theorem d_signed (k : Nat) (hk : k ≤ 4) (u : Int) (w : World) (h0 : 0 ≤ u) (h1 : u ≤ 18446744073709551615) :
    Calls Tryd.prog 57 #[.int .u64 u, .int .i64 (bitsN k)] w fun e w' => e = .returned (.int .i64 (sg k u)) ∧ w = w' := by
  match k, hk with
  | 0, _ =>
    have e := sg_is 0 (by decide) u h0 h1
    go_enter Tryd.func57, Tryd.ntmps57
    simp only [bitsN]
    go_wp2
    go_ret
    exact ⟨ret_int (by rw [← e, wrap64_is]; rfl), rfl⟩
  | 1, _ =>
    have e := sg_is 1 (by decide) u h0 h1
    go_enter Tryd.func57, Tryd.ntmps57
    simp only [bitsN]
    go_wp2
    go_ret
    exact ⟨ret_int (by rw [← e, wrap64_is]; rfl), rfl⟩
  | 2, _ =>
    have e := sg_is 2 (by decide) u h0 h1
    go_enter Tryd.func57, Tryd.ntmps57
    simp only [bitsN]
    go_wp2
    go_ret
    exact ⟨ret_int (by rw [← e, wrap64_is]; rfl), rfl⟩
  | 3, _ =>
    have e := sg_is 3 (by decide) u h0 h1
    go_enter Tryd.func57, Tryd.ntmps57
    simp only [bitsN]
    go_wp2
    go_ret
    exact ⟨ret_int (by rw [← e, wrap64_is]; rfl), rfl⟩
  | 4, _ =>
    have e := sg_is 4 (by decide) u h0 h1
    go_enter Tryd.func57, Tryd.ntmps57
    simp only [bitsN]
    go_wp2
    go_ret
    exact ⟨ret_int (by rw [← e, wrap64_is]; simp [bitsN, wrap_u64_id u (by omega)]), rfl⟩
def winV (a b : Int) : Value := .agg #[.int .i64 a, .int .i64 b]
theorem d_width (a b : Nat) (w : World) (h : a + b ≤ 64) :
    Calls Tryd.prog 40 #[.agg #[.int .i64 a, .int .i64 b]] w fun e w' => e = .returned (.int .i64 ((64 - a - b : Nat) : Int)) ∧ w' = w.alloc (.cells #[.int .i64 a, .int .i64 b] 64) := by
  have e1 : (64 : Int) - (a : Int) - (b : Int) = ((64 - a - b : Nat) : Int) := by omega
  go_enter Tryd.func40, Tryd.ntmps40
  go_wp2
  go_ret
  exact ⟨rfl, rfl⟩
theorem d_takes (a b c d : Int) (w : World) :
    Calls Tryd.prog 39 #[.agg #[.int .i64 a, .int .i64 b], .agg #[.int .i64 c, .int .i64 d]] w fun e w' => e = .returned (.bool (decide (a ≤ c) && decide (b ≤ d))) ∧ w' = (w.alloc (.cells #[.int .i64 a, .int .i64 b] 64)).alloc (.cells #[.int .i64 c, .int .i64 d] 64) := by
  by_cases h1 : a ≤ c
  · have q1 : decide (a ≤ c) = true := by simp; omega
    go_enter Tryd.func39, Tryd.ntmps39
    go_wp2
    go_ret
    exact ⟨by rw [q1]; rfl, rfl⟩
  · have q1 : decide (a ≤ c) = false := by simp; omega
    go_enter Tryd.func39, Tryd.ntmps39
    go_wp2
    go_ret
    exact ⟨rfl, rfl⟩
theorem d_noWindow (w : World) : Calls Tryd.prog 50 #[] w fun e w' => e = .returned (.agg #[.int .i64 64, .int .i64 0]) ∧ w' = w.alloc (.cells #[.int .i64 64, .int .i64 0] 64) := by
  go_enter Tryd.func50, Tryd.ntmps50
  go_wp2
  refine bodyPost_ret (v := .agg #[.int .i64 64, .int .i64 0]) (by simp [results, Tryd.results50, go_sem]) rfl ⟨rfl, rfl⟩
theorem d_newTrail (w : World) : Calls Tryd.prog 35 #[] w fun e w' => e = .returned (.agg #[.int .i64 0, .int .u64 0, .int .i64 0, .int .i64 64, .int .i64 0]) ∧ w.grownBy w' none := by
  go_enter Tryd.func35, Tryd.ntmps35
  go_wp2_with fail
  go_at_call 50
  refine (d_noWindow _).mono ?_
  rintro e w' ⟨rfl, rfl⟩
  go_wp2
  refine bodyPost_ret (v := .agg #[.int .i64 0, .int .u64 0, .int .i64 0, .int .i64 64, .int .i64 0]) (by simp [results, Tryd.results35, go_sem]) rfl ⟨rfl, ?_⟩
  exact gb_new (World.grownBy.refl w none) (World.grownBy_alloc _ _ none)
end Go.Proofs.YteahhkpbjkcmhaaDoor
