/- What is asked of a sample. -/
import Derived.Test.YthkalbiglfgleaaLa
import Derived.Test.YthkalbiglfgleaaEcheck
import Derived.BigQuiet
namespace Go.Proofs.Ythkalbiglfgleaa
set_option maxRecDepth 20000
open Go.RowKit
set_option linter.unusedVariables false

def timeB (t : Int) : Bool := decide (-1099511627776 ≤ t) && decide (t ≤ 1099511627776)
theorem g_inTime (t : Int) (R : Bool) (w : World) (hR : timeB t = R) : Calls Try.prog 28 #[.int .i64 t] w fun e w' => e = .returned (.bool R) ∧ w = w' := by
  subst hR
  unfold timeB
  by_cases h1 : -1099511627776 ≤ t
  · have q1 : decide (-1099511627776 ≤ t) = true := by simpa using h1
    by_cases h2 : t ≤ 1099511627776
    · have q2 : decide (t ≤ 1099511627776) = true := by simpa using h2
      rw [q1, q2]
      clear h1 h2
      go_enter Try.func28, Try.ntmps28
      go_wp2
      go_ret
      exact ⟨rfl, rfl⟩
    · have q2 : decide (t ≤ 1099511627776) = false := by simpa using h2
      rw [q1, q2]
      clear h1 h2
      go_enter Try.func28, Try.ntmps28
      go_wp2
      go_ret
      exact ⟨rfl, rfl⟩
  · have q1 : decide (-1099511627776 ≤ t) = false := by simpa using h1
    rw [q1, Bool.false_and]
    clear h1
    go_enter Try.func28, Try.ntmps28
    go_wp2
    go_ret
    exact ⟨rfl, rfl⟩
/-- May labels be, and as many? -/
def fitB (ls : List Lab) (m : Int) : Bool := decide (1 ≤ ls.length) && decide ((ls.length : Int) ≤ m) && decide (checkR ls = 0)
set_option maxHeartbeats 400000 in
theorem g_fit (a : Option Addr) (ls : List Lab) (L c : Nat) (m : Int) (R : Bool) (w : World) (hx : SRd labE w a ls) (hL : ls.length = L) (hz : L ≤ 4398046511104) (hR : fitB ls m = R) :
    Calls Try.prog 26 #[.slice a L c, .int .i64 m] w fun e w' => e = .returned (.bool R) ∧ w.grownBy w' none := by
  unfold fitB at hR
  rw [hL] at hR
  by_cases h1 : 1 ≤ L
  · have q1 : decide ((1 : Int) ≤ (L : Int)) = true := by simp; omega
    rw [decide_eq_true h1, Bool.true_and] at hR
    by_cases h2 : (L : Int) ≤ m
    · have q2 : decide ((L : Int) ≤ m) = true := by simpa using h2
      rw [q2, Bool.true_and] at hR
      have HC : Hid (Calls Try.prog 33 #[.slice a L c] w fun e w' => e = .returned (.int .i64 (checkR ls)) ∧ w.grownBy w' none) := f_check a ls L c _ w hx hL hz rfl
      clear hx hL
      generalize checkR ls = C at HC hR
      by_cases h3 : C = 0
      · subst h3
        have HS : Hid (true = R) := by rw [decide_eq_true rfl] at hR; exact hR
        clear hR h1 h2
        go_enter Try.func26, Try.ntmps26
        go_wp2_with (go_at_call 33; refine HC.out.mono ?_; rintro e w1 ⟨rfl, hg1⟩)
        go_ret
        exact ⟨ret_bool HS.out, hg1⟩
      · have q3 : (C == 0) = false := by simpa using h3
        have HS : Hid (false = R) := by rw [decide_eq_false h3] at hR; exact hR
        clear hR h1 h2 h3
        go_enter Try.func26, Try.ntmps26
        go_wp2_with (go_at_call 33; refine HC.out.mono ?_; rintro e w1 ⟨rfl, hg1⟩)
        go_ret
        exact ⟨ret_bool HS.out, hg1⟩
    · have q2 : decide ((L : Int) ≤ m) = false := by simpa using h2
      rw [q2, Bool.false_and] at hR
      subst hR
      clear hx hL h1 h2
      go_enter Try.func26, Try.ntmps26
      go_wp2
      go_ret
      exact ⟨rfl, World.grownBy.refl _ _⟩
  · have q1 : decide ((1 : Int) ≤ (L : Int)) = false := by simp; omega
    rw [decide_eq_false h1, Bool.false_and, Bool.false_and] at hR
    subst hR
    clear hx hL
    go_enter Try.func26, Try.ntmps26
    go_wp2
    go_ret
    exact ⟨rfl, World.grownBy.refl _ _⟩
end Go.Proofs.Ythkalbiglfgleaa
