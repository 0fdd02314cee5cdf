/- Several texts in one: MtMform, MtMchk. -/
import Derived.Test.YtpabbmiibehfjaaGreatDoorGh
import Derived.Test.YtpabbmiibehfjaaGreatDoorGw
import Derived.Test.YtpabbmiibehfjaaGreatDoorMtRlk
import Derived.Laws.EntriesVeiled
/- The program's own questions, names and forms of matchers; Check. -/
namespace Go.Proofs.YtpabbmiibehfjaaGreatDoor.Mt
open Go.RowKit
set_option linter.unusedVariables false

def qOf (k : Int) : Value := if k = 1 then .func (.func 95) #[] #[] else if k = 2 then .func (.func 96) #[] #[] else if k = 3 then .func (.methodOf 117 "tidewrack/match.like") #[] #[] else if k = 4 then .func (.func 98) #[] #[] else .nilFunc
def row5 : Array Value := #[.nilFunc, .func (.func 95) #[] #[], .func (.func 96) #[] #[], .func (.methodOf 117 "tidewrack/match.like") #[] #[], .func (.func 98) #[] #[]]
theorem size61 : (Tryz.prog.info? 128).map (·.size) = some 5 := by kernel_rfl
theorem m_questions (w : World) : Calls Tryz.prog 84 #[] w fun e w' => e = .returned (.agg #[.nilFunc, .func (.func 95) #[] #[], .func (.func 96) #[] #[], .func (.methodOf 117 "tidewrack/match.like") #[] #[], .func (.func 98) #[] #[]]) ∧ w.alloc (.cells row5 128) = w' := by
  go_enter Tryz.func84, Tryz.ntmps84
  go_wp2
  refine bodyPost_ret (v := .agg #[.nilFunc, .func (.func 95) #[] #[], .func (.func 96) #[] #[], .func (.methodOf 117 "tidewrack/match.like") #[] #[], .func (.func 98) #[] #[]]) (results_cell_row Tryz.results84 _ _ w.heap.size 128 _ (0, 0) _ rfl (heap_alloc_new w _) Tryz.underlying128 rfl size61) rfl ⟨rfl, rfl⟩
set_option maxHeartbeats 400000 in
theorem m_question (k : Int) (w : World) : Calls Tryz.prog 73 #[.int .i64 k] w fun e w' => e = .returned (qOf k) ∧ w.grownBy w' none := by
  have HQ : Hid (∀ w, Calls Tryz.prog 84 #[] w fun e w' => e = .returned (.agg #[.nilFunc, .func (.func 95) #[] #[], .func (.func 96) #[] #[], .func (.methodOf 117 "tidewrack/match.like") #[] #[], .func (.func 98) #[] #[]]) ∧ w.alloc (.cells row5 128) = w') := m_questions
  have hg : ∀ o, w.grownBy ((w.alloc (.cells row5 128)).alloc o) none := fun o => (World.grownBy_alloc w _ none).trans (World.grownBy_alloc _ _ none)
  by_cases h1 : k < 0
  · have e : qOf k = .nilFunc := by unfold qOf; rw [if_neg (by omega), if_neg (by omega), if_neg (by omega), if_neg (by omega)]
    rw [e]
    go_enter Tryz.func73, Tryz.ntmps73
    go_wp2_with (go_at_call 84; refine (HQ.out _).mono ?_; rintro e w' ⟨rfl, rfl⟩)
    go_ret
    exact ⟨rfl, hg _⟩
  · by_cases h5 : 5 ≤ k
    · have e : qOf k = .nilFunc := by unfold qOf; rw [if_neg (by omega), if_neg (by omega), if_neg (by omega), if_neg (by omega)]
      rw [e]
      go_enter Tryz.func73, Tryz.ntmps73
      go_wp2_with (go_at_call 84; refine (HQ.out _).mono ?_; rintro e w' ⟨rfl, rfl⟩)
      go_ret
      exact ⟨rfl, hg _⟩
    · have hk : k = 0 ∨ k = 1 ∨ k = 2 ∨ k = 3 ∨ k = 4 := by omega
      clear h1 h5
      rcases hk with rfl | rfl | rfl | rfl | rfl
      all_goals
        go_enter Tryz.func73, Tryz.ntmps73
        go_wp2_with (go_at_call 84; refine (HQ.out _).mono ?_; rintro e w' ⟨rfl, rfl⟩)
        go_ret
        exact ⟨rfl, hg _⟩
theorem neq_func (f : Fn) (w : World) : (binOp BinOp.neq 112 (Value.func f #[] #[]) Value.nilFunc).run Tryz.prog w = .ok (.bool true) w := by kernel_rfl
theorem neq_nil (w : World) : (binOp BinOp.neq 112 Value.nilFunc Value.nilFunc).run Tryz.prog w = .ok (.bool false) w := by kernel_rfl
end Go.Proofs.YtpabbmiibehfjaaGreatDoor.Mt

/- The program's own form of a matcher, and Check. -/
namespace Go.Proofs.YtpabbmiibehfjaaGreatDoor.Mt
open Go.RowKit
set_option linter.unusedVariables false

theorem q_nil {k : Int} (h : k < 1 ∨ 4 < k) : qOf k = .nilFunc := by unfold qOf; rw [if_neg (by omega), if_neg (by omega), if_neg (by omega), if_neg (by omega)]
theorem q_func {k : Int} (h : ¬ (k < 1 ∨ 4 < k)) : ∃ f, qOf k = .func f #[] #[] := by
  have hk : k = 1 ∨ k = 2 ∨ k = 3 ∨ k = 4 := by omega
  rcases hk with rfl | rfl | rfl | rfl
  · exact ⟨_, rfl⟩
  · exact ⟨_, rfl⟩
  · exact ⟨_, rfl⟩
  · exact ⟨_, rfl⟩
theorem bad_kind {k : Int} {n v : ByteArray} (h : k < 1 ∨ 4 < k) : badM (k, n, v) = true := by
  unfold badM
  rcases h with h | h <;> simp [h]
theorem bad_rest {k : Int} {n v : ByteArray} (h : ¬ (k < 1 ∨ 4 < k)) : badM (k, n, v) = (!nameR n || decide (256 < v.size)) := by
  unfold badM
  have h1 : ¬ k < 1 := by omega
  have h2 : ¬ 4 < k := by omega
  simp [h1, h2]
end Go.Proofs.YtpabbmiibehfjaaGreatDoor.Mt

