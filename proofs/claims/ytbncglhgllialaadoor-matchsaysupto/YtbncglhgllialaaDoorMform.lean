/- The program's own questions, names and forms of matchers; Check. -/
import Derived.Test.YtbncglhgllialaaDoorEcheck
import Derived.Test.YtbncglhgllialaaDoorEget
import Derived.Test.YtbncglhgllialaaDoorRlk
import Derived.Laws.EntriesVeiled
namespace Go.Proofs.YtbncglhgllialaaDoor
open Go.RowKit
set_option linter.unusedVariables false

theorem valid_x : Lb.validR ⟨#[120]⟩ = true := by
  unfold Lb.validR
  have h : Lb.vfrom ⟨#[120]⟩ 0 = true := by
    rw [Lb.vstep1 ⟨#[120]⟩ 0 (by decide) (by decide)]
    unfold Lb.vfrom
    rw [dif_neg (by decide)]
    rfl
  rw [h]
  rfl
theorem check_one (s : ByteArray) : (Lb.checkR [(s, ⟨#[120]⟩)] = 0) ↔ nameR s = true := by
  unfold Lb.checkR Lb.chk
  rw [if_neg (by simp)]
  cases h : nameR s with
  | false => simp
  | true => simp [valid_x, Lb.sortB, Lb.chk]
set_option maxHeartbeats 400000 in
theorem m_name (s : ByteArray) (w : World) : Calls Tryd.prog 33 #[.string s] w fun e w' => e = .returned (.bool (nameR s)) ∧ w.grownBy w' none := by
  obtain ⟨R, eR⟩ : ∃ R, Lb.checkR [(s, ⟨#[120]⟩)] = R := ⟨_, rfl⟩
  have HE : Hid (decide (R = 0) = nameR s) := by
    show _ = _
    rw [Bool.eq_iff_iff, decide_eq_true_eq, ← eR]
    exact check_one s
  have HC : Hid (Calls Tryd.prog 40 #[.slice (some ⟨w.heap.size, 0, none⟩) 1 1] (w.alloc (Obj.cells #[Value.string s, Value.string ⟨#[120]⟩] 39)) fun e w' => e = .returned (.int .i64 R) ∧ (w.alloc (Obj.cells #[Value.string s, Value.string ⟨#[120]⟩] 39)).grownBy w' none) := by
    refine Lb.f_check _ [(s, ⟨#[120]⟩)] 1 1 R _ (.inr ⟨w.heap.size, 0, rfl, ?_⟩) rfl (by omega) eR
    intro j v hj
    have hj : [Value.string s, Value.string ⟨#[120]⟩][j]? = some v := hj
    have hc : (w.alloc (Obj.cells #[Value.string s, Value.string ⟨#[120]⟩] 39)).heap[w.heap.size]? = some (Obj.cells #[Value.string s, Value.string ⟨#[120]⟩] 39) := World.alloc_heap_new w _
    simp only [World.cell?, hc, Nat.zero_add]
    simpa using hj
  clear eR
  by_cases hR : R = 0
  · have HN : Hid (true = nameR s) := by have h := HE.out; rw [decide_eq_true hR] at h; exact h
    subst hR
    go_enter Tryd.func33, Tryd.ntmps33
    go_wp2_with fail
    refine HC.out.mono ?_
    rintro e w1 ⟨rfl, hg⟩
    have HG : Hid (w.grownBy w1 none) := (World.grownBy_alloc w _ none).trans hg
    clear hg HC
    go_wp2
    go_ret
    exact ⟨ret_bool HN.out, HG.out⟩
  · have HN : Hid (false = nameR s) := by have h := HE.out; rw [decide_eq_false hR] at h; exact h
    have q : (R == 0) = false := by simpa using hR
    go_enter Tryd.func33, Tryd.ntmps33
    go_wp2_with fail
    refine HC.out.mono ?_
    rintro e w1 ⟨rfl, hg⟩
    have HG : Hid (w.grownBy w1 none) := (World.grownBy_alloc w _ none).trans hg
    clear hg HC
    go_wp2
    go_ret
    exact ⟨ret_bool HN.out, HG.out⟩
def qOf (k : Int) : Value := if k = 1 then .func (.func 49) #[] #[] else if k = 2 then .func (.func 50) #[] #[] else if k = 3 then .func (.methodOf 51 "tidewrack/match.like") #[] #[] else if k = 4 then .func (.func 51) #[] #[] else .nilFunc
def row5 : Array Value := #[.nilFunc, .func (.func 49) #[] #[], .func (.func 50) #[] #[], .func (.methodOf 51 "tidewrack/match.like") #[] #[], .func (.func 51) #[] #[]]
theorem size61 : (Tryd.prog.info? 61).map (·.size) = some 5 := by kernel_rfl
theorem m_questions (w : World) : Calls Tryd.prog 39 #[] w fun e w' => e = .returned (.agg #[.nilFunc, .func (.func 49) #[] #[], .func (.func 50) #[] #[], .func (.methodOf 51 "tidewrack/match.like") #[] #[], .func (.func 51) #[] #[]]) ∧ w.alloc (.cells row5 61) = w' := by
  go_enter Tryd.func39, Tryd.ntmps39
  go_wp2
  refine bodyPost_ret (v := .agg #[.nilFunc, .func (.func 49) #[] #[], .func (.func 50) #[] #[], .func (.methodOf 51 "tidewrack/match.like") #[] #[], .func (.func 51) #[] #[]]) (results_cell_row Tryd.results39 _ _ w.heap.size 61 _ (0, 0) _ rfl (heap_alloc_new w _) Tryd.underlying61 rfl size61) rfl ⟨rfl, rfl⟩
set_option maxHeartbeats 400000 in
theorem m_question (k : Int) (w : World) : Calls Tryd.prog 32 #[.int .i64 k] w fun e w' => e = .returned (qOf k) ∧ w.grownBy w' none := by
  have HQ : Hid (∀ w, Calls Tryd.prog 39 #[] w fun e w' => e = .returned (.agg #[.nilFunc, .func (.func 49) #[] #[], .func (.func 50) #[] #[], .func (.methodOf 51 "tidewrack/match.like") #[] #[], .func (.func 51) #[] #[]]) ∧ w.alloc (.cells row5 61) = w') := m_questions
  have hg : ∀ o, w.grownBy ((w.alloc (.cells row5 61)).alloc o) none := fun o => (World.grownBy_alloc w _ none).trans (World.grownBy_alloc _ _ none)
  by_cases h1 : k < 0
  · have e : qOf k = .nilFunc := by unfold qOf; rw [if_neg (by omega), if_neg (by omega), if_neg (by omega), if_neg (by omega)]
    rw [e]
    go_enter Tryd.func32, Tryd.ntmps32
    go_wp2_with (go_at_call 39; refine (HQ.out _).mono ?_; rintro e w' ⟨rfl, rfl⟩)
    go_ret
    exact ⟨rfl, hg _⟩
  · by_cases h5 : 5 ≤ k
    · have e : qOf k = .nilFunc := by unfold qOf; rw [if_neg (by omega), if_neg (by omega), if_neg (by omega), if_neg (by omega)]
      rw [e]
      go_enter Tryd.func32, Tryd.ntmps32
      go_wp2_with (go_at_call 39; refine (HQ.out _).mono ?_; rintro e w' ⟨rfl, rfl⟩)
      go_ret
      exact ⟨rfl, hg _⟩
    · have hk : k = 0 ∨ k = 1 ∨ k = 2 ∨ k = 3 ∨ k = 4 := by omega
      clear h1 h5
      rcases hk with rfl | rfl | rfl | rfl | rfl
      all_goals
        go_enter Tryd.func32, Tryd.ntmps32
        go_wp2_with (go_at_call 39; refine (HQ.out _).mono ?_; rintro e w' ⟨rfl, rfl⟩)
        go_ret
        exact ⟨rfl, hg _⟩
theorem neq_func (f : Fn) (w : World) : (binOp BinOp.neq 48 (Value.func f #[] #[]) Value.nilFunc).run Tryd.prog w = .ok (.bool true) w := by kernel_rfl
theorem neq_nil (w : World) : (binOp BinOp.neq 48 Value.nilFunc Value.nilFunc).run Tryd.prog w = .ok (.bool false) w := by kernel_rfl
end Go.Proofs.YtbncglhgllialaaDoor
