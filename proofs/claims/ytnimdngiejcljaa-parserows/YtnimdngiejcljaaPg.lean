/- Package match: Check. -/
import Derived.Test.YtnimdngiejcljaaPf
import Derived.Laws.EntriesVeiled
namespace Go.Proofs.Ytnimdngiejcljaa
open Go.RowKit
set_option linter.unusedVariables false
set_option linter.unusedSimpArgs false
set_option maxRecDepth 20000

def qOf (k : Int) : Value := if k = 1 then .func (.func 92) #[] #[] else if k = 2 then .func (.func 93) #[] #[] else if k = 3 then .func (.methodOf 103 "tidewrack/match.like") #[] #[] else if k = 4 then .func (.func 95) #[] #[] else .nilFunc
def row5 : Array Value := #[.nilFunc, .func (.func 92) #[] #[], .func (.func 93) #[] #[], .func (.methodOf 103 "tidewrack/match.like") #[] #[], .func (.func 95) #[] #[]]
theorem size98 : (Try.prog.info? 98).map (·.size) = some 5 := by kernel_rfl
theorem m_questions (w : World) : Calls Try.prog 91 #[] w fun e w' => e = .returned (.agg #[.nilFunc, .func (.func 92) #[] #[], .func (.func 93) #[] #[], .func (.methodOf 103 "tidewrack/match.like") #[] #[], .func (.func 95) #[] #[]]) ∧ w.alloc (.cells row5 98) = w' := by
  go_enter Try.func91, Try.ntmps91
  go_wp2
  refine bodyPost_ret (v := .agg #[.nilFunc, .func (.func 92) #[] #[], .func (.func 93) #[] #[], .func (.methodOf 103 "tidewrack/match.like") #[] #[], .func (.func 95) #[] #[]]) (results_cell_row Try.results91 _ _ w.heap.size 98 _ (0, 0) _ rfl (heap_alloc_new w _) Try.underlying98 rfl size98) rfl ⟨rfl, rfl⟩
set_option maxHeartbeats 400000 in
theorem m_question (k : Int) (w : World) : Calls Try.prog 90 #[.int .i64 k] w fun e w' => e = .returned (qOf k) ∧ w.grownBy w' none := by
  have HQ : Hid (∀ w, Calls Try.prog 91 #[] w fun e w' => e = .returned (.agg #[.nilFunc, .func (.func 92) #[] #[], .func (.func 93) #[] #[], .func (.methodOf 103 "tidewrack/match.like") #[] #[], .func (.func 95) #[] #[]]) ∧ w.alloc (.cells row5 98) = w') := m_questions
  have hg : ∀ o, w.grownBy ((w.alloc (.cells row5 98)).alloc o) none := fun o => (World.grownBy_alloc w _ none).trans (World.grownBy_alloc _ _ none)
  by_cases h1 : k < 0
  · have e : qOf k = .nilFunc := by unfold qOf; rw [if_neg (by omega), if_neg (by omega), if_neg (by omega), if_neg (by omega)]
    rw [e]
    go_enter Try.func90, Try.ntmps90
    go_wp2_with (go_at_call 91; refine (HQ.out _).mono ?_; rintro e w' ⟨rfl, rfl⟩)
    go_ret
    exact ⟨rfl, hg _⟩
  · by_cases h5 : 5 ≤ k
    · have e : qOf k = .nilFunc := by unfold qOf; rw [if_neg (by omega), if_neg (by omega), if_neg (by omega), if_neg (by omega)]
      rw [e]
      go_enter Try.func90, Try.ntmps90
      go_wp2_with (go_at_call 91; refine (HQ.out _).mono ?_; rintro e w' ⟨rfl, rfl⟩)
      go_ret
      exact ⟨rfl, hg _⟩
    · have hk : k = 0 ∨ k = 1 ∨ k = 2 ∨ k = 3 ∨ k = 4 := by omega
      clear h1 h5
      rcases hk with rfl | rfl | rfl | rfl | rfl
      all_goals
        go_enter Try.func90, Try.ntmps90
        go_wp2_with (go_at_call 91; refine (HQ.out _).mono ?_; rintro e w' ⟨rfl, rfl⟩)
        go_ret
        exact ⟨rfl, hg _⟩
theorem neq_func (f : Fn) (w : World) : (binOp BinOp.neq 96 (Value.func f #[] #[]) Value.nilFunc).run Try.prog w = .ok (.bool true) w := by kernel_rfl
theorem neq_nil (w : World) : (binOp BinOp.neq 96 Value.nilFunc Value.nilFunc).run Try.prog w = .ok (.bool false) w := by kernel_rfl
theorem q_nil {k : Int} (h : k < 1 ∨ 4 < k) : qOf k = .nilFunc := by unfold qOf; rw [if_neg (by omega), if_neg (by omega), if_neg (by omega), if_neg (by omega)]
theorem q_func {k : Int} (h : ¬ (k < 1 ∨ 4 < k)) : ∃ f, qOf k = .func f #[] #[] := by
  have hk : k = 1 ∨ k = 2 ∨ k = 3 ∨ k = 4 := by omega
  rcases hk with rfl | rfl | rfl | rfl
  · exact ⟨_, rfl⟩
  · exact ⟨_, rfl⟩
  · exact ⟨_, rfl⟩
  · exact ⟨_, rfl⟩
theorem cell3r {w : World} {g : Nat} {x y z : Value} {t : TypeId} (h : w.heap[g]? = some (.cells #[x, y, z] t (0, 0))) : w.cell? ⟨g, 0, none⟩ = some x ∧ w.cell? ⟨g, 1, none⟩ = some y ∧ w.cell? ⟨g, 2, none⟩ = some z :=
  ⟨by rw [cell_of_row _ _ _ _ _ _ h]; rfl, by rw [cell_of_row _ _ _ _ _ _ h]; rfl, by rw [cell_of_row _ _ _ _ _ _ h]; rfl⟩
theorem bad_kind {k : Int} {n v : ByteArray} (h : k < 1 ∨ 4 < k) : matB (k, n, v) = false := by
  unfold matB
  rcases h with h | h
  · rw [decide_eq_false (by omega : ¬ 1 ≤ k)]; rfl
  · rw [decide_eq_false (by omega : ¬ k ≤ 4)]; simp
theorem mat_rest {k : Int} {n v : ByteArray} (h : ¬ (k < 1 ∨ 4 < k)) : matB (k, n, v) = (nameB n && decide (v.size ≤ 256)) := by
  unfold matB
  rw [decide_eq_true (by omega : 1 ≤ k), decide_eq_true (by omega : k ≤ 4)]; simp
set_option maxHeartbeats 400000 in
theorem m_form (m : Mt) (w : World) : Calls Try.prog 89 #[matV m] w fun e w' => e = .returned (.bool (matB m)) ∧ w.grownBy w' none := by
  obtain ⟨k, n, v⟩ := m
  have HQ : Hid (∀ w, Calls Try.prog 90 #[.int .i64 k] w fun e w' => e = .returned (qOf k) ∧ w.grownBy w' none) := m_question k
  have HN : Hid (∀ w, Calls Try.prog 67 #[.string n] w fun e w' => e = .returned (.bool (nameB n)) ∧ w = w') := f_ofLabel n
  have f1 := neq_func
  have f2 := neq_nil
  have HB : Hid ((w.alloc (.cells #[.int .i64 k, .string n, .string v] 44)).heap[w.heap.size]? = some (.cells #[.int .i64 k, .string n, .string v] 44)) := heap_alloc_new w _
  unfold matV
  by_cases hk : k < 1 ∨ 4 < k
  · rw [q_nil hk] at HQ
    rw [bad_kind hk]
    clear hk
    go_enter Try.func89, Try.ntmps89
    go_wp2_with fail
    refine (HQ.out _).mono ?_
    rintro e w1 ⟨rfl, hg⟩
    have HG : Hid (w.grownBy w1 none) := (World.grownBy_alloc w _ none).trans hg
    clear hg
    go_wp2
    go_ret
    exact ⟨rfl, HG.out⟩
  · obtain ⟨f, hf⟩ := q_func hk
    rw [hf] at HQ
    rw [mat_rest hk]
    clear hk hf
    generalize nameB n = bb at HN ⊢
    cases bb with
    | false =>
      go_enter Try.func89, Try.ntmps89
      go_wp2_with fail
      refine (HQ.out _).mono ?_
      rintro e w1 ⟨rfl, hg⟩
      have HG : Hid (w.grownBy w1 none) := (World.grownBy_alloc w _ none).trans hg
      have hb1 := (hg.block w.heap.size (by simp) (by simp)).trans HB.out
      obtain ⟨c0, c1, c2⟩ := cell3r hb1
      clear hg hb1 c0 c2
      go_wp2_with fail
      refine (HN.out _).mono ?_
      rintro e w2 ⟨rfl, rfl⟩
      go_wp2
      go_ret
      exact ⟨rfl, HG.out⟩
    | true =>
      have q : (decide (v.size ≤ 256)) = decide ((v.size : Int) ≤ 256) := by
        by_cases h : v.size ≤ 256
        · rw [decide_eq_true h, decide_eq_true (by omega)]
        · rw [decide_eq_false h, decide_eq_false (by omega)]
      have HR := hid q
      clear q
      go_enter Try.func89, Try.ntmps89
      go_wp2_with fail
      refine (HQ.out _).mono ?_
      rintro e w1 ⟨rfl, hg⟩
      have HG : Hid (w.grownBy w1 none) := (World.grownBy_alloc w _ none).trans hg
      have hb1 := (hg.block w.heap.size (by simp) (by simp)).trans HB.out
      obtain ⟨c0, c1, c2⟩ := cell3r hb1
      clear hg hb1 c0
      go_wp2_with fail
      refine (HN.out _).mono ?_
      rintro e w2 ⟨rfl, rfl⟩
      go_wp2
      go_ret
      exact ⟨ret_bool (by rw [HR.out]; simp), HG.out⟩
theorem mat_cells {w : World} {b off i : Nat} {l : List Mt} {m : Mt} (h : SRd matE w (some ⟨b, off, none⟩) l) (hq : l[i]? = some m) : w.cell? ⟨b, off + i * 3, none⟩ = some (.int .i64 m.1) ∧ w.cell? ⟨b, off + i * 3 + 1, none⟩ = some (.string m.2.1) ∧ w.cell? ⟨b, off + i * 3 + 2, none⟩ = some (.string m.2.2) := by
  obtain ⟨b', off', e, hc⟩ := h.at (by have := (List.getElem?_eq_some_iff.1 hq).1; omega)
  cases e
  refine ⟨hc i m 0 _ hq rfl, ?_, ?_⟩
  · rw [Nat.add_assoc]; exact hc i m 1 _ hq rfl
  · rw [Nat.add_assoc]; exact hc i m 2 _ hq rfl
/-- Check: 0 just if these matchers may be. -/
theorem m_check (a : Option Addr) (c : Nat) (l : List Mt) (w : World) (h : SRd matE w a l) (hl : l.length ≤ 1000000) :
    Calls Try.prog 87 #[.slice a l.length c] w fun e w' => ∃ r : Int, e = .returned (.int .i64 r) ∧ Hid (decide (r = 0) = matsB l) ∧ w.grownBy w' none := by
  have H := hid h
  clear h
  by_cases h8 : 8 < l.length
  · have HB : Hid (matsB l = false) := by show _ = _; unfold matsB; rw [decide_eq_false (by omega)]; rfl
    have q0 : decide ((8 : Int) < (l.length : Int)) = true := by simp; omega
    go_enter Try.func87, Try.ntmps87
    go_wp2
    go_ret
    exact ⟨41, rfl, by show _ = _; rw [HB.out]; rfl, World.grownBy.refl _ _⟩
  · have HB : Hid (matsB l = l.all matB) := by show _ = _; unfold matsB; rw [decide_eq_true (by omega)]; rfl
    have q0 : decide ((8 : Int) < (l.length : Int)) = false := by simp; omega
    go_enter Try.func87, Try.ntmps87
    go_wp2
    go_loopw [10] (fun t10 wr => ∃ k : Nat, k ≤ l.length ∧ t10 = .int .i64 (k : Int) ∧ w.grownBy wr none ∧ (l.take k).all matB = true) (fun t10 _ => l.length - (intOf t10).toNat)
    case atStart => exact ⟨0, Nat.zero_le _, rfl, World.grownBy.refl _ _, by simp⟩
    case round =>
      obtain ⟨k, hk, rfl, hg, hj⟩ := hrel
      have HJ := hid hj
      have HG := hid hg
      clear hj hg
      by_cases hlt : k < l.length
      · have hki : (k : Int) < (l.length : Int) := by omega
        obtain ⟨x, hx⟩ : ∃ x, l[k]? = some x := ⟨_, List.getElem?_eq_getElem hlt⟩
        obtain ⟨bb, oo, ea, _⟩ := H.out.at (by omega)
        obtain ⟨z0, z1, z2⟩ := mat_cells (i := k) (by rw [← ea]; exact H.out.grown HG.out (by simp)) hx
        have HX := hid hx
        have HF := hid (m_form x)
        have HT : Hid ((l.take (k + 1)).all matB = ((l.take k).all matB && matB x)) := by
          show _ = _
          rw [List.take_add_one, hx]
          simp
        have HM : Hid (l.all matB = true → matB x = true) := fun h => by
          rw [List.all_eq_true] at h
          exact h x (List.mem_of_getElem? hx)
        obtain ⟨m1, m2, m3⟩ := x
        subst ea
        unfold matV at HF
        simp only at z0 z1 z2
        have G1 : Hid (w.grownBy (wr.alloc (.cells #[.int .i64 m1, .string m2, .string m3] 44)) none) := HG.out.trans (World.grownBy_alloc _ _ none)
        clear hx
        cases hb : matB (m1, m2, m3) with
        | true =>
          rw [hb] at HF
          have HN : Hid ((l.take (k + 1)).all matB = true) := by show _ = _; rw [HT.out, HJ.out, hb]; rfl
          clear hb
          go_wp2_with fail
          refine (HF.out _).mono ?_
          rintro e w2 ⟨rfl, g2⟩
          have G2 : Hid (w.grownBy w2 none) := G1.out.trans g2
          clear g2
          go_wp2
          go_roundw
          case rel => exact ⟨k + 1, by omega, by go_num, G2.out, HN.out⟩
          case measure => simp [intOf]; omega
        | false =>
          rw [hb] at HF
          have HN : Hid (matsB l = false) := by
            show _ = _
            rw [HB.out, Bool.eq_false_iff]
            intro h
            rw [HM.out h] at hb
            cases hb
          clear hb
          go_wp2_with fail
          refine (HF.out _).mono ?_
          rintro e w2 ⟨rfl, g2⟩
          have G2 : Hid (w.grownBy w2 none) := G1.out.trans g2
          clear g2
          go_wp2
          go_ret
          exact ⟨40, rfl, by show _ = _; rw [HN.out]; rfl, G2.out⟩
      · have hki : ¬ (k : Int) < (l.length : Int) := by omega
        have HN : Hid (matsB l = true) := by
          show _ = _
          rw [HB.out]
          have := HJ.out
          rw [List.take_of_length_le (by omega)] at this
          exact this
        go_wp2
        go_ret
        exact ⟨0, rfl, by show _ = _; rw [HN.out]; rfl, HG.out⟩
end Go.Proofs.Ytnimdngiejcljaa
