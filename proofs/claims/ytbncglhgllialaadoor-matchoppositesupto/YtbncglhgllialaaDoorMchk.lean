/- The program's own form of a matcher, and Check. -/
import Derived.Test.YtbncglhgllialaaDoorMform
namespace Go.Proofs.YtbncglhgllialaaDoor
open Go.RowKit
set_option linter.unusedVariables false

theorem q_nil {k : Int} (h : k < 1 ∨ 4 < k) : qOf k = .nilFunc := by unfold qOf; rw [if_neg (by omega), if_neg (by omega), if_neg (by omega), if_neg (by omega)]
theorem q_func {k : Int} (h : ¬ (k < 1 ∨ 4 < k)) : ∃ f, qOf k = .func f #[] #[] := by
  have hk : k = 1 ∨ k = 2 ∨ k = 3 ∨ k = 4 := by omega
  rcases hk with rfl | rfl | rfl | rfl
  · exact ⟨_, rfl⟩
  · exact ⟨_, rfl⟩
  · exact ⟨_, rfl⟩
  · exact ⟨_, rfl⟩
theorem bad_kind {k : Int} {n v : ByteArray} (h : k < 1 ∨ 4 < k) : badM (k, n, v) = true := by
  unfold badM
  rcases h with h | h <;> simp [h]
theorem bad_rest {k : Int} {n v : ByteArray} (h : ¬ (k < 1 ∨ 4 < k)) : badM (k, n, v) = (!nameR n || decide (256 < v.size)) := by
  unfold badM
  have h1 : ¬ k < 1 := by omega
  have h2 : ¬ 4 < k := by omega
  simp [h1, h2]
set_option maxHeartbeats 400000 in
theorem m_form (k : Int) (n v : ByteArray) (R : Bool) (w : World) (hR : badM (k, n, v) = R) : Calls Tryd.prog 22 #[.agg #[.int .i64 k, .string n, .string v]] w fun e w' => e = .returned (.bool (!R)) ∧ w.grownBy w' none := by
  have HQ : Hid (∀ w, Calls Tryd.prog 32 #[.int .i64 k] w fun e w' => e = .returned (qOf k) ∧ w.grownBy w' none) := m_question k
  have HN : Hid (∀ w, Calls Tryd.prog 33 #[.string n] w fun e w' => e = .returned (.bool (nameR n)) ∧ w.grownBy w' none) := m_name n
  have f1 := neq_func
  have f2 := neq_nil
  have HB : Hid ((w.alloc (.cells #[.int .i64 k, .string n, .string v] 35)).heap[w.heap.size]? = some (.cells #[.int .i64 k, .string n, .string v] 35)) := heap_alloc_new w _
  by_cases hk : k < 1 ∨ 4 < k
  · rw [q_nil hk] at HQ
    rw [bad_kind hk] at hR
    subst hR
    clear hk
    go_enter Tryd.func22, Tryd.ntmps22
    go_wp2_with fail
    refine (HQ.out _).mono ?_
    rintro e w1 ⟨rfl, hg⟩
    have HG : Hid (w.grownBy w1 none) := (World.grownBy_alloc w _ none).trans hg
    clear hg
    go_wp2
    go_ret
    exact ⟨rfl, HG.out⟩
  · obtain ⟨f, hf⟩ := q_func hk
    rw [hf] at HQ
    rw [bad_rest hk] at hR
    clear hk hf
    generalize nameR n = b at HN hR
    cases b with
    | false =>
      have : R = true := by rw [← hR]; rfl
      subst this
      clear hR
      go_enter Tryd.func22, Tryd.ntmps22
      go_wp2_with fail
      refine (HQ.out _).mono ?_
      rintro e w1 ⟨rfl, hg⟩
      have HG : Hid (w.grownBy w1 none) := (World.grownBy_alloc w _ none).trans hg
      have hb1 := (hg.block w.heap.size (by simp) (by simp)).trans HB.out
      have c1 : w1.cell? ⟨w.heap.size, 1, none⟩ = some (.string n) := by rw [cell_of_row w1 w.heap.size 1 _ _ _ hb1]; rfl
      clear hg hb1
      go_wp2_with fail
      refine (HN.out _).mono ?_
      rintro e w2 ⟨rfl, hg2⟩
      have HG2 : Hid (w.grownBy w2 none) := HG.out.trans hg2
      clear hg2
      go_wp2
      go_ret
      exact ⟨rfl, HG2.out⟩
    | true =>
      have e1 : R = decide (256 < v.size) := by rw [← hR]; rfl
      have q : (!R) = decide ((v.size : Int) ≤ 256) := by
        rw [e1]
        by_cases h : 256 < v.size
        · rw [decide_eq_true h, decide_eq_false (by omega)]; rfl
        · rw [decide_eq_false h, decide_eq_true (by omega)]; rfl
      have HR : Hid ((!R) = decide ((v.size : Int) ≤ 256)) := q
      clear hR e1 q
      go_enter Tryd.func22, Tryd.ntmps22
      go_wp2_with fail
      refine (HQ.out _).mono ?_
      rintro e w1 ⟨rfl, hg⟩
      have HG : Hid (w.grownBy w1 none) := (World.grownBy_alloc w _ none).trans hg
      have hb1 := (hg.block w.heap.size (by simp) (by simp)).trans HB.out
      have HB1 : Hid (w1.heap[w.heap.size]? = some (.cells #[.int .i64 k, .string n, .string v] 35)) := hb1
      have hs1 : w.heap.size < w1.heap.size := (Array.getElem?_eq_some_iff.1 hb1).1
      have c1 : w1.cell? ⟨w.heap.size, 1, none⟩ = some (.string n) := by rw [cell_of_row w1 w.heap.size 1 _ _ _ hb1]; rfl
      clear hg hb1
      go_wp2_with fail
      refine (HN.out _).mono ?_
      rintro e w2 ⟨rfl, hg2⟩
      have HG2 : Hid (w.grownBy w2 none) := HG.out.trans hg2
      have hb2 := (hg2.block w.heap.size hs1 (by simp)).trans HB1.out
      have c2 : w2.cell? ⟨w.heap.size, 2, none⟩ = some (.string v) := by rw [cell_of_row w2 w.heap.size 2 _ _ _ hb2]; rfl
      clear hg2 hb2 c1
      go_wp2
      go_ret
      exact ⟨ret_bool (by rw [HR.out]), HG2.out⟩
set_option maxHeartbeats 1000000 in
theorem fcheck_loop (a : Option Addr) (ms : List Mat) (L c : Nat) (R : Int) (w : World) (hx : SRd matE w a ms) (hL : ms.length = L) (hz : L ≤ 8) (hR : MchkAt ms 0 R) :
    Calls Tryd.prog 9 #[.slice a L c] w fun e w' => e = .returned (.int .i64 R) ∧ w.grownBy w' none := by
  have HX : Hid (SRd matE w a ms) := hx
  have HL : Hid (ms.length = L) := hL
  have H0 : Hid (MchkAt ms 0 R) := hR
  have q0 : decide ((8 : Int) < (L : Int)) = false := by simp; omega
  clear hx hL hR
  go_enter Tryd.func9, Tryd.ntmps9
  go_wp2
  go_loopw [10] (fun i wr => ∃ k : Nat, k ≤ L ∧ i = .int .i64 k ∧ w.grownBy wr none ∧ MchkAt ms k R) (fun i _ => L - (intOf i).toNat)
  case atStart => exact ⟨0, Nat.zero_le _, rfl, World.grownBy.refl _ _, H0.out⟩
  case round =>
    obtain ⟨k, hk, rfl, hg, hc⟩ := hrel
    have HG : Hid (w.grownBy wr none) := hg
    have HC : Hid (MchkAt ms k R) := hc
    clear hg hc H0
    by_cases hlt : k < L
    · have hl := HL.out
      obtain ⟨b, off, rfl, hcc⟩ := (HX.out.grown HG.out (by simp)).at (by omega)
      obtain ⟨⟨x0, x1, x2⟩, ex⟩ : ∃ x, ms[k]? = some x := ⟨_, List.getElem?_eq_getElem (by omega)⟩
      have a0 : wr.cell? ⟨b, off + k * 3, none⟩ = some (.int .i64 x0) := hcc k _ 0 _ ex rfl
      have a1 : wr.cell? ⟨b, off + k * 3 + 1, none⟩ = some (.string x1) := by rw [Nat.add_assoc]; exact hcc k _ 1 _ ex rfl
      have a2 : wr.cell? ⟨b, off + k * 3 + 2, none⟩ = some (.string x2) := by rw [Nat.add_assoc]; exact hcc k _ 2 _ ex rfl
      have HN : Hid (_ ∧ _) := HC.out.next ex
      have HF : Hid (∀ w, Calls Tryd.prog 22 #[.agg #[.int .i64 x0, .string x1, .string x2]] w fun e w' => e = .returned (.bool (!badM (x0, x1, x2))) ∧ w.grownBy w' none) := fun w => m_form x0 x1 x2 _ w rfl
      have hki : (k : Int) < (L : Int) := by omega
      clear hcc ex hl
      cases hb : badM (x0, x1, x2) with
      | true =>
        have HS : Hid ((40 : Int) = R) := HN.out.1 hb
        rw [hb] at HF
        clear HN hb
        go_wp2_with fail
        refine (HF.out _).mono ?_
        rintro e w1 ⟨rfl, hg1⟩
        have HG1 : Hid (w.grownBy w1 none) := (HG.out.trans (World.grownBy_alloc wr _ none)).trans hg1
        clear hg1
        go_wp2
        go_ret
        exact ⟨ret_int HS.out, HG1.out⟩
      | false =>
        have HS : Hid (MchkAt ms (k + 1) R) := HN.out.2 hb
        rw [hb] at HF
        clear HN hb
        go_wp2_with fail
        refine (HF.out _).mono ?_
        rintro e w1 ⟨rfl, hg1⟩
        have HG1 : Hid (w.grownBy w1 none) := (HG.out.trans (World.grownBy_alloc wr _ none)).trans hg1
        clear hg1
        go_wp2
        go_roundw
        case rel => exact ⟨k + 1, by omega, by go_num, HG1.out, HS.out⟩
        case measure => simp [intOf]; omega
    · have HS : Hid ((0 : Int) = R) := by
        have h := HC.out
        unfold MchkAt at h
        rw [List.drop_eq_nil_of_le (by have := HL.out; omega)] at h
        exact h
      have hki : ¬ (k : Int) < (L : Int) := by omega
      go_wp2
      go_ret
      exact ⟨ret_int HS.out, HG.out⟩
theorem f_mcheck (a : Option Addr) (ms : List Mat) (L c : Nat) (R : Int) (w : World) (hx : SRd matE w a ms) (hL : ms.length = L) (hz : L ≤ 3518437208883) (hR : mchk ms = R) :
    Calls Tryd.prog 9 #[.slice a L c] w fun e w' => e = .returned (.int .i64 R) ∧ w.grownBy w' none := by
  unfold mchk at hR
  by_cases h : 8 < ms.length
  · rw [if_pos h] at hR
    subst hR
    have q0 : decide ((8 : Int) < (L : Int)) = true := by simp; omega
    clear hx hL h
    go_enter Tryd.func9, Tryd.ntmps9
    go_wp2
    go_ret
    exact ⟨rfl, World.grownBy.refl _ _⟩
  · rw [if_neg h] at hR
    exact fcheck_loop a ms L c R w hx hL (by omega) (by unfold MchkAt; rw [List.drop_zero]; exact hR)
end Go.Proofs.YtbncglhgllialaaDoor
