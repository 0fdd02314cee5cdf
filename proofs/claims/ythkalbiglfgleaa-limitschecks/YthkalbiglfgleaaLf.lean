/- Check: what is refused at once; the document's Check. (Printed by mk_lf.py.) -/
import Derived.Test.YthkalbiglfgleaaLe
namespace Go.Proofs.Ythkalbiglfgleaa
set_option maxRecDepth 20000
open Go.RowKit
set_option linter.unusedVariables false

theorem f_refuseT (s : ByteArray) (a : Option Addr) (L c : Nat) (S m P : Int) (H : Bool) (w : World) (ht : tenR s = false) :
    Calls Try.prog 8 #[.string s, .slice a L c, limV S m P H] w fun e w' => e = .returned (.tuple #[.int .i64 0, .int .i64 150]) ∧ w.grownBy w' none := by
  have HT : Hid (∀ w, Calls Try.prog 10 #[.string s] w fun e w' => e = .returned (.bool false) ∧ w = w') := fun w => ht ▸ f_tenant s w
  clear ht
  go_enter Try.func8, Try.ntmps8
  go_wp2_with (go_at_call 10; refine (HT.out _).mono ?_; rintro e w1 ⟨rfl, rfl⟩)
  go_ret2
  exact ⟨rfl, World.grownBy_alloc w _ none⟩
set_option maxHeartbeats 400000 in
theorem f_refuseL (s : ByteArray) (a : Option Addr) (L c : Nat) (S m P : Int) (H : Bool) (w : World) (ht : tenR s = true) (hz : L ≤ 3518437208882) (hl : L < 1 ∨ min P 256 < (L : Int)) :
    Calls Try.prog 8 #[.string s, .slice a L c, limV S m P H] w fun e w' => e = .returned (.tuple #[.int .i64 0, .int .i64 151]) ∧ w.grownBy w' none := by
  have HT : Hid (∀ w, Calls Try.prog 10 #[.string s] w fun e w' => e = .returned (.bool true) ∧ w = w') := fun w => ht ▸ f_tenant s w
  obtain ⟨W, hW⟩ : ∃ W, W = w.alloc (.cells #[.int .i64 S, .int .i64 m, .int .i64 P, .bool H] 24) := ⟨_, rfl⟩
  have HG : Hid (w.grownBy W none) := hW ▸ World.grownBy_alloc w _ none
  have HB : Hid (W.cell? ⟨w.heap.size, 1, none⟩ = some (.int .i64 m) ∧ W.cell? ⟨w.heap.size, 2, none⟩ = some (.int .i64 P)) := by
    rw [hW]
    refine ⟨?_, ?_⟩
    · rw [cell_of_row _ w.heap.size 1 _ _ _ (heap_alloc_new w _)]; rfl
    · rw [cell_of_row _ w.heap.size 2 _ _ _ (heap_alloc_new w _)]; rfl
  have HW : Hid (w.alloc (.cells #[.int .i64 S, .int .i64 m, .int .i64 P, .bool H] 24) = W) := hW.symm
  clear hW
  clear ht
  by_cases h1 : L < 1
  · obtain rfl : L = 0 := by omega
    clear hl
    go_enter Try.func8, Try.ntmps8
    go_upto_region 1 with fail
    rw [HW.out]
    obtain ⟨d1, d2⟩ := HB.out
    go_wp2_with (go_at_call 10; refine (HT.out _).mono ?_; rintro e w1 ⟨rfl, rfl⟩)
    go_ret2
    exact ⟨rfl, HG.out⟩
  · have q1 : decide ((L : Int) < 1) = false := by simp; omega
    by_cases hP : 256 < P
    · have q3 : decide ((256 : Int) < (L : Int)) = true := by simp; omega
      clear hl h1
      go_enter Try.func8, Try.ntmps8
      go_upto_region 1 with fail
      rw [HW.out]
      obtain ⟨d1, d2⟩ := HB.out
      go_wp2_with (go_at_call 10; refine (HT.out _).mono ?_; rintro e w1 ⟨rfl, rfl⟩)
      go_ret2
      exact ⟨rfl, HG.out⟩
    · have q3 : decide (P < (L : Int)) = true := by simp; omega
      clear hl h1
      go_enter Try.func8, Try.ntmps8
      go_upto_region 1 with fail
      rw [HW.out]
      obtain ⟨d1, d2⟩ := HB.out
      go_wp2_with (go_at_call 10; refine (HT.out _).mono ?_; rintro e w1 ⟨rfl, rfl⟩)
      go_ret2
      exact ⟨rfl, HG.out⟩
theorem r_refuseT (s : ByteArray) (a : Option Addr) (L c : Nat) (S m P : Int) (H : Bool) (w : World) (ht : tenR s = false) :
    Calls Try.prog 6 #[.string s, .slice a L c, limV S m P H] w fun e w' => e = .returned (.tuple #[.int .i64 0, .int .i64 150]) ∧ w.grownBy w' none := by
  have HT : Hid (∀ w, Calls Try.prog 11 #[.string s] w fun e w' => e = .returned (.bool false) ∧ w = w') := fun w => ht ▸ r_tenant s w
  clear ht
  go_enter Try.func6, Try.ntmps6
  go_wp2_with (go_at_call 11; refine (HT.out _).mono ?_; rintro e w1 ⟨rfl, rfl⟩)
  go_ret2
  exact ⟨rfl, World.grownBy_alloc w _ none⟩
set_option maxHeartbeats 400000 in
theorem r_refuseL (s : ByteArray) (a : Option Addr) (L c : Nat) (S m P : Int) (H : Bool) (w : World) (ht : tenR s = true) (hz : L ≤ 3518437208882) (hl : L < 1 ∨ min P 256 < (L : Int)) :
    Calls Try.prog 6 #[.string s, .slice a L c, limV S m P H] w fun e w' => e = .returned (.tuple #[.int .i64 0, .int .i64 151]) ∧ w.grownBy w' none := by
  have HT : Hid (∀ w, Calls Try.prog 11 #[.string s] w fun e w' => e = .returned (.bool true) ∧ w = w') := fun w => ht ▸ r_tenant s w
  obtain ⟨W, hW⟩ : ∃ W, W = w.alloc (.cells #[.int .i64 S, .int .i64 m, .int .i64 P, .bool H] 24) := ⟨_, rfl⟩
  have HG : Hid (w.grownBy W none) := hW ▸ World.grownBy_alloc w _ none
  have HB : Hid (W.cell? ⟨w.heap.size, 1, none⟩ = some (.int .i64 m) ∧ W.cell? ⟨w.heap.size, 2, none⟩ = some (.int .i64 P)) := by
    rw [hW]
    refine ⟨?_, ?_⟩
    · rw [cell_of_row _ w.heap.size 1 _ _ _ (heap_alloc_new w _)]; rfl
    · rw [cell_of_row _ w.heap.size 2 _ _ _ (heap_alloc_new w _)]; rfl
  have HW : Hid (w.alloc (.cells #[.int .i64 S, .int .i64 m, .int .i64 P, .bool H] 24) = W) := hW.symm
  clear hW
  clear ht
  by_cases h1 : L < 1
  · obtain rfl : L = 0 := by omega
    clear hl
    go_enter Try.func6, Try.ntmps6
    go_upto_region 1 with fail
    rw [HW.out]
    obtain ⟨d1, d2⟩ := HB.out
    go_wp2_with (go_at_call 11; refine (HT.out _).mono ?_; rintro e w1 ⟨rfl, rfl⟩)
    go_ret2
    exact ⟨rfl, HG.out⟩
  · have q1 : ((L : Int) == 0) = false := by simp; omega
    have q1' : ¬ L = 0 := by omega
    by_cases hP : P < (L : Int)
    · have q3 : decide (P < (L : Int)) = true := by simpa using hP
      clear hl h1
      go_enter Try.func6, Try.ntmps6
      go_upto_region 1 with fail
      rw [HW.out]
      obtain ⟨d1, d2⟩ := HB.out
      go_wp2_with (go_at_call 11; refine (HT.out _).mono ?_; rintro e w1 ⟨rfl, rfl⟩)
      go_ret2
      exact ⟨rfl, HG.out⟩
    · have q3 : decide (P < (L : Int)) = false := by simpa using hP
      have q4 : decide ((256 : Int) < (L : Int)) = true := by simp; omega
      clear hl h1
      go_enter Try.func6, Try.ntmps6
      go_upto_region 1 with fail
      rw [HW.out]
      obtain ⟨d1, d2⟩ := HB.out
      go_wp2_with (go_at_call 11; refine (HT.out _).mono ?_; rintro e w1 ⟨rfl, rfl⟩)
      go_ret2
      exact ⟨rfl, HG.out⟩

/-- The program's Check. -/
theorem f_lcheck (s : ByteArray) (a : Option Addr) (raw : List (Sv × Int × Int)) (Q : List Smp) (L c : Nat) (S m P A C : Int) (H : Bool) (w : World) (hq : SmpRd w a raw Q) (hL : Q.length = L) (hz : L ≤ 3518437208882) (hR : checkL s Q m P = (A, C)) :
    Calls Try.prog 8 #[.string s, .slice a L c, limV S m P H] w fun e w' => e = .returned (.tuple #[.int .i64 A, .int .i64 C]) ∧ w.grownBy w' none := by
  unfold checkL at hR
  rw [hL] at hR
  cases ht : tenR s with
  | false =>
    rw [ht, if_pos rfl] at hR
    cases hR
    exact f_refuseT s a L c S m P H w ht
  | true =>
    rw [ht, if_neg (by simp)] at hR
    by_cases hl : L < 1 ∨ min P 256 < (L : Int)
    · rw [if_pos hl] at hR
      cases hR
      exact f_refuseL s a L c S m P H w ht hz hl
    · rw [if_neg hl] at hR
      exact f_checkGo s a raw Q L c S m P A C H w hq hL hz ht (by omega) (by omega) (by omega) hR

set_option maxHeartbeats 2000000 in
theorem r_checkGo (s : ByteArray) (a : Option Addr) (raw : List (Sv × Int × Int)) (Q : List Smp) (L c : Nat) (S m P A C : Int) (H : Bool) (w : World) (hq : SmpRd w a raw Q) (hL : Q.length = L) (hz : L ≤ 3518437208882)
    (ht : tenR s = true) (h1 : 1 ≤ L) (h2 : (L : Int) ≤ P) (h3 : L ≤ 256) (hR : firstW m Q 0 = (A, C)) :
    Calls Try.prog 6 #[.string s, .slice a L c, limV S m P H] w fun e w' => e = .returned (.tuple #[.int .i64 A, .int .i64 C]) ∧ w.grownBy w' none := by
  have HT : Hid (∀ w, Calls Try.prog 11 #[.string s] w fun e w' => e = .returned (.bool true) ∧ w = w') := fun w => ht ▸ r_tenant s w
  obtain ⟨W, hW⟩ : ∃ W, W = w.alloc (.cells #[.int .i64 S, .int .i64 m, .int .i64 P, .bool H] 24) := ⟨_, rfl⟩
  have HG : Hid (w.grownBy W none) := hW ▸ World.grownBy_alloc w _ none
  have HB : Hid (W.cell? ⟨w.heap.size, 1, none⟩ = some (.int .i64 m) ∧ W.cell? ⟨w.heap.size, 2, none⟩ = some (.int .i64 P)) := by
    rw [hW]
    refine ⟨?_, ?_⟩
    · rw [cell_of_row _ w.heap.size 1 _ _ _ (heap_alloc_new w _)]; rfl
    · rw [cell_of_row _ w.heap.size 2 _ _ _ (heap_alloc_new w _)]; rfl
  have HW : Hid (w.alloc (.cells #[.int .i64 S, .int .i64 m, .int .i64 P, .bool H] 24) = W) := hW.symm
  clear hW
  have HQ : Hid (SmpRd W a raw Q) := hq.grown HG.out
  have HL : Hid (Q.length = L) := hL
  have H0 : Hid (FwAt m Q 0 (A, C)) := hR
  have q1 : ((L : Int) == 0) = false := by simp; omega
  have q1' : ¬ L = 0 := by omega
  have q2 : decide (P < (L : Int)) = false := by simp; omega
  have q3 : decide ((256 : Int) < (L : Int)) = false := by simp; omega
  clear hq hL hR ht
  go_enter Try.func6, Try.ntmps6
  go_upto_region 1 with fail
  rw [HW.out]
  obtain ⟨d1, d2⟩ := HB.out
  go_wp2_with (go_at_call 11; refine (HT.out _).mono ?_; rintro e w1 ⟨rfl, rfl⟩)
  clear d1 d2 q3 q2 h2
  go_loopw [8] (fun i wr => ∃ k : Nat, k ≤ L ∧ i = .int .i64 k ∧ W.grownBy wr none ∧ FwAt m Q k (A, C)) (fun i _ => L - (intOf i).toNat)
  case atStart => exact ⟨0, Nat.zero_le _, rfl, World.grownBy.refl _ _, H0.out⟩
  case round =>
    obtain ⟨k, hk, rfl, hg, hc⟩ := hrel
    have HGr : Hid (W.grownBy wr none) := hg
    have HC : Hid (FwAt m Q k (A, C)) := hc
    have d1 := hg.cell HB.out.1 (by simp)
    clear hg hc H0
    by_cases hlt : k < L
    · have hl := HL.out
      obtain ⟨⟨ls, T, V⟩, ex⟩ : ∃ x, Q[k]? = some x := ⟨_, List.getElem?_eq_getElem (by omega)⟩
      obtain ⟨b, off, la, lc, rfl, a0, a1, a2, hsr, _, hll⟩ := smp_cells (HQ.out.grown HGr.out) ex
      have HN : Hid (_ = (A, C)) := HC.out.next ex
      simp only at HN
      have HF : Hid (Calls Try.prog 16 #[.slice la ls.length lc] wr fun e w' => e = .returned (.int .i64 (checkR ls)) ∧ wr.grownBy w' none) := r_check la ls _ lc _ wr hsr rfl (Nat.le_trans hll (by decide)) rfl
      have hi1 : (k : Int) < (L : Int) := by omega
      have hfit : fitB ls m = (decide (1 ≤ ls.length) && decide ((ls.length : Int) ≤ m) && decide (checkR ls = 0)) := rfl
      have htime : timeB T = (decide (-1099511627776 ≤ T) && decide (T ≤ 1099511627776)) := rfl
      unfold wrongR at HN
      generalize fitB ls m = B1 at HN hfit
      generalize timeB T = B2 at HN htime
      clear hsr ex hl
      generalize ls.length = n at a0 HF hll hfit
      generalize checkR ls = ck at HF hfit
      by_cases hn : n = 0
      · subst hn
        have HS : Hid (((k : Int), (152 : Int)) = (A, C)) := by
          have h := HN.out
          rw [hfit, decide_eq_false (by omega : ¬ 1 ≤ 0)] at h
          simpa [Hid] using h
        clear HN hfit htime HF
        go_wp2
        go_ret2
        exact ⟨ret_two HS.out, HG.out.trans HGr.out⟩
      · have q5 : ((n : Int) == 0) = false := by simp; omega
        by_cases hm : m < (n : Int)
        · have q6 : decide (m < (n : Int)) = true := by simpa using hm
          have HS : Hid (((k : Int), (152 : Int)) = (A, C)) := by
            have h := HN.out
            rw [hfit, decide_eq_false (by omega : ¬ (n : Int) ≤ m)] at h
            simpa [Hid] using h
          clear HN hfit htime HF hm
          go_wp2
          go_ret2
          exact ⟨ret_two HS.out, HG.out.trans HGr.out⟩
        · have q6 : decide (m < (n : Int)) = false := by simpa using hm
          by_cases hck : ck = 0
          · subst hck
            have hb : B1 = true := by rw [hfit, decide_eq_true (by omega : 1 ≤ n), decide_eq_true (by omega : (n : Int) ≤ m)]; rfl
            subst hb
            have HN2 : Hid ((if (if B2 = true then (0 : Int) else 153) ≠ 0 then ((k : Int), (if B2 = true then (0 : Int) else 153)) else firstW m (Q.drop (k + 1)) (k + 1)) = (A, C)) := HN.out
            clear HN hfit hm
            by_cases ht1 : T < -1099511627776
            · have q7 : decide (T < -1099511627776) = true := by simpa using ht1
              have hb2 : B2 = false := by rw [htime, decide_eq_false (by omega)]; rfl
              subst hb2
              have HS : Hid (((k : Int), (153 : Int)) = (A, C)) := by
                have h := HN2.out
                simpa [Hid] using h
              clear HN2 htime ht1
              go_wp2_with (go_at_call 16; refine HF.out.mono ?_; rintro e w1 ⟨rfl, hg1⟩; replace a0 := hg1.cell a0 (by simp); replace a1 := hg1.cell a1 (by simp))
              go_ret2
              exact ⟨ret_two HS.out, (HG.out.trans HGr.out).trans hg1⟩
            · have q7 : decide (T < -1099511627776) = false := by simpa using ht1
              by_cases ht2 : 1099511627776 < T
              · have q8 : decide (1099511627776 < T) = true := by simpa using ht2
                have hb2 : B2 = false := by rw [htime, decide_eq_false (by omega : ¬ T ≤ 1099511627776)]; simp
                subst hb2
                have HS : Hid (((k : Int), (153 : Int)) = (A, C)) := by
                  have h := HN2.out
                  simpa [Hid] using h
                clear HN2 htime ht1 ht2
                go_wp2_with (go_at_call 16; refine HF.out.mono ?_; rintro e w1 ⟨rfl, hg1⟩; replace a0 := hg1.cell a0 (by simp); replace a1 := hg1.cell a1 (by simp))
                go_ret2
                exact ⟨ret_two HS.out, (HG.out.trans HGr.out).trans hg1⟩
              · have q8 : decide (1099511627776 < T) = false := by simpa using ht2
                have hb2 : B2 = true := by rw [htime, decide_eq_true (by omega), decide_eq_true (by omega)]; rfl
                subst hb2
                have HS : Hid (FwAt m Q (k + 1) (A, C)) := by
                  have h := HN2.out
                  rw [if_pos rfl, if_neg (by simp)] at h
                  exact h
                clear HN2 htime ht1 ht2
                go_wp2_with (go_at_call 16; refine HF.out.mono ?_; rintro e w1 ⟨rfl, hg1⟩; replace a0 := hg1.cell a0 (by simp); replace a1 := hg1.cell a1 (by simp); have HG1 : Hid (W.grownBy w1 none) := HGr.out.trans hg1; clear hg1)
                go_roundw
                case rel => exact ⟨k + 1, by omega, by go_num, HG1.out, HS.out⟩
                case measure => simp [intOf]; omega
          · have q9 : (ck != 0) = true := by simpa using hck
            have HS : Hid (((k : Int), (152 : Int)) = (A, C)) := by
              have h := HN.out
              rw [hfit, decide_eq_false hck] at h
              simpa [Hid] using h
            clear HN hfit htime hck hm
            go_wp2_with (go_at_call 16; refine HF.out.mono ?_; rintro e w1 ⟨rfl, hg1⟩)
            go_ret2
            exact ⟨ret_two HS.out, (HG.out.trans HGr.out).trans hg1⟩
    · have HS : Hid (((0 : Int), (0 : Int)) = (A, C)) := HC.out.done (by have := HL.out; omega)
      have hki : ¬ (k : Int) < (L : Int) := by omega
      go_wp2
      go_ret2
      exact ⟨ret_two HS.out, HG.out.trans HGr.out⟩
/-- The document's Check. -/
theorem r_lcheck (s : ByteArray) (a : Option Addr) (raw : List (Sv × Int × Int)) (Q : List Smp) (L c : Nat) (S m P A C : Int) (H : Bool) (w : World) (hq : SmpRd w a raw Q) (hL : Q.length = L) (hz : L ≤ 3518437208882) (hR : checkL s Q m P = (A, C)) :
    Calls Try.prog 6 #[.string s, .slice a L c, limV S m P H] w fun e w' => e = .returned (.tuple #[.int .i64 A, .int .i64 C]) ∧ w.grownBy w' none := by
  unfold checkL at hR
  rw [hL] at hR
  cases ht : tenR s with
  | false =>
    rw [ht, if_pos rfl] at hR
    cases hR
    exact r_refuseT s a L c S m P H w ht
  | true =>
    rw [ht, if_neg (by simp)] at hR
    by_cases hl : L < 1 ∨ min P 256 < (L : Int)
    · rw [if_pos hl] at hR
      cases hR
      exact r_refuseL s a L c S m P H w ht hz hl
    · rw [if_neg hl] at hR
      exact r_checkGo s a raw Q L c S m P A C H w hq hL hz ht (by omega) (by omega) (by omega) hR
end Go.Proofs.Ythkalbiglfgleaa
