/- Decide: the program's and the document's. (Printed by mk_ha.py.) -/
import Derived.Test.YtecnocdffhmkaaaDoorMf
namespace Go.Proofs.YtecnocdffhmkaaaDoor
set_option maxRecDepth 20000
open Go.RowKit
set_option linter.unusedVariables false

def decR (has : Bool) (x r : ByteArray) (d rf fo : Int) : Int := if has = false then 2 else if x = r then (if rf ≤ d then 1 else 0) else (if fo ≤ d then 2 else 3)
abbrev leadV (x : ByteArray) (S : Int) : Value := .agg #[.string x, .int .i64 S]

set_option maxHeartbeats 1000000 in
theorem f_decide (has : Bool) (x r : ByteArray) (S now rf fo R : Int) (w : World) (hS : -1099511627776 ≤ S ∧ S ≤ 1099511627776) (hn : -1099511627776 ≤ now ∧ now ≤ 1099511627776) (hR : decR has x r (now - S) rf fo = R) :
    Calls Tryd.prog 23 #[.bool has, leadV x S, .string r, .int .i64 now, .int .i64 rf, .int .i64 fo] w fun e w' => e = .returned (.int .i64 R) ∧ w.grownBy w' none := by
  obtain ⟨W, hW⟩ : ∃ W, W = w.alloc (.cells #[.string x, .int .i64 S] 32) := ⟨_, rfl⟩
  have HG : Hid (w.grownBy W none) := hW ▸ World.grownBy_alloc w _ none
  have HB : Hid (W.cell? ⟨w.heap.size, 0, none⟩ = some (.string x) ∧ W.cell? ⟨w.heap.size, 1, none⟩ = some (.int .i64 S)) := by
    rw [hW]
    refine ⟨?_, ?_⟩
    · rw [cell_of_row _ w.heap.size 0 _ _ _ (heap_alloc_new w _)]; rfl
    · rw [cell_of_row _ w.heap.size 1 _ _ _ (heap_alloc_new w _)]; rfl
  have HW : Hid (w.alloc (.cells #[.string x, .int .i64 S] 32) = W) := hW.symm
  clear hW
  unfold decR at hR
  have hs := str_eq x r
  obtain ⟨h1, h2⟩ := hS
  obtain ⟨h3, h4⟩ := hn
  cases has with
  | false =>
    have HR : Hid ((2 : Int) = R) := by simpa [Hid] using hR
    clear hR hs
    go_enter Tryd.func23, Tryd.ntmps23
    go_upto_region 1 with fail
    rw [HW.out]
    obtain ⟨d0, d1⟩ := HB.out
    go_wp2
    go_ret
    exact ⟨ret_int HR.out, HG.out⟩
  | true =>
    rw [if_neg (by simp)] at hR
    by_cases he : x = r
    · rw [if_pos he] at hR
      rw [decide_eq_true he] at hs
      have hs' : (x.toList != r.toList) = false := by simp [bne, hs]
      clear he
      by_cases hd : rf ≤ now - S
      · have q1 : decide (rf ≤ now - S) = true := decide_eq_true hd
        have HR : Hid ((1 : Int) = R) := by rw [if_pos hd] at hR; exact hR
        clear hR hd
        go_enter Tryd.func23, Tryd.ntmps23
        go_upto_region 1 with fail
        rw [HW.out]
        obtain ⟨d0, d1⟩ := HB.out
        go_wp2
        go_ret
        exact ⟨ret_int HR.out, HG.out⟩
      · have q1 : decide (rf ≤ now - S) = false := decide_eq_false hd
        have HR : Hid ((0 : Int) = R) := by rw [if_neg hd] at hR; exact hR
        clear hR hd
        go_enter Tryd.func23, Tryd.ntmps23
        go_upto_region 1 with fail
        rw [HW.out]
        obtain ⟨d0, d1⟩ := HB.out
        go_wp2
        go_ret
        exact ⟨ret_int HR.out, HG.out⟩
    · rw [if_neg he] at hR
      rw [decide_eq_false he] at hs
      have hs' : (x.toList != r.toList) = true := by simp [bne, hs]
      clear he
      by_cases hd : fo ≤ now - S
      · have q1 : decide (fo ≤ now - S) = true := decide_eq_true hd
        have HR : Hid ((2 : Int) = R) := by rw [if_pos hd] at hR; exact hR
        clear hR hd
        go_enter Tryd.func23, Tryd.ntmps23
        go_upto_region 1 with fail
        rw [HW.out]
        obtain ⟨d0, d1⟩ := HB.out
        go_wp2
        go_ret
        exact ⟨ret_int HR.out, HG.out⟩
      · have q1 : decide (fo ≤ now - S) = false := decide_eq_false hd
        have HR : Hid ((3 : Int) = R) := by rw [if_neg hd] at hR; exact hR
        clear hR hd
        go_enter Tryd.func23, Tryd.ntmps23
        go_upto_region 1 with fail
        rw [HW.out]
        obtain ⟨d0, d1⟩ := HB.out
        go_wp2
        go_ret
        exact ⟨ret_int HR.out, HG.out⟩

set_option maxHeartbeats 1000000 in
theorem r_decide (has : Bool) (x r : ByteArray) (S now rf fo R : Int) (w : World) (hS : -1099511627776 ≤ S ∧ S ≤ 1099511627776) (hn : -1099511627776 ≤ now ∧ now ≤ 1099511627776) (hR : decR has x r (now - S) rf fo = R) :
    Calls Tryd.prog 24 #[.bool has, leadV x S, .string r, .int .i64 now, .int .i64 rf, .int .i64 fo] w fun e w' => e = .returned (.int .i64 R) ∧ w.grownBy w' none := by
  obtain ⟨W, hW⟩ : ∃ W, W = w.alloc (.cells #[.string x, .int .i64 S] 32) := ⟨_, rfl⟩
  have HG : Hid (w.grownBy W none) := hW ▸ World.grownBy_alloc w _ none
  have HB : Hid (W.cell? ⟨w.heap.size, 0, none⟩ = some (.string x) ∧ W.cell? ⟨w.heap.size, 1, none⟩ = some (.int .i64 S)) := by
    rw [hW]
    refine ⟨?_, ?_⟩
    · rw [cell_of_row _ w.heap.size 0 _ _ _ (heap_alloc_new w _)]; rfl
    · rw [cell_of_row _ w.heap.size 1 _ _ _ (heap_alloc_new w _)]; rfl
  have HW : Hid (w.alloc (.cells #[.string x, .int .i64 S] 32) = W) := hW.symm
  clear hW
  unfold decR at hR
  have hs := str_eq x r
  obtain ⟨h1, h2⟩ := hS
  obtain ⟨h3, h4⟩ := hn
  cases has with
  | false =>
    have HR : Hid ((2 : Int) = R) := by simpa [Hid] using hR
    clear hR hs
    go_enter Tryd.func24, Tryd.ntmps24
    go_upto_region 1 with fail
    rw [HW.out]
    obtain ⟨d0, d1⟩ := HB.out
    go_wp2
    go_ret
    exact ⟨ret_int HR.out, HG.out⟩
  | true =>
    rw [if_neg (by simp)] at hR
    by_cases he : x = r
    · rw [if_pos he] at hR
      rw [decide_eq_true he] at hs
      have hs' : (x.toList != r.toList) = false := by simp [bne, hs]
      clear he
      by_cases hd : rf ≤ now - S
      · have q1 : decide (rf ≤ now - S) = true := decide_eq_true hd
        have HR : Hid ((1 : Int) = R) := by rw [if_pos hd] at hR; exact hR
        clear hR hd
        go_enter Tryd.func24, Tryd.ntmps24
        go_upto_region 1 with fail
        rw [HW.out]
        obtain ⟨d0, d1⟩ := HB.out
        go_wp2
        go_ret
        exact ⟨ret_int HR.out, HG.out⟩
      · have q1 : decide (rf ≤ now - S) = false := decide_eq_false hd
        have HR : Hid ((0 : Int) = R) := by rw [if_neg hd] at hR; exact hR
        clear hR hd
        go_enter Tryd.func24, Tryd.ntmps24
        go_upto_region 1 with fail
        rw [HW.out]
        obtain ⟨d0, d1⟩ := HB.out
        go_wp2
        go_ret
        exact ⟨ret_int HR.out, HG.out⟩
    · rw [if_neg he] at hR
      rw [decide_eq_false he] at hs
      have hs' : (x.toList != r.toList) = true := by simp [bne, hs]
      clear he
      by_cases hd : fo ≤ now - S
      · have q1 : decide (fo ≤ now - S) = true := decide_eq_true hd
        have HR : Hid ((2 : Int) = R) := by rw [if_pos hd] at hR; exact hR
        clear hR hd
        go_enter Tryd.func24, Tryd.ntmps24
        go_upto_region 1 with fail
        rw [HW.out]
        obtain ⟨d0, d1⟩ := HB.out
        go_wp2
        go_ret
        exact ⟨ret_int HR.out, HG.out⟩
      · have q1 : decide (fo ≤ now - S) = false := decide_eq_false hd
        have HR : Hid ((3 : Int) = R) := by rw [if_neg hd] at hR; exact hR
        clear hR hd
        go_enter Tryd.func24, Tryd.ntmps24
        go_upto_region 1 with fail
        rw [HW.out]
        obtain ⟨d0, d1⟩ := HB.out
        go_wp2
        go_ret
        exact ⟨ret_int HR.out, HG.out⟩

end Go.Proofs.YtecnocdffhmkaaaDoor
