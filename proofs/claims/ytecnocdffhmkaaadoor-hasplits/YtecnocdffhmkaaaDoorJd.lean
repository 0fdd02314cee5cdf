/- HaSplits: the walk. (Printed by mk_jd.py.) -/
import Derived.Test.YtecnocdffhmkaaaDoorJc
namespace Go.Proofs.YtecnocdffhmkaaaDoor
open Go.RowKit
set_option linter.unusedVariables false
set_option maxRecDepth 20000

theorem gb_of_below {w w3 w4 : World} {B : Nat} (h : w.grownBy w3 none) (hb : Below B w3 w4) (hB : w.heap.size ≤ B) : w.grownBy w4 none :=
  ⟨hb.os.trans h.os, hb.tape.trans h.tape, hb.output.trans h.output, Nat.le_trans h.size hb.size, fun k hk hne => (hb.block k (Nat.lt_of_lt_of_le hk hB)).trans (h.block k hk hne)⟩
set_option maxHeartbeats 4000000 in
theorem haSplits_walk (a : Option Addr) (raw : List (Sv × Int × Int)) (Q : List Smp) (L c : Nat) (w : World) (hq : SmpRd w a raw Q) (hL : Q.length = L) (hz : L ≤ 3518437208882) (htab : Tab w) :
    Calls Tryd.prog 3 #[.slice a L c] w fun e w' => e = .returned (.bool true) ∧ w.grownBy w' none := by
  obtain ⟨C, R, Z, E, hS⟩ : ∃ C R Z E, splitR Q = (C, R, Z, E) := ⟨_, _, _, _, rfl⟩
  have hZL : Z.length ≤ L := by
    unfold splitR at hS
    split at hS
    · cases hS; omega
    · split at hS
      · cases hS; simp
      · cases hS; rw [List.length_map]; omega
  have HR : Hid (Calls Tryd.prog 8 #[.slice a L c] w fun e w' => SpOut w C R Z E e w') := r_split a raw Q L c C R Z E w hq hL hz hS
  have HCP : Hid (∀ w1, w.grownBy w1 none → Calls Tryd.prog 9 #[.slice a L c] w1 fun e w' => ∃ a' c' raw', e = .returned (.slice a' L c') ∧ Hid (SmsOwn w' w1.heap.size (.slice a' L c') Q raw') ∧ Hid (w1.grownBy w' none)) := fun w1 hg => (scopy a raw Q L c w1 (hq.grown hg) hL hz).mono fun e w' ⟨a', c', raw', h1, h2, h3⟩ => ⟨a', c', raw', h1, h2, h3⟩
  have HF : Hid (∀ (w1 : World) (a' : Option Addr) (c' : Nat) (raw' : List (Sv × Int × Int)), SmpRd w1 a' raw' Q → Calls Tryd.prog 10 #[.slice a' L c'] w1 fun e w' => SpOut w1 C R Z E e w') := fun w1 a' c' raw' h => f_split a' raw' Q L c' C R Z E w1 h hL hz hS
  have HQ : Hid (SmpRd w a raw Q) := hq
  have HL : Hid (Q.length = L) := hL
  have HT : Hid (Tab w) := htab
  clear hq hL hS htab
  obtain ⟨n, hn⟩ : ∃ n, Z.length = n := ⟨_, rfl⟩
  rw [hn] at hZL
  have HN : Hid (Z.length = n) := hn
  go_enter Tryd.func3, Tryd.ntmps3
  go_wp2_with fail
  refine HR.out.mono ?_
  rintro e w1 ⟨a1, c1, raw1, rfl, ho1, hg1⟩
  rw [hn] at ho1 ⊢
  have HO1 : Hid (SmsOwn w1 w.heap.size (.slice a1 n c1) Z raw1) := ho1
  have HG1 : Hid (w.grownBy w1 none) := hg1
  clear ho1 hg1
  go_wp2_with fail
  refine (HCP.out w1 HG1.out).mono ?_
  rintro e w2 ⟨a2, c2, raw2, rfl, HO2, HG2⟩
  go_wp2_with fail
  refine (HF.out w2 a2 c2 raw2 HO2.out.rd.1).mono ?_
  rintro e w3 ⟨a3, c3, raw3, rfl, ho3, hg3⟩
  rw [hn] at ho3 ⊢
  have HO3 : Hid (SmsOwn w3 w2.heap.size (.slice a3 n c3) Z raw3) := ho3
  have HG3 : Hid (w2.grownBy w3 none) := hg3
  clear ho3 hg3 hn
  have HX : Hid (∀ w4, w2.grownBy w4 none → Calls Tryd.prog 11 #[.slice a2 L c2, .slice a L c] w4 fun e w' => e = .returned (.bool true) ∧ w4.grownBy w' none) := fun w4 hg => by
    have h := ssame a2 a raw2 raw Q Q L L c2 c w4 (HO2.out.rd.1.grown hg) (HQ.out.grown ((HG1.out.trans HG2.out).trans hg)) HL.out HL.out hz
    rw [decide_eq_true rfl] at h
    exact h
  have HY : Hid (∀ w4, w3.grownBy w4 none → Calls Tryd.prog 11 #[.slice a3 n c3, .slice a1 n c1] w4 fun e w' => e = .returned (.bool true) ∧ w4.grownBy w' none) := fun w4 hg => by
    have h := ssame a3 a1 raw3 raw1 Z Z n n c3 c1 w4 (HO3.out.rd.1.grown hg) ((HO1.out.grown (((HG2.out).trans HG3.out).trans hg)).rd.1) HN.out HN.out (by omega)
    rw [decide_eq_true rfl] at h
    exact h
  go_wp2_with fail
  refine (HX.out w3 HG3.out).mono ?_
  rintro e w4 ⟨rfl, hg4⟩
  have HG4 : Hid (w3.grownBy w4 none) := hg4
  clear hg4
  go_wp2_with fail
  refine (HY.out w4 HG4.out).mono ?_
  rintro e w5 ⟨rfl, hg5⟩
  have HG5 : Hid (w3.grownBy w5 none) := HG4.out.trans hg5
  clear hg5
  have HSPL : Hid (Calls Tryd.prog 12 #[.slice a3 n c3] w5 fun e w' => e = .returned (.tuple #[]) ∧ Below w2.heap.size w5 w') := s_spoil _ _ Z raw3 w5 (HO3.out.grown HG5.out) (Nat.le_trans HG3.out.size HG5.out.size) (by rw [HN.out]; omega)
  go_wp2_with fail
  refine HSPL.out.mono ?_
  rintro e w6 ⟨rfl, hb6⟩
  have HG6 : Hid (w2.grownBy w6 none) := gb_of_below (HG3.out.trans HG5.out) hb6 (Nat.le_refl _)
  clear hb6
  go_wp2_with fail
  refine (HX.out w6 HG6.out).mono ?_
  rintro e w7 ⟨rfl, hg7⟩
  have HG7 : Hid (w.grownBy w7 none) := ((HG1.out.trans HG2.out).trans HG6.out).trans hg7
  clear hg7
  go_wp2_with fail
  refine (h_awake w7 (HT.out.grown HG7.out)).mono ?_
  rintro e w8 ⟨rfl, hg8⟩
  go_wp2
  go_ret
  exact ⟨rfl, HG7.out.trans hg8⟩
end Go.Proofs.YtecnocdffhmkaaaDoor
