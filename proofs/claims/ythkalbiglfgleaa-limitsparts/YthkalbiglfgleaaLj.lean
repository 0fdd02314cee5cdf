/- LimitsNormal, LimitsChecks: the walks. -/
import Derived.Test.YthkalbiglfgleaaLi
namespace Go.Proofs.Ythkalbiglfgleaa
open Go.RowKit
set_option linter.unusedVariables false
set_option maxRecDepth 20000

theorem nan_norm (v : Int) : normR v = if 9218868437227405312 < v % 9223372036854775808 ∧ v ≠ 9218868437227405314 then 9221120237041090560 else v := rfl
set_option maxHeartbeats 1000000 in
theorem normal_walk (v : Int) (w : World) (hv : 0 ≤ v ∧ v ≤ 18446744073709551615) : Calls Try.prog 5 #[.int .u64 v] w fun e w' => e = .returned (.bool true) ∧ w.grownBy w' none := by
  have hb : 0 ≤ normR v ∧ normR v ≤ 18446744073709551615 := by unfold normR; split <;> omega
  have HN : Hid (∀ u, Calls Try.prog 12 #[.int .u64 v] u fun e w' => e = .returned (.int .u64 (normR v)) ∧ u = w') := fun u => f_normal v u hv
  have HN2 : Hid (∀ u, Calls Try.prog 12 #[.int .u64 (normR v)] u fun e w' => e = .returned (.int .u64 (normR v)) ∧ u = w') := fun u => by
    have h := f_normal (normR v) u hb
    rw [normR_twice] at h
    exact h
  have HA : Hid (∀ u, Calls Try.prog 14 #[] u fun e w' => e = .returned (.bool true) ∧ u.grownBy w' none) := l_awake
  have hl := low11 (v / 4503599627370496) (by omega)
  have hu := up12 v hv
  have hn := nan_norm v
  simp only [nan_same v hv] at hn
  generalize normR v = n at HN HN2 hn hb
  generalize v / 4503599627370496 % 2048 = m at hl hn
  generalize v % 4503599627370496 * 4096 = z at hu hn
  by_cases h1 : m = 2047
  · have q1 : (m == 2047) = true := by simpa using h1
    by_cases h3 : z = 0
    · have q3 : (z != 0) = false := by simpa using h3
      have hs : n = v := by rw [if_neg (fun hh => hh.1.2 h3)] at hn; exact hn
      subst hs
      clear hn h1 h3
      go_enter Try.func5, Try.ntmps5
      go_wp2_with (first | (go_at_call 12; refine (HN.out _).mono ?_; rintro e w3 ⟨rfl, rfl⟩) | (go_at_call 14; refine (HA.out _).mono ?_; rintro e w3 ⟨rfl, hg3⟩))
      go_ret
      exact ⟨rfl, hg3⟩
    · have q3 : (z != 0) = true := by simpa using h3
      by_cases h2 : v = 9218868437227405314
      · have hs : n = v := by rw [if_neg (fun hh => hh.2 h2)] at hn; exact hn
        subst hs
        have q2 : (n != 9218868437227405314) = false := by simp [h2]
        have q4 : (n == 9218868437227405314) = true := by simpa using h2
        clear hn h1 h3 h2
        go_enter Try.func5, Try.ntmps5
        go_wp2_with (first | (go_at_call 12; refine (HN.out _).mono ?_; rintro e w3 ⟨rfl, rfl⟩) | (go_at_call 14; refine (HA.out _).mono ?_; rintro e w3 ⟨rfl, hg3⟩))
        go_ret
        exact ⟨rfl, hg3⟩
      · have hs : n = 9221120237041090560 := by rw [if_pos ⟨⟨h1, h3⟩, h2⟩] at hn; exact hn
        subst hs
        have q2 : (v != 9218868437227405314) = true := by simpa using h2
        have q4 : (v == 9218868437227405314) = false := by simpa using h2
        clear hn h1 h3 h2
        by_cases h5 : v = 9221120237041090560
        · subst h5
          go_enter Try.func5, Try.ntmps5
          go_wp2_with (first | (go_at_call 12; refine (HN.out _).mono ?_; rintro e w3 ⟨rfl, rfl⟩) | (go_at_call 14; refine (HA.out _).mono ?_; rintro e w3 ⟨rfl, hg3⟩))
          go_ret
          exact ⟨rfl, hg3⟩
        · have q5 : ((9221120237041090560 : Int) == v) = false := by simp; omega
          go_enter Try.func5, Try.ntmps5
          go_wp2_with fail
          refine (HN.out _).mono ?_
          rintro e w3 ⟨rfl, rfl⟩
          go_wp2_with fail
          refine (HN2.out _).mono ?_
          rintro e w3 ⟨rfl, rfl⟩
          go_wp2_with (go_at_call 14; refine (HA.out _).mono ?_; rintro e w3 ⟨rfl, hg3⟩)
          go_ret
          exact ⟨rfl, hg3⟩
  · have q1 : (m == 2047) = false := by simpa using h1
    have hs : n = v := by rw [if_neg (fun hh => h1 hh.1.1)] at hn; exact hn
    subst hs
    clear hn h1
    go_enter Try.func5, Try.ntmps5
    go_wp2_with (first | (go_at_call 12; refine (HN.out _).mono ?_; rintro e w3 ⟨rfl, rfl⟩) | (go_at_call 14; refine (HA.out _).mono ?_; rintro e w3 ⟨rfl, hg3⟩))
    go_ret
    exact ⟨rfl, hg3⟩
set_option maxHeartbeats 1000000 in
theorem checks_walk (s : ByteArray) (a : Option Addr) (raw : List (Sv × Int × Int)) (Q : List Smp) (c : Nat) (S m P v : Int) (H : Bool) (w : World) (hq : SmpRd w a raw Q) (hz : Q.length ≤ 3518437208882) (hv : 0 ≤ v ∧ v ≤ 18446744073709551615) :
    Calls Try.prog 3 #[.string s, .slice a Q.length c, limV S m P H, .int .u64 v] w fun e w' => e = .returned (.bool true) ∧ w.grownBy w' none := by
  obtain ⟨W, hW⟩ : ∃ W, W = w.alloc (.cells #[.int .i64 S, .int .i64 m, .int .i64 P, .bool H] 24) := ⟨_, rfl⟩
  have HG : Hid (w.grownBy W none) := hW ▸ World.grownBy_alloc w _ none
  have HB : Hid (W.cell? ⟨w.heap.size, 0, none⟩ = some (.int .i64 S) ∧ W.cell? ⟨w.heap.size, 1, none⟩ = some (.int .i64 m) ∧ W.cell? ⟨w.heap.size, 2, none⟩ = some (.int .i64 P) ∧ W.cell? ⟨w.heap.size, 3, none⟩ = some (.bool H)) := by
    rw [hW]
    refine ⟨?_, ?_, ?_, ?_⟩
    · rw [cell_of_row _ w.heap.size 0 _ _ _ (heap_alloc_new w _)]; rfl
    · rw [cell_of_row _ w.heap.size 1 _ _ _ (heap_alloc_new w _)]; rfl
    · rw [cell_of_row _ w.heap.size 2 _ _ _ (heap_alloc_new w _)]; rfl
    · rw [cell_of_row _ w.heap.size 3 _ _ _ (heap_alloc_new w _)]; rfl
  have HW : Hid (w.alloc (.cells #[.int .i64 S, .int .i64 m, .int .i64 P, .bool H] 24) = W) := hW.symm
  obtain ⟨L, eL⟩ : ∃ L, Q.length = L := ⟨_, rfl⟩
  rw [eL] at hz ⊢
  obtain ⟨A, C, eR⟩ : ∃ A C, checkL s Q m P = (A, C) := ⟨_, _, rfl⟩
  have HQ : Hid (SmpRd W a raw Q) := hq.grown HG.out
  have HR : Hid (∀ u, W.grownBy u none → Calls Try.prog 6 #[.string s, .slice a L c, limV S m P H] u fun e w' => e = .returned (.tuple #[.int .i64 A, .int .i64 C]) ∧ u.grownBy w' none) := fun u hu => r_lcheck s a raw Q L c S m P A C H u (HQ.out.grown hu) eL hz eR
  have HC : Hid (∀ u, W.grownBy u none → Calls Try.prog 7 #[.slice a L c] u fun e w' => ∃ a' c' raw', e = .returned (.slice a' L c') ∧ SmsOwn w' u.heap.size (.slice a' L c') Q raw' ∧ u.grownBy w' none) := fun u hu => scopy a raw Q L c u (HQ.out.grown hu) eL hz
  have HF : Hid (∀ a' c' raw' u, SmpRd u a' raw' Q → Calls Try.prog 8 #[.string s, .slice a' L c', limV S m P H] u fun e w' => e = .returned (.tuple #[.int .i64 A, .int .i64 C]) ∧ u.grownBy w' none) := fun a' c' raw' u h => f_lcheck s a' raw' Q L c' S m P A C H u h eL hz eR
  have HS : Hid (∀ a' c' raw' u, SmpRd u a' raw' Q → W.grownBy u none → Calls Try.prog 9 #[.slice a' L c', .slice a L c] u fun e w' => e = .returned (.bool true) ∧ u.grownBy w' none) := fun a' c' raw' u h hu => by
    have h2 := ssame a' a raw' raw Q Q L L c' c u h (HQ.out.grown hu) eL eL hz
    rw [decide_eq_true rfl] at h2
    exact h2
  have HT : Hid (∀ u, Calls Try.prog 10 #[.string s] u fun e w' => e = .returned (.bool (tenR s)) ∧ u = w') := f_tenant s
  have HT2 : Hid (∀ u, Calls Try.prog 11 #[.string s] u fun e w' => e = .returned (.bool (tenR s)) ∧ u = w') := r_tenant s
  have HN : Hid (∀ u, Calls Try.prog 12 #[.int .u64 v] u fun e w' => e = .returned (.int .u64 (normR v)) ∧ u = w') := fun u => f_normal v u hv
  have HN2 : Hid (∀ u, Calls Try.prog 13 #[.int .u64 v] u fun e w' => e = .returned (.int .u64 (normR v)) ∧ u = w') := fun u => r_normal v u hv
  have HA : Hid (∀ u, Calls Try.prog 14 #[] u fun e w' => e = .returned (.bool true) ∧ u.grownBy w' none) := l_awake
  generalize tenR s = T at HT HT2
  generalize normR v = N at HN HN2
  have t1 : (A == A) = true := by simp
  have t2 : (C == C) = true := by simp
  have t3 : (N == N) = true := by simp
  have t4 : (T == T) = true := by simp
  clear hW hq eL eR
  go_enter Try.func3, Try.ntmps3
  go_upto_region 1 with fail
  rw [HW.out]
  obtain ⟨d0, d1, d2, d3⟩ := HB.out
  go_wp2_with fail
  refine (HR.out _ (World.grownBy.refl _ _)).mono ?_
  rintro e w1 ⟨rfl, hg1⟩
  have H1 : Hid (W.grownBy w1 none) := hg1
  replace d0 := hg1.cell d0 (by simp); replace d1 := hg1.cell d1 (by simp); replace d2 := hg1.cell d2 (by simp); replace d3 := hg1.cell d3 (by simp)
  clear hg1
  go_wp2_with fail
  refine (HC.out _ H1.out).mono ?_
  rintro e w2 ⟨a', c', raw', rfl, ho, hg2⟩
  have H2 : Hid (W.grownBy w2 none) := H1.out.trans hg2
  have HX : Hid (SmpRd w2 a' raw' Q) := ho.rd.1
  replace d0 := hg2.cell d0 (by simp); replace d1 := hg2.cell d1 (by simp); replace d2 := hg2.cell d2 (by simp); replace d3 := hg2.cell d3 (by simp)
  clear hg2 ho
  go_wp2_with fail
  refine (HF.out a' c' raw' _ HX.out).mono ?_
  rintro e w3 ⟨rfl, hg3⟩
  have H3 : Hid (W.grownBy w3 none) := H2.out.trans hg3
  have HX3 : Hid (SmpRd w3 a' raw' Q) := HX.out.grown hg3
  clear hg3 d0 d1 d2 d3
  go_wp2_with fail
  refine (HS.out a' c' raw' _ HX3.out H3.out).mono ?_
  rintro e w4 ⟨rfl, hg4⟩
  have H4 : Hid (W.grownBy w4 none) := H3.out.trans hg4
  clear hg4
  go_wp2_with (first | (go_at_call 10; refine (HT.out _).mono ?_; rintro e w5 ⟨rfl, rfl⟩) | (go_at_call 11; refine (HT2.out _).mono ?_; rintro e w5 ⟨rfl, rfl⟩) | (go_at_call 12; refine (HN.out _).mono ?_; rintro e w5 ⟨rfl, rfl⟩) | (go_at_call 13; refine (HN2.out _).mono ?_; rintro e w5 ⟨rfl, rfl⟩) | (go_at_call 14; refine (HA.out _).mono ?_; rintro e w5 ⟨rfl, hg5⟩))
  go_ret
  exact ⟨rfl, (HG.out.trans H4.out).trans hg5⟩
end Go.Proofs.Ythkalbiglfgleaa
