/- Bytes that are read as points are those points' bytes. -/
import Derived.Test.YtacpibidkfbojaaDoorKwalk
namespace Go.Proofs.YtacpibidkfbojaaDoor
open Go.ChangeShapes Go.WideShapes Go.ChangeAt Go.RowKit
set_option linter.unusedVariables false

set_option maxRecDepth 100000 in
set_option maxHeartbeats 4000000 in
theorem chunkStrict_walk (a0 : Option Addr) (z0 : List Int) (cap0 : Nat) (W : World) (r0 : Rd W a0 z0) (n0 : a0 = none → cap0 = 0) (l0 : z0.length ≤ 140737488351232) (hB : Bf W) :
    Calls Tryd.prog 6 #[.slice a0 z0.length cap0] W fun e w' => e = .returned (.bool true) ∧ Below W.heap.size W w' := by
  obtain ⟨cc, qs, hD⟩ := DecAns.ex z0
  have hq : qs.length ≤ 8191 := hD.len
  have HCopy : Hid (Calls Tryd.prog 21 #[.slice a0 z0.length cap0] W fun e w' => ∃ g c, e = .returned (.slice (some ⟨g, 0, none⟩) z0.length c) ∧ Own w' W.heap.size g z0.length c z0 ∧ W.grownBy w' none) := copy_any a0 z0 cap0 W r0 n0 l0
  have HF : Hid (∀ (g c : Nat) (w : World), W.grownBy w none → Rd w (some ⟨g, 0, none⟩) z0 → Calls Tryd.prog 19 #[.slice (some ⟨g, 0, none⟩) z0.length c] w fun e w' => ∃ v n c, e = .returned (.tuple #[.slice v n c, .int .i64 cc]) ∧ n = qs.length ∧ PO w' w.heap.size v n c qs ∧ w.grownBy w' none) := by
    intro g c w hg hr
    refine (k_dec _ z0 _ c w hr rfl (by omega) (hB.grown hg (by simp))).mono ?_
    rintro e w' ⟨v, n, c', ps, cc', rfl, hn, ho, hg', hd⟩
    obtain ⟨rfl, rfl⟩ := hD.det hd
    exact ⟨v, n, c', rfl, hn, ho, hg'⟩
  have HAw : Hid (∀ w, W.grownBy w none → Calls Tryd.prog 16 #[] w fun e w' => e = .returned (.bool true) ∧ w.grownBy w' none) := fun w hg => awake_chunk w (hB.grown hg (by simp))
  have HR : Hid (Rd W a0 z0) := r0
  have HDD : Hid ((cc = 52 ∧ qs = []) ∨ (cc = 0 ∧ encC qs = 0 ∧ encB qs = z0 ∧ ∀ q ∈ qs, okV q.2)) := by
    unfold DecAns at hD
    cases hd : decR z0 with
    | none => rw [hd] at hD; exact .inl hD
    | some ps =>
      rw [hd] at hD
      obtain ⟨h1, h2, h3, h4⟩ := decR_ok hd
      obtain ⟨rfl, rfl⟩ := hD
      have h0 := encC_zero.2 ⟨h3, h2⟩
      exact .inr ⟨rfl, h0, by unfold encB; rw [if_pos h0]; exact h4, okP_vals h1⟩
  have HEnc : Hid (∀ (v : Option Addr) (n c : Nat) (w : World), W.grownBy w none → SRd pntE w v qs → qs.length = n → (∀ q ∈ qs, okV q.2) → Calls Tryd.prog 11 #[.slice v n c] w fun e w' => ∃ v n c', e = .returned (.tuple #[.slice v n c', .int .i64 (encC qs)]) ∧ BO w' w.heap.size v n c' (encB qs) ∧ w.grownBy w' none) := by
    intro v n c w hg hr hn hv
    refine (k_enc v qs n c w hr hn (by omega) hv (hB.grown hg (by simp))).mono ?_
    rintro e w' ⟨v', n', c', rfl, hn', ho, hg'⟩
    exact ⟨v', n', c', rfl, ho, hg'⟩
  obtain ⟨L, eL⟩ : ∃ L, L = z0.length := ⟨_, rfl⟩
  have HLL : Hid (z0.length = L) := eL.symm
  rw [← eL] at HCopy HF l0 ⊢
  clear hD r0 n0 eL hB
  go_enter Tryd.func6, Tryd.ntmps6
  go_wp2_with fail
  refine HCopy.out.mono ?_
  rintro e w1 ⟨g1, c1, rfl, ho1, hg1⟩
  have HO1 : Hid (Own w1 W.heap.size g1 L c1 z0) := ho1
  have HG1 : Hid (W.grownBy w1 none) := hg1
  clear ho1 hg1 HCopy
  go_wp2_with fail
  refine (HF.out g1 c1 w1 HG1.out HO1.out.rd).mono ?_
  rintro e w2 ⟨v1, m1, k1, rfl, hm1, lo1, hg2⟩
  have HLO1 : Hid (PO w2 w1.heap.size v1 m1 k1 qs) := lo1
  have HG2 : Hid (W.grownBy w2 none) := HG1.out.trans hg2
  have HM1 : Hid (m1 = qs.length) := hm1
  clear lo1 hg2 HF hm1
  rcases HDD.out with ⟨rfl, rfl⟩ | ⟨rfl, h0, hb, hv⟩
  · obtain rfl : m1 = 0 := HM1.out
    clear HDD HEnc hq
    go_wp2_with fail
    refine (HAw.out w2 HG2.out).mono ?_
    rintro e w3 ⟨rfl, hg3⟩
    have HG3 : Hid (W.grownBy w3 none) := HG2.out.trans hg3
    clear hg3
    go_wp2
    go_ret
    exact ⟨rfl, gb_below HG3.out⟩
  · have HC := HEnc.out v1 m1 k1 w2 HG2.out HLO1.out.rd HLO1.out.len hv
    rw [h0, hb] at HC
    have HC' : Hid (Calls Tryd.prog 11 #[.slice v1 m1 k1] w2 fun e w' => ∃ v n c', e = .returned (.tuple #[.slice v n c', .int .i64 0]) ∧ BO w' w2.heap.size v n c' z0 ∧ w2.grownBy w' none) := HC
    have HBY : Hid (∀ z ∈ z0, 0 ≤ z ∧ z ≤ 255) := HR.out.2
    clear HC HEnc HDD h0 hb hv hq
    go_wp2_with fail
    refine HC'.out.mono ?_
    rintro e w3 ⟨v2, m2, k2, rfl, lo2, hg3⟩
    have HLO2 : Hid (BO w3 w2.heap.size v2 m2 k2 z0) := lo2
    have HG3 : Hid (W.grownBy w3 none) := HG2.out.trans hg3
    clear lo2 hg3 HC'
    go_wp2_with fail
    refine (same_any v2 a0 z0 z0 m2 L k2 cap0 w3 (HLO2.out.rd HBY.out) (HR.out.grown HG3.out (by simp)) HLO2.out.len HLL.out (by have h1 := HLO2.out.len; have h2 := HLL.out; omega)).mono ?_
    rintro e w4 ⟨rfl, hg4⟩
    have htt : decide (z0 = z0) = true := by simp
    rw [htt]
    clear htt
    have HG4 : Hid (W.grownBy w4 none) := HG3.out.trans hg4
    clear hg4
    go_wp2_with fail
    refine (HAw.out w4 HG4.out).mono ?_
    rintro e w5 ⟨rfl, hg5⟩
    have HG5 : Hid (W.grownBy w5 none) := HG4.out.trans hg5
    clear hg5
    go_wp2
    go_ret
    exact ⟨rfl, gb_below HG5.out⟩
end Go.Proofs.YtacpibidkfbojaaDoor
