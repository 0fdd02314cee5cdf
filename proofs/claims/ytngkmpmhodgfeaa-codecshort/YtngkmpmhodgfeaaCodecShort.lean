/- What is read, laid anew, is the same bytes, for every slice of bytes. -/
import Derived.Test.YtngkmpmhodgfeaaCshort
import Derived.Test.YtngkmpmhodgfeaaBcap
namespace Go.Proofs.Ytngkmpmhodgfeaa
open Go.ChangeShapes Go.WideShapes Go.ChangeAt Go.RowKit
set_option linter.unusedVariables false

set_option maxHeartbeats 4000000 in
theorem codecShort_no (a0 : Option Addr) (z0 : List Int) (cap0 : Nat) (W : World) (r0 : Rd W a0 z0) (n0 : a0 = none → cap0 = 0) (l0 : z0.length ≤ 140737488351232) (r1 r2 r3 : Int) (hU : uintR z0 0 = (r1, r2, r3)) (h3 : r3 ≠ 0) :
    Calls Try.prog 6 #[.slice a0 z0.length cap0] W fun e w' => e = .returned (.bool true) ∧ Below W.heap.size W w' := by
  obtain ⟨hI, hT, hF⟩ := all_no hU h3
  have HU : Hid (uintR z0 0 = (r1, r2, r3)) := hU
  have HI : Hid (intR z0 0 = (0, 0, r3)) := hI
  have HT : Hid (textR z0 0 = (⟨#[]⟩, 0, r3)) := hT
  have HF : Hid (uframeR z0 0 = ([], 0, r3)) := hF
  have HK : Hid (∀ w, W.grownBy w none → Calls Try.prog 32 #[.slice a0 z0.length cap0] w fun e w' => ∃ g c, e = .returned (.slice (some ⟨g, 0, none⟩) z0.length c) ∧ Own w' w.heap.size g z0.length c z0 ∧ w.grownBy w' none) := fun w hg => copy_any a0 z0 cap0 w (r0.grown hg (by simp)) n0 l0
  obtain ⟨L, hL⟩ : ∃ L, z0.length = L := ⟨_, rfl⟩
  have HL : Hid (z0.length = L) := hL
  rw [hL] at HK l0 ⊢
  have hG : W.grownBy W none := gb_drewN W 0
  have h3b : (r3 == 0) = false := by simpa using h3
  have h3c : (r3 != 0) = true := by simpa using h3
  clear hU hI hT hF r0 n0 hL h3
  go_enter Try.func6, Try.ntmps6
  go_wp2_with fail
  refine (HK.out _ hG).mono ?_
  rintro e w1 ⟨g1, c1, rfl, ho1, hg1⟩
  have hG1 := gb_trans hG hg1 (by simp)
  clear hg1 hG
  go_wp2_with fail
  refine (f_uint (some ⟨g1, 0, none⟩) z0 L c1 0 r1 r2 r3 w1 ho1.rd HL.out ho1.cap.1 (by omega) HU.out).mono ?_
  rintro e w2 ⟨rfl, hg2⟩
  have hG2 := gb_trans hG1 hg2 (by simp)
  clear hg2 hG1 ho1
  go_wp2_with fail
  refine (HK.out _ hG2).mono ?_
  rintro e w3 ⟨g3, c3, rfl, ho3, hg3⟩
  have hG3 := gb_trans hG2 hg3 (by simp)
  clear hg3 hG2
  go_wp2_with fail
  refine (f_int (some ⟨g3, 0, none⟩) z0 L c3 0 0 0 r3 w3 ho3.rd HL.out ho3.cap.1 (by omega) HI.out).mono ?_
  rintro e w4 ⟨rfl, hg4⟩
  have hG4 := gb_trans hG3 hg4 (by simp)
  clear hg4 hG3 ho3
  go_wp2_with fail
  refine (HK.out _ hG4).mono ?_
  rintro e w5 ⟨g5, c5, rfl, ho5, hg5⟩
  have hG5 := gb_trans hG4 hg5 (by simp)
  clear hg5 hG4
  go_wp2_with fail
  refine (f_text (some ⟨g5, 0, none⟩) z0 L c5 0 ⟨#[]⟩ 0 r3 w5 ho5.rd HL.out ho5.cap.1 (by omega) HT.out).mono ?_
  rintro e w6 ⟨rfl, hg6⟩
  have hG6 := gb_trans hG5 hg6 (by simp)
  clear hg6 hG5 ho5
  go_wp2_with fail
  refine (HK.out _ hG6).mono ?_
  rintro e w7 ⟨g7, c7, rfl, ho7, hg7⟩
  have hG7 := gb_trans hG6 hg7 (by simp)
  clear hg7 hG6
  go_wp2_with fail
  refine (f_unframe (some ⟨g7, 0, none⟩) z0 L c7 0 [] 0 r3 w7 ho7.rd HL.out ho7.cap.1 (by omega) HF.out).mono ?_
  rintro e w8 ⟨vr, Nr, cr, rfl, hor, hg8⟩
  have hG := gb_drew (gb_trans hG7 hg8 (by simp))
  clear hg8 hG7 ho7
  go_wp2_with fail
  refine wp_region_held_drew (S := fun _ => True) (by kernel_rfl) trivial (fun _ => ?_)
  refine draw_take 0 (v := ?_) rfl (by kernel_rfl) (by kernel_rfl) (by kernel_rfl) (fun _ _ _ h => h) (by rfl) ?_ ?_
  rotate_left
  · intro w; go_simp; try with_reducible rfl
  try simp only [Act.put, List.setIfInBounds_toArray, List.set_cons_zero, List.set_cons_succ]
  refine draw_take 1 (v := ?_) rfl (by kernel_rfl) (by kernel_rfl) (by kernel_rfl) (fun _ _ _ h => h) (by rfl) ?_ ?_
  rotate_left
  · intro w; go_simp; try with_reducible rfl
  try simp only [Act.put, List.setIfInBounds_toArray, List.set_cons_zero, List.set_cons_succ]
  refine draw_take 2 (v := ?_) rfl (by kernel_rfl) (by kernel_rfl) (by kernel_rfl) (fun _ _ _ h => h) (by rfl) ?_ ?_
  rotate_left
  · intro w; go_simp; try with_reducible rfl
  try simp only [Act.put, List.setIfInBounds_toArray, List.set_cons_zero, List.set_cons_succ]
  refine draw_skip 3 rfl (by kernel_rfl) (by kernel_rfl) (by kernel_rfl) (fun _ _ _ h => h) (by rfl) ?_
  try simp only [Act.put, List.setIfInBounds_toArray, List.set_cons_zero, List.set_cons_succ]
  refine draw_skip 4 rfl (by kernel_rfl) (by kernel_rfl) (by kernel_rfl) (fun _ _ _ h => h) (by rfl) ?_
  try simp only [Act.put, List.setIfInBounds_toArray, List.set_cons_zero, List.set_cons_succ]
  refine draw_skip 5 rfl (by kernel_rfl) (by kernel_rfl) (by kernel_rfl) (fun _ _ _ h => h) (by rfl) ?_
  try simp only [Act.put, List.setIfInBounds_toArray, List.set_cons_zero, List.set_cons_succ]
  refine draw_skip 6 rfl (by kernel_rfl) (by kernel_rfl) (by kernel_rfl) (fun _ _ _ h => h) (by rfl) ?_
  try simp only [Act.put, List.setIfInBounds_toArray, List.set_cons_zero, List.set_cons_succ]
  refine draw_skip 7 rfl (by kernel_rfl) (by kernel_rfl) (by kernel_rfl) (fun _ _ _ h => h) (by rfl) ?_
  try simp only [Act.put, List.setIfInBounds_toArray, List.set_cons_zero, List.set_cons_succ]
  refine draw_skip 8 rfl (by kernel_rfl) (by kernel_rfl) (by kernel_rfl) (fun _ _ _ h => h) (by rfl) ?_
  try simp only [Act.put, List.setIfInBounds_toArray, List.set_cons_zero, List.set_cons_succ]
  refine draw_skip 9 rfl (by kernel_rfl) (by kernel_rfl) (by kernel_rfl) (fun _ _ _ h => h) (by rfl) ?_
  try simp only [Act.put, List.setIfInBounds_toArray, List.set_cons_zero, List.set_cons_succ]
  refine draw_skip 10 rfl (by kernel_rfl) (by kernel_rfl) (by kernel_rfl) (fun _ _ _ h => h) (by rfl) ?_
  try simp only [Act.put, List.setIfInBounds_toArray, List.set_cons_zero, List.set_cons_succ]
  refine draw_skip 11 rfl (by kernel_rfl) (by kernel_rfl) (by kernel_rfl) (fun _ _ _ h => h) (by rfl) ?_
  try simp only [Act.put, List.setIfInBounds_toArray, List.set_cons_zero, List.set_cons_succ]
  refine draw_skip 12 rfl (by kernel_rfl) (by kernel_rfl) (by kernel_rfl) (fun _ _ _ h => h) (by rfl) ?_
  try simp only [Act.put, List.setIfInBounds_toArray, List.set_cons_zero, List.set_cons_succ]
  refine draw_skip 13 rfl (by kernel_rfl) (by kernel_rfl) (by kernel_rfl) (fun _ _ _ h => h) (by rfl) ?_
  try simp only [Act.put, List.setIfInBounds_toArray, List.set_cons_zero, List.set_cons_succ]
  refine draw_skip 14 rfl (by kernel_rfl) (by kernel_rfl) (by kernel_rfl) (fun _ _ _ h => h) (by rfl) ?_
  try simp only [Act.put, List.setIfInBounds_toArray, List.set_cons_zero, List.set_cons_succ]
  refine draw_skip 15 rfl (by kernel_rfl) (by kernel_rfl) (by kernel_rfl) (fun _ _ _ h => h) (by rfl) ?_
  try simp only [Act.put, List.setIfInBounds_toArray, List.set_cons_zero, List.set_cons_succ]
  refine draw_take 16 (v := ?_) rfl (by kernel_rfl) (by kernel_rfl) (by kernel_rfl) (fun _ _ _ h => h) (by rfl) ?_ ?_
  rotate_left
  · intro w; go_simp; try with_reducible rfl
  try simp only [Act.put, List.setIfInBounds_toArray, List.set_cons_zero, List.set_cons_succ]
  refine draw_take 17 (v := ?_) rfl (by kernel_rfl) (by kernel_rfl) (by kernel_rfl) (fun _ _ _ h => h) (by rfl) ?_ ?_
  rotate_left
  · intro w; go_simp; try with_reducible rfl
  try simp only [Act.put, List.setIfInBounds_toArray, List.set_cons_zero, List.set_cons_succ]
  refine draw_take 18 (v := ?_) rfl (by kernel_rfl) (by kernel_rfl) (by kernel_rfl) (fun _ _ _ h => h) (by rfl) ?_ ?_
  rotate_left
  · intro w; go_simp; try with_reducible rfl
  try simp only [Act.put, List.setIfInBounds_toArray, List.set_cons_zero, List.set_cons_succ]
  refine draw_take 19 (v := ?_) rfl (by kernel_rfl) (by kernel_rfl) (by kernel_rfl) (fun _ _ _ h => h) (by rfl) ?_ ?_
  rotate_left
  · intro w; go_simp; try with_reducible rfl
  try simp only [Act.put, List.setIfInBounds_toArray, List.set_cons_zero, List.set_cons_succ]
  refine draw_take 20 (v := ?_) rfl (by kernel_rfl) (by kernel_rfl) (by kernel_rfl) (fun _ _ _ h => h) (by rfl) ?_ ?_
  rotate_left
  · intro w; go_simp; try with_reducible rfl
  try simp only [Act.put, List.setIfInBounds_toArray, List.set_cons_zero, List.set_cons_succ]
  refine draw_skip 21 rfl (by kernel_rfl) (by kernel_rfl) (by kernel_rfl) (fun _ _ _ h => h) (by rfl) ?_
  try simp only [Act.put, List.setIfInBounds_toArray, List.set_cons_zero, List.set_cons_succ]
  refine draw_skip 22 rfl (by kernel_rfl) (by kernel_rfl) (by kernel_rfl) (fun _ _ _ h => h) (by rfl) ?_
  try simp only [Act.put, List.setIfInBounds_toArray, List.set_cons_zero, List.set_cons_succ]
  refine draw_skip 23 rfl (by kernel_rfl) (by kernel_rfl) (by kernel_rfl) (fun _ _ _ h => h) (by rfl) ?_
  try simp only [Act.put, List.setIfInBounds_toArray, List.set_cons_zero, List.set_cons_succ]
  refine draw_skip 24 rfl (by kernel_rfl) (by kernel_rfl) (by kernel_rfl) (fun _ _ _ h => h) (by rfl) ?_
  try simp only [Act.put, List.setIfInBounds_toArray, List.set_cons_zero, List.set_cons_succ]
  refine draw_skip 25 rfl (by kernel_rfl) (by kernel_rfl) (by kernel_rfl) (fun _ _ _ h => h) (by rfl) ?_
  try simp only [Act.put, List.setIfInBounds_toArray, List.set_cons_zero, List.set_cons_succ]
  refine draw_skip 26 rfl (by kernel_rfl) (by kernel_rfl) (by kernel_rfl) (fun _ _ _ h => h) (by rfl) ?_
  try simp only [Act.put, List.setIfInBounds_toArray, List.set_cons_zero, List.set_cons_succ]
  refine draw_skip 27 rfl (by kernel_rfl) (by kernel_rfl) (by kernel_rfl) (fun _ _ _ h => h) (by rfl) ?_
  try simp only [Act.put, List.setIfInBounds_toArray, List.set_cons_zero, List.set_cons_succ]
  refine draw_skip 28 rfl (by kernel_rfl) (by kernel_rfl) (by kernel_rfl) (fun _ _ _ h => h) (by rfl) ?_
  try simp only [Act.put, List.setIfInBounds_toArray, List.set_cons_zero, List.set_cons_succ]
  refine draw_skip 29 rfl (by kernel_rfl) (by kernel_rfl) (by kernel_rfl) (fun _ _ _ h => h) (by rfl) ?_
  try simp only [Act.put, List.setIfInBounds_toArray, List.set_cons_zero, List.set_cons_succ]
  refine draw_skip 30 rfl (by kernel_rfl) (by kernel_rfl) (by kernel_rfl) (fun _ _ _ h => h) (by rfl) ?_
  try simp only [Act.put, List.setIfInBounds_toArray, List.set_cons_zero, List.set_cons_succ]
  refine draw_skip 31 rfl (by kernel_rfl) (by kernel_rfl) (by kernel_rfl) (fun _ _ _ h => h) (by rfl) ?_
  try simp only [Act.put, List.setIfInBounds_toArray, List.set_cons_zero, List.set_cons_succ]
  refine draw_skip 32 rfl (by kernel_rfl) (by kernel_rfl) (by kernel_rfl) (fun _ _ _ h => h) (by rfl) ?_
  try simp only [Act.put, List.setIfInBounds_toArray, List.set_cons_zero, List.set_cons_succ]
  refine draw_skip 33 rfl (by kernel_rfl) (by kernel_rfl) (by kernel_rfl) (fun _ _ _ h => h) (by rfl) ?_
  try simp only [Act.put, List.setIfInBounds_toArray, List.set_cons_zero, List.set_cons_succ]
  refine draw_take 34 (v := ?_) rfl (by kernel_rfl) (by kernel_rfl) (by kernel_rfl) (fun _ _ _ h => h) (by rfl) ?_ ?_
  rotate_left
  · intro w; go_simp; try with_reducible rfl
  try simp only [Act.put, List.setIfInBounds_toArray, List.set_cons_zero, List.set_cons_succ]
  refine draw_take 35 (v := ?_) rfl (by kernel_rfl) (by kernel_rfl) (by kernel_rfl) (fun _ _ _ h => h) (by rfl) ?_ ?_
  rotate_left
  · intro w; go_simp; try with_reducible rfl
  try simp only [Act.put, List.setIfInBounds_toArray, List.set_cons_zero, List.set_cons_succ]
  refine draw_take 36 (v := ?_) rfl (by kernel_rfl) (by kernel_rfl) (by kernel_rfl) (fun _ _ _ h => h) (by rfl) ?_ ?_
  rotate_left
  · intro w; go_simp; try with_reducible rfl
  try simp only [Act.put, List.setIfInBounds_toArray, List.set_cons_zero, List.set_cons_succ]
  refine draw_take 37 (v := ?_) rfl (by kernel_rfl) (by kernel_rfl) (by kernel_rfl) (fun _ _ _ h => h) (by rfl) ?_ ?_
  rotate_left
  · intro w; go_simp; try with_reducible rfl
  try simp only [Act.put, List.setIfInBounds_toArray, List.set_cons_zero, List.set_cons_succ]
  refine draw_take 38 (v := ?_) rfl (by kernel_rfl) (by kernel_rfl) (by kernel_rfl) (fun _ _ _ h => h) (by rfl) ?_ ?_
  rotate_left
  · intro w; go_simp; try with_reducible rfl
  try simp only [Act.put, List.setIfInBounds_toArray, List.set_cons_zero, List.set_cons_succ]
  refine draw_take 39 (v := ?_) rfl (by kernel_rfl) (by kernel_rfl) (by kernel_rfl) (fun _ _ _ h => h) (by rfl) ?_ ?_
  rotate_left
  · intro w; go_simp; try with_reducible rfl
  try simp only [Act.put, List.setIfInBounds_toArray, List.set_cons_zero, List.set_cons_succ]
  refine draw_skip 40 rfl (by kernel_rfl) (by kernel_rfl) (by kernel_rfl) (fun _ _ _ h => h) (by rfl) ?_
  try simp only [Act.put, List.setIfInBounds_toArray, List.set_cons_zero, List.set_cons_succ]
  refine draw_skip 41 rfl (by kernel_rfl) (by kernel_rfl) (by kernel_rfl) (fun _ _ _ h => h) (by rfl) ?_
  try simp only [Act.put, List.setIfInBounds_toArray, List.set_cons_zero, List.set_cons_succ]
  refine draw_skip 42 rfl (by kernel_rfl) (by kernel_rfl) (by kernel_rfl) (fun _ _ _ h => h) (by rfl) ?_
  try simp only [Act.put, List.setIfInBounds_toArray, List.set_cons_zero, List.set_cons_succ]
  refine draw_skip 43 rfl (by kernel_rfl) (by kernel_rfl) (by kernel_rfl) (fun _ _ _ h => h) (by rfl) ?_
  try simp only [Act.put, List.setIfInBounds_toArray, List.set_cons_zero, List.set_cons_succ]
  refine draw_skip 44 rfl (by kernel_rfl) (by kernel_rfl) (by kernel_rfl) (fun _ _ _ h => h) (by rfl) ?_
  try simp only [Act.put, List.setIfInBounds_toArray, List.set_cons_zero, List.set_cons_succ]
  refine draw_skip 45 rfl (by kernel_rfl) (by kernel_rfl) (by kernel_rfl) (fun _ _ _ h => h) (by rfl) ?_
  try simp only [Act.put, List.setIfInBounds_toArray, List.set_cons_zero, List.set_cons_succ]
  refine draw_skip 46 rfl (by kernel_rfl) (by kernel_rfl) (by kernel_rfl) (fun _ _ _ h => h) (by rfl) ?_
  try simp only [Act.put, List.setIfInBounds_toArray, List.set_cons_zero, List.set_cons_succ]
  refine draw_skip 47 rfl (by kernel_rfl) (by kernel_rfl) (by kernel_rfl) (fun _ _ _ h => h) (by rfl) ?_
  try simp only [Act.put, List.setIfInBounds_toArray, List.set_cons_zero, List.set_cons_succ]
  refine draw_skip 48 rfl (by kernel_rfl) (by kernel_rfl) (by kernel_rfl) (fun _ _ _ h => h) (by rfl) ?_
  try simp only [Act.put, List.setIfInBounds_toArray, List.set_cons_zero, List.set_cons_succ]
  refine draw_skip 49 rfl (by kernel_rfl) (by kernel_rfl) (by kernel_rfl) (fun _ _ _ h => h) (by rfl) ?_
  try simp only [Act.put, List.setIfInBounds_toArray, List.set_cons_zero, List.set_cons_succ]
  refine draw_skip 50 rfl (by kernel_rfl) (by kernel_rfl) (by kernel_rfl) (fun _ _ _ h => h) (by rfl) ?_
  try simp only [Act.put, List.setIfInBounds_toArray, List.set_cons_zero, List.set_cons_succ]
  refine draw_skip 51 rfl (by kernel_rfl) (by kernel_rfl) (by kernel_rfl) (fun _ _ _ h => h) (by rfl) ?_
  try simp only [Act.put, List.setIfInBounds_toArray, List.set_cons_zero, List.set_cons_succ]
  refine draw_skip 52 rfl (by kernel_rfl) (by kernel_rfl) (by kernel_rfl) (fun _ _ _ h => h) (by rfl) ?_
  try simp only [Act.put, List.setIfInBounds_toArray, List.set_cons_zero, List.set_cons_succ]
  refine draw_take 53 (v := ?_) rfl (by kernel_rfl) (by kernel_rfl) (by kernel_rfl) (fun _ _ _ h => h) (by rfl) ?_ ?_
  rotate_left
  · intro w; go_simp; try with_reducible rfl
  try simp only [Act.put, List.setIfInBounds_toArray, List.set_cons_zero, List.set_cons_succ]
  refine draw_take 54 (v := ?_) rfl (by kernel_rfl) (by kernel_rfl) (by kernel_rfl) (fun _ _ _ h => h) (by rfl) ?_ ?_
  rotate_left
  · intro w; go_simp; try with_reducible rfl
  try simp only [Act.put, List.setIfInBounds_toArray, List.set_cons_zero, List.set_cons_succ]
  refine wpAnyH_done (by kernel_rfl) ?_ _
  have hNr : Nr = 0 := hor.1.symm
  subst hNr
  clear hor
  go_wp2_with fail
  refine (awake_any _).mono ?_
  rintro e w9 ⟨rfl, hg9⟩
  go_wp2
  go_ret
  exact ⟨rfl, gb_below (gb_trans hG hg9 (by simp))⟩

set_option maxHeartbeats 4000000 in
theorem codecShort_text (b0 off : Nat) (z0 : List Int) (cap0 : Nat) (W : World) (r0 : Rd W (some ⟨b0, off, none⟩) z0) (l0 : z0.length ≤ 140737488351232) (hcap0 : z0.length ≤ cap0) (v x t2 t3 f2 f3 : Int) (s : ByteArray) (rec : List Int) (n k i : Nat)
    (hU : uintR z0 0 = (v, (n : Int), 0)) (hI : intR z0 0 = (x, (n : Int), 0)) (hT : textR z0 0 = (s, t2, t3)) (hF : uframeR z0 0 = (rec, f2, f3))
    (hn : n ≤ z0.length) (hV : 0 ≤ v ∧ v ≤ 18446744073709551615) (hX : -9223372036854775808 ≤ x ∧ x ≤ 9223372036854775807) (hE1 : enc v.toNat = z0.take n) (hE2 : enc (zz x).toNat = z0.take n)
    (hTx : t3 = 0 ∧ t2 = (k : Int) ∧ k ≤ z0.length ∧ s.size ≤ z0.length ∧ enc s.size ++ sInts s = z0.take k)
    (hFx : f3 = 0 → f2 = (i : Int) ∧ i ≤ z0.length ∧ rec.length ≤ 65536 ∧ frameR rec = z0.take i) (hFn : f3 ≠ 0 → rec = []) :
    Calls Try.prog 6 #[.slice (some ⟨b0, off, none⟩) z0.length cap0] W fun e w' => e = .returned (.bool true) ∧ Below W.heap.size W w' := by
  have HU : Hid (uintR z0 0 = (v, (n : Int), 0)) := hU
  have HI : Hid (intR z0 0 = (x, (n : Int), 0)) := hI
  have HT : Hid (textR z0 0 = (s, t2, t3)) := hT
  have HF : Hid (uframeR z0 0 = (rec, f2, f3)) := hF
  have HR : Hid (Rd W (some ⟨b0, off, none⟩) z0) := r0
  have HVb : Hid (0 ≤ v ∧ v ≤ 18446744073709551615) := hV
  have HXb : Hid (-9223372036854775808 ≤ x ∧ x ≤ 9223372036854775807) := hX
  have hnl : (z0.take n).length = n := by simp; omega
  have HE1 : Hid (decide ([] ++ enc v.toNat = z0.take n) = true ∧ (z0.take n).length = n) := ⟨by simpa using hE1, hnl⟩
  have HE2 : Hid (decide ([] ++ enc (zz x).toNat = z0.take n) = true ∧ (z0.take n).length = n) := ⟨by simpa using hE2, hnl⟩
  have HE1B : Hid (([] ++ enc v.toNat).length ≤ 140737488351232) := by show _ ≤ _; rw [List.nil_append, hE1]; omega
  have HE2B : Hid (([] ++ enc (zz x).toNat).length ≤ 140737488351232) := by show _ ≤ _; rw [List.nil_append, hE2]; omega
  obtain ⟨rfl, rfl, hk, hs, hE3⟩ := hTx
  have hkl : (z0.take k).length = k := by simp; omega
  have HSb : Hid (0 + s.size ≤ 140737488355000) := by show _ ≤ _; omega
  have HE3 : Hid (decide ([] ++ enc s.size ++ sInts s = z0.take k) = true ∧ (z0.take k).length = k) := ⟨by simpa using hE3, hkl⟩
  have HE3B : Hid (([] ++ enc s.size ++ sInts s).length ≤ 140737488351232) := by show _ ≤ _; rw [List.nil_append, hE3]; omega
  clear hE3 hkl hs
  have HFx : Hid (f3 = 0 → f2 = (i : Int) ∧ i ≤ z0.length ∧ rec.length ≤ 65536 ∧ frameR rec = z0.take i) := hFx
  have HFn : Hid (f3 ≠ 0 → rec = []) := hFn
  have HK : Hid (∀ w, W.grownBy w none → Calls Try.prog 32 #[.slice (some ⟨b0, off, none⟩) z0.length cap0] w fun e w' => ∃ g c, e = .returned (.slice (some ⟨g, 0, none⟩) z0.length c) ∧ Own w' w.heap.size g z0.length c z0 ∧ w.grownBy w' none) := fun w hg => copy_any _ z0 cap0 w (r0.grown hg (by simp)) (by simp) l0
  obtain ⟨L, hL⟩ : ∃ L, z0.length = L := ⟨_, rfl⟩
  have HL : Hid (z0.length = L) := hL
  rw [hL] at HK l0 hcap0 hn hk HFx ⊢
  have hG : W.grownBy W none := gb_drewN W 0
  have q0 : (0 : Int) ≤ (n : Int) := by omega
  have q1 : (n : Int) ≤ (cap0 : Int) := by omega
  have q2 : decide (L < n) = false := by simp; omega
  have k0 : (0 : Int) ≤ (k : Int) := by omega
  have k1 : (k : Int) ≤ (cap0 : Int) := by omega
  have k2 : decide (L < k) = false := by simp; omega
  clear hU hI hT hF r0 hL hV hX hE1 hE2 hFx hFn hnl
  go_enter Try.func6, Try.ntmps6
  go_wp2_with fail
  refine (HK.out _ hG).mono ?_
  rintro e w1 ⟨g1, c1, rfl, ho1, hg1⟩
  have hG1 := gb_trans hG hg1 (by simp)
  clear hg1 hG
  go_wp2_with fail
  refine (f_uint (some ⟨g1, 0, none⟩) z0 L c1 0 v (n : Int) 0 w1 ho1.rd HL.out ho1.cap.1 (by omega) HU.out).mono ?_
  rintro e w2 ⟨rfl, hg2⟩
  have hG2 := gb_trans hG1 hg2 (by simp)
  clear hg2 hG1 ho1
  go_wp2_with fail
  refine (HK.out _ hG2).mono ?_
  rintro e w3 ⟨g3, c3, rfl, ho3, hg3⟩
  have hG3 := gb_trans hG2 hg3 (by simp)
  clear hg3 hG2
  go_wp2_with fail
  refine (f_int (some ⟨g3, 0, none⟩) z0 L c3 0 x (n : Int) 0 w3 ho3.rd HL.out ho3.cap.1 (by omega) HI.out).mono ?_
  rintro e w4 ⟨rfl, hg4⟩
  have hG4 := gb_trans hG3 hg4 (by simp)
  clear hg4 hG3 ho3
  go_wp2_with fail
  refine (HK.out _ hG4).mono ?_
  rintro e w5 ⟨g5, c5, rfl, ho5, hg5⟩
  have hG5 := gb_trans hG4 hg5 (by simp)
  clear hg5 hG4
  go_wp2_with fail
  refine (f_text (some ⟨g5, 0, none⟩) z0 L c5 0 s (k : Int) 0 w5 ho5.rd HL.out ho5.cap.1 (by omega) HT.out).mono ?_
  rintro e w6 ⟨rfl, hg6⟩
  have hG6 := gb_trans hG5 hg6 (by simp)
  clear hg6 hG5 ho5
  go_wp2_with fail
  refine (HK.out _ hG6).mono ?_
  rintro e w7 ⟨g7, c7, rfl, ho7, hg7⟩
  have hG7 := gb_trans hG6 hg7 (by simp)
  clear hg7 hG6
  go_wp2_with fail
  refine (f_unframe (some ⟨g7, 0, none⟩) z0 L c7 0 rec f2 f3 w7 ho7.rd HL.out ho7.cap.1 (by omega) HF.out).mono ?_
  rintro e w8 ⟨vr, Nr, cr, rfl, hor, hg8⟩
  have hG := gb_drew (gb_trans hG7 hg8 (by simp))
  have hG9 := gb_drew (gb_drewN w8 0)
  clear hg8 hG7 ho7
  go_wp2_with fail
  refine wp_region_held_drew (S := fun _ => True) (by kernel_rfl) trivial (fun _ => ?_)
  refine draw_take 0 (v := ?_) rfl (by kernel_rfl) (by kernel_rfl) (by kernel_rfl) (fun _ _ _ h => h) (by rfl) ?_ ?_
  rotate_left
  · intro w; go_simp; try with_reducible rfl
  try simp only [Act.put, List.setIfInBounds_toArray, List.set_cons_zero, List.set_cons_succ]
  refine draw_take 1 (v := ?_) rfl (by kernel_rfl) (by kernel_rfl) (by kernel_rfl) (fun _ _ _ h => h) (by rfl) ?_ ?_
  rotate_left
  · intro w; go_simp; try with_reducible rfl
  try simp only [Act.put, List.setIfInBounds_toArray, List.set_cons_zero, List.set_cons_succ]
  refine draw_take 2 (v := ?_) rfl (by kernel_rfl) (by kernel_rfl) (by kernel_rfl) (fun _ _ _ h => h) (by rfl) ?_ ?_
  rotate_left
  · intro w; go_simp; try with_reducible rfl
  try simp only [Act.put, List.setIfInBounds_toArray, List.set_cons_zero, List.set_cons_succ]
  refine draw_take 3 (v := ?_) rfl (by kernel_rfl) (by kernel_rfl) (by kernel_rfl) (fun _ _ _ h => h) (by rfl) ?_ ?_
  rotate_left
  · intro w; go_simp; try with_reducible rfl
  try simp only [Act.put, List.setIfInBounds_toArray, List.set_cons_zero, List.set_cons_succ]
  refine draw_take 4 (v := ?_) rfl (by kernel_rfl) (by kernel_rfl) (by kernel_rfl) (fun _ _ _ h => h) (by rfl) ?_ ?_
  rotate_left
  · intro w; go_simp; try with_reducible rfl
  try simp only [Act.put, List.setIfInBounds_toArray, List.set_cons_zero, List.set_cons_succ]
  refine draw_take 5 (v := ?_) rfl (by kernel_rfl) (by kernel_rfl) (by kernel_rfl) (fun _ _ _ h => h) (by rfl) ?_ ?_
  rotate_left
  · intro w; go_simp; try with_reducible rfl
  try simp only [Act.put, List.setIfInBounds_toArray, List.set_cons_zero, List.set_cons_succ]
  refine draw_take 6 (v := ?_) rfl (by kernel_rfl) (by kernel_rfl) (by kernel_rfl) (fun _ _ _ h => h) (by rfl) ?_ ?_
  rotate_left
  · intro w; go_simp; try with_reducible rfl
  try simp only [Act.put, List.setIfInBounds_toArray, List.set_cons_zero, List.set_cons_succ]
  refine draw_take 7 (v := ?_) rfl (by kernel_rfl) (by kernel_rfl) (by kernel_rfl) (fun _ _ _ h => h) (by rfl) ?_ ?_
  rotate_left
  · intro w; go_simp; try with_reducible rfl
  try simp only [Act.put, List.setIfInBounds_toArray, List.set_cons_zero, List.set_cons_succ]
  refine draw_take 8 (v := ?_) rfl (by kernel_rfl) (by kernel_rfl) (by kernel_rfl) (fun _ _ _ h => h) (by rfl) ?_ ?_
  rotate_left
  · intro w; go_simp; try with_reducible rfl
  try simp only [Act.put, List.setIfInBounds_toArray, List.set_cons_zero, List.set_cons_succ]
  refine draw_take 10 (v := ?_) rfl (by kernel_rfl) (by kernel_rfl) (by kernel_rfl) (fun _ _ _ h => h) (by rfl) ?_ ?_
  rotate_left
  · intro w; go_simp; try with_reducible rfl
  try simp only [Act.put, List.setIfInBounds_toArray, List.set_cons_zero, List.set_cons_succ]
  refine draw_take 11 (v := ?_) rfl (by kernel_rfl) (by kernel_rfl) (by kernel_rfl) (fun _ _ _ h => h) (by rfl) ?_ ?_
  rotate_left
  · intro w; go_simp; try with_reducible rfl
  try simp only [Act.put, List.setIfInBounds_toArray, List.set_cons_zero, List.set_cons_succ]
  refine draw_take 12 (v := ?_) rfl (by kernel_rfl) (by kernel_rfl) (by kernel_rfl) (fun _ _ _ h => h) (by rfl) ?_ ?_
  rotate_left
  · intro w; go_simp; try with_reducible rfl
  try simp only [Act.put, List.setIfInBounds_toArray, List.set_cons_zero, List.set_cons_succ]
  refine draw_one 9 rfl (by kernel_rfl) (by rfl) (fun K hK => ?_)
  go_simp
  refine (f_putuint none [] 0 0 v _ ⟨.inl rfl, by simp⟩ rfl (fun _ => rfl) (by omega) HVb.out).mono ?_
  rintro e wp ⟨gp, cp, Np, rfl, hop, hgp⟩
  have hG' := gb_trans hG hgp (by simp)
  have hG9' := gb_trans hG9 hgp (by simp)
  clear hG hgp hG9
  have hG := hG'
  have hG9 := hG9'
  clear hG' hG9'
  show K _ _
  refine hK.out _ _ ?_
  clear hK K
  try simp only [Act.put, List.setIfInBounds_toArray, List.set_cons_zero, List.set_cons_succ]
  refine draw_one 13 rfl (by kernel_rfl) (by rfl) (fun K hK => ?_)
  go_simp
  refine (same_any (some ⟨gp, 0, none⟩) (some ⟨b0, off, none⟩) ([] ++ enc v.toNat) (z0.take n) Np n cp cap0 _ hop.rd (rd_take (HR.out.grown hG (by simp)) n) hop.len HE1.out.2 (by have h1 := hop.len; have h2 := HE1B.out; omega)).mono ?_
  rintro e wq ⟨rfl, hgq⟩
  rw [show decide (([] ++ enc v.toNat) = z0.take n) = true from HE1.out.1]
  have hG' := gb_trans hG hgq (by simp)
  have hG9' := gb_trans hG9 hgq (by simp)
  clear hG hgq hop hG9
  have hG := hG'
  have hG9 := hG9'
  clear hG' hG9'
  show K _ _
  refine hK.out _ _ ?_
  clear hK K
  try simp only [Act.put, List.setIfInBounds_toArray, List.set_cons_zero, List.set_cons_succ]
  refine draw_take 14 (v := ?_) rfl (by kernel_rfl) (by kernel_rfl) (by kernel_rfl) (fun _ _ _ h => h) (by rfl) ?_ ?_
  rotate_left
  · intro w; go_simp; try with_reducible rfl
  try simp only [Act.put, List.setIfInBounds_toArray, List.set_cons_zero, List.set_cons_succ]
  refine draw_take 15 (v := ?_) rfl (by kernel_rfl) (by kernel_rfl) (by kernel_rfl) (fun _ _ _ h => h) (by rfl) ?_ ?_
  rotate_left
  · intro w; go_simp; try with_reducible rfl
  try simp only [Act.put, List.setIfInBounds_toArray, List.set_cons_zero, List.set_cons_succ]
  refine draw_take 16 (v := ?_) rfl (by kernel_rfl) (by kernel_rfl) (by kernel_rfl) (fun _ _ _ h => h) (by rfl) ?_ ?_
  rotate_left
  · intro w; go_simp; try with_reducible rfl
  try simp only [Act.put, List.setIfInBounds_toArray, List.set_cons_zero, List.set_cons_succ]
  refine draw_take 17 (v := ?_) rfl (by kernel_rfl) (by kernel_rfl) (by kernel_rfl) (fun _ _ _ h => h) (by rfl) ?_ ?_
  rotate_left
  · intro w; go_simp; try with_reducible rfl
  try simp only [Act.put, List.setIfInBounds_toArray, List.set_cons_zero, List.set_cons_succ]
  refine draw_take 18 (v := ?_) rfl (by kernel_rfl) (by kernel_rfl) (by kernel_rfl) (fun _ _ _ h => h) (by rfl) ?_ ?_
  rotate_left
  · intro w; go_simp; try with_reducible rfl
  try simp only [Act.put, List.setIfInBounds_toArray, List.set_cons_zero, List.set_cons_succ]
  refine draw_take 19 (v := ?_) rfl (by kernel_rfl) (by kernel_rfl) (by kernel_rfl) (fun _ _ _ h => h) (by rfl) ?_ ?_
  rotate_left
  · intro w; go_simp; try with_reducible rfl
  try simp only [Act.put, List.setIfInBounds_toArray, List.set_cons_zero, List.set_cons_succ]
  refine draw_take 20 (v := ?_) rfl (by kernel_rfl) (by kernel_rfl) (by kernel_rfl) (fun _ _ _ h => h) (by rfl) ?_ ?_
  rotate_left
  · intro w; go_simp; try with_reducible rfl
  try simp only [Act.put, List.setIfInBounds_toArray, List.set_cons_zero, List.set_cons_succ]
  refine draw_take 21 (v := ?_) rfl (by kernel_rfl) (by kernel_rfl) (by kernel_rfl) (fun _ _ _ h => h) (by rfl) ?_ ?_
  rotate_left
  · intro w; go_simp; try with_reducible rfl
  try simp only [Act.put, List.setIfInBounds_toArray, List.set_cons_zero, List.set_cons_succ]
  refine draw_take 22 (v := ?_) rfl (by kernel_rfl) (by kernel_rfl) (by kernel_rfl) (fun _ _ _ h => h) (by rfl) ?_ ?_
  rotate_left
  · intro w; go_simp; try with_reducible rfl
  try simp only [Act.put, List.setIfInBounds_toArray, List.set_cons_zero, List.set_cons_succ]
  refine draw_take 23 (v := ?_) rfl (by kernel_rfl) (by kernel_rfl) (by kernel_rfl) (fun _ _ _ h => h) (by rfl) ?_ ?_
  rotate_left
  · intro w; go_simp; try with_reducible rfl
  try simp only [Act.put, List.setIfInBounds_toArray, List.set_cons_zero, List.set_cons_succ]
  refine draw_take 24 (v := ?_) rfl (by kernel_rfl) (by kernel_rfl) (by kernel_rfl) (fun _ _ _ h => h) (by rfl) ?_ ?_
  rotate_left
  · intro w; go_simp; try with_reducible rfl
  try simp only [Act.put, List.setIfInBounds_toArray, List.set_cons_zero, List.set_cons_succ]
  refine draw_take 25 (v := ?_) rfl (by kernel_rfl) (by kernel_rfl) (by kernel_rfl) (fun _ _ _ h => h) (by rfl) ?_ ?_
  rotate_left
  · intro w; go_simp; try with_reducible rfl
  try simp only [Act.put, List.setIfInBounds_toArray, List.set_cons_zero, List.set_cons_succ]
  refine draw_take 26 (v := ?_) rfl (by kernel_rfl) (by kernel_rfl) (by kernel_rfl) (fun _ _ _ h => h) (by rfl) ?_ ?_
  rotate_left
  · intro w; go_simp; try with_reducible rfl
  try simp only [Act.put, List.setIfInBounds_toArray, List.set_cons_zero, List.set_cons_succ]
  refine draw_take 28 (v := ?_) rfl (by kernel_rfl) (by kernel_rfl) (by kernel_rfl) (fun _ _ _ h => h) (by rfl) ?_ ?_
  rotate_left
  · intro w; go_simp; try with_reducible rfl
  try simp only [Act.put, List.setIfInBounds_toArray, List.set_cons_zero, List.set_cons_succ]
  refine draw_take 29 (v := ?_) rfl (by kernel_rfl) (by kernel_rfl) (by kernel_rfl) (fun _ _ _ h => h) (by rfl) ?_ ?_
  rotate_left
  · intro w; go_simp; try with_reducible rfl
  try simp only [Act.put, List.setIfInBounds_toArray, List.set_cons_zero, List.set_cons_succ]
  refine draw_take 30 (v := ?_) rfl (by kernel_rfl) (by kernel_rfl) (by kernel_rfl) (fun _ _ _ h => h) (by rfl) ?_ ?_
  rotate_left
  · intro w; go_simp; try with_reducible rfl
  try simp only [Act.put, List.setIfInBounds_toArray, List.set_cons_zero, List.set_cons_succ]
  refine draw_one 27 rfl (by kernel_rfl) (by rfl) (fun K hK => ?_)
  go_simp
  refine (f_putint none [] 0 0 x _ ⟨.inl rfl, by simp⟩ rfl (fun _ => rfl) (by omega) HXb.out).mono ?_
  rintro e wp ⟨gp, cp, Np, rfl, hop, hgp⟩
  have hG' := gb_trans hG hgp (by simp)
  have hG9' := gb_trans hG9 hgp (by simp)
  clear hG hgp hG9
  have hG := hG'
  have hG9 := hG9'
  clear hG' hG9'
  show K _ _
  refine hK.out _ _ ?_
  clear hK K
  try simp only [Act.put, List.setIfInBounds_toArray, List.set_cons_zero, List.set_cons_succ]
  refine draw_one 31 rfl (by kernel_rfl) (by rfl) (fun K hK => ?_)
  go_simp
  refine (same_any (some ⟨gp, 0, none⟩) (some ⟨b0, off, none⟩) ([] ++ enc (zz x).toNat) (z0.take n) Np n cp cap0 _ hop.rd (rd_take (HR.out.grown hG (by simp)) n) hop.len HE2.out.2 (by have h1 := hop.len; have h2 := HE2B.out; omega)).mono ?_
  rintro e wq ⟨rfl, hgq⟩
  rw [show decide (([] ++ enc (zz x).toNat) = z0.take n) = true from HE2.out.1]
  have hG' := gb_trans hG hgq (by simp)
  have hG9' := gb_trans hG9 hgq (by simp)
  clear hG hgq hop hG9
  have hG := hG'
  have hG9 := hG9'
  clear hG' hG9'
  show K _ _
  refine hK.out _ _ ?_
  clear hK K
  try simp only [Act.put, List.setIfInBounds_toArray, List.set_cons_zero, List.set_cons_succ]
  refine draw_take 32 (v := ?_) rfl (by kernel_rfl) (by kernel_rfl) (by kernel_rfl) (fun _ _ _ h => h) (by rfl) ?_ ?_
  rotate_left
  · intro w; go_simp; try with_reducible rfl
  try simp only [Act.put, List.setIfInBounds_toArray, List.set_cons_zero, List.set_cons_succ]
  refine draw_take 33 (v := ?_) rfl (by kernel_rfl) (by kernel_rfl) (by kernel_rfl) (fun _ _ _ h => h) (by rfl) ?_ ?_
  rotate_left
  · intro w; go_simp; try with_reducible rfl
  try simp only [Act.put, List.setIfInBounds_toArray, List.set_cons_zero, List.set_cons_succ]
  refine draw_take 34 (v := ?_) rfl (by kernel_rfl) (by kernel_rfl) (by kernel_rfl) (fun _ _ _ h => h) (by rfl) ?_ ?_
  rotate_left
  · intro w; go_simp; try with_reducible rfl
  try simp only [Act.put, List.setIfInBounds_toArray, List.set_cons_zero, List.set_cons_succ]
  refine draw_take 35 (v := ?_) rfl (by kernel_rfl) (by kernel_rfl) (by kernel_rfl) (fun _ _ _ h => h) (by rfl) ?_ ?_
  rotate_left
  · intro w; go_simp; try with_reducible rfl
  try simp only [Act.put, List.setIfInBounds_toArray, List.set_cons_zero, List.set_cons_succ]
  refine draw_take 36 (v := ?_) rfl (by kernel_rfl) (by kernel_rfl) (by kernel_rfl) (fun _ _ _ h => h) (by rfl) ?_ ?_
  rotate_left
  · intro w; go_simp; try with_reducible rfl
  try simp only [Act.put, List.setIfInBounds_toArray, List.set_cons_zero, List.set_cons_succ]
  refine draw_take 37 (v := ?_) rfl (by kernel_rfl) (by kernel_rfl) (by kernel_rfl) (fun _ _ _ h => h) (by rfl) ?_ ?_
  rotate_left
  · intro w; go_simp; try with_reducible rfl
  try simp only [Act.put, List.setIfInBounds_toArray, List.set_cons_zero, List.set_cons_succ]
  refine draw_take 38 (v := ?_) rfl (by kernel_rfl) (by kernel_rfl) (by kernel_rfl) (fun _ _ _ h => h) (by rfl) ?_ ?_
  rotate_left
  · intro w; go_simp; try with_reducible rfl
  try simp only [Act.put, List.setIfInBounds_toArray, List.set_cons_zero, List.set_cons_succ]
  refine draw_take 39 (v := ?_) rfl (by kernel_rfl) (by kernel_rfl) (by kernel_rfl) (fun _ _ _ h => h) (by rfl) ?_ ?_
  rotate_left
  · intro w; go_simp; try with_reducible rfl
  try simp only [Act.put, List.setIfInBounds_toArray, List.set_cons_zero, List.set_cons_succ]
  refine draw_take 40 (v := ?_) rfl (by kernel_rfl) (by kernel_rfl) (by kernel_rfl) (fun _ _ _ h => h) (by rfl) ?_ ?_
  rotate_left
  · intro w; go_simp; try with_reducible rfl
  try simp only [Act.put, List.setIfInBounds_toArray, List.set_cons_zero, List.set_cons_succ]
  refine draw_take 41 (v := ?_) rfl (by kernel_rfl) (by kernel_rfl) (by kernel_rfl) (fun _ _ _ h => h) (by rfl) ?_ ?_
  rotate_left
  · intro w; go_simp; try with_reducible rfl
  try simp only [Act.put, List.setIfInBounds_toArray, List.set_cons_zero, List.set_cons_succ]
  refine draw_take 42 (v := ?_) rfl (by kernel_rfl) (by kernel_rfl) (by kernel_rfl) (fun _ _ _ h => h) (by rfl) ?_ ?_
  rotate_left
  · intro w; go_simp; try with_reducible rfl
  try simp only [Act.put, List.setIfInBounds_toArray, List.set_cons_zero, List.set_cons_succ]
  refine draw_take 43 (v := ?_) rfl (by kernel_rfl) (by kernel_rfl) (by kernel_rfl) (fun _ _ _ h => h) (by rfl) ?_ ?_
  rotate_left
  · intro w; go_simp; try with_reducible rfl
  try simp only [Act.put, List.setIfInBounds_toArray, List.set_cons_zero, List.set_cons_succ]
  refine draw_take 44 (v := ?_) rfl (by kernel_rfl) (by kernel_rfl) (by kernel_rfl) (fun _ _ _ h => h) (by rfl) ?_ ?_
  rotate_left
  · intro w; go_simp; try with_reducible rfl
  try simp only [Act.put, List.setIfInBounds_toArray, List.set_cons_zero, List.set_cons_succ]
  refine draw_take 45 (v := ?_) rfl (by kernel_rfl) (by kernel_rfl) (by kernel_rfl) (fun _ _ _ h => h) (by rfl) ?_ ?_
  rotate_left
  · intro w; go_simp; try with_reducible rfl
  try simp only [Act.put, List.setIfInBounds_toArray, List.set_cons_zero, List.set_cons_succ]
  refine draw_take 47 (v := ?_) rfl (by kernel_rfl) (by kernel_rfl) (by kernel_rfl) (fun _ _ _ h => h) (by rfl) ?_ ?_
  rotate_left
  · intro w; go_simp; try with_reducible rfl
  try simp only [Act.put, List.setIfInBounds_toArray, List.set_cons_zero, List.set_cons_succ]
  refine draw_take 48 (v := ?_) rfl (by kernel_rfl) (by kernel_rfl) (by kernel_rfl) (fun _ _ _ h => h) (by rfl) ?_ ?_
  rotate_left
  · intro w; go_simp; try with_reducible rfl
  try simp only [Act.put, List.setIfInBounds_toArray, List.set_cons_zero, List.set_cons_succ]
  refine draw_take 49 (v := ?_) rfl (by kernel_rfl) (by kernel_rfl) (by kernel_rfl) (fun _ _ _ h => h) (by rfl) ?_ ?_
  rotate_left
  · intro w; go_simp; try with_reducible rfl
  try simp only [Act.put, List.setIfInBounds_toArray, List.set_cons_zero, List.set_cons_succ]
  refine draw_one 46 rfl (by kernel_rfl) (by rfl) (fun K hK => ?_)
  go_simp
  refine (f_puttext none [] 0 0 s _ ⟨.inl rfl, by simp⟩ rfl (fun _ => rfl) HSb.out).mono ?_
  rintro e wp ⟨gp, cp, Np, rfl, hop, hgp⟩
  have hG' := gb_trans hG hgp (by simp)
  have hG9' := gb_trans hG9 hgp (by simp)
  clear hG hgp hG9
  have hG := hG'
  have hG9 := hG9'
  clear hG' hG9'
  show K _ _
  refine hK.out _ _ ?_
  clear hK K
  try simp only [Act.put, List.setIfInBounds_toArray, List.set_cons_zero, List.set_cons_succ]
  refine draw_one 50 rfl (by kernel_rfl) (by rfl) (fun K hK => ?_)
  go_simp
  refine (same_any (some ⟨gp, 0, none⟩) (some ⟨b0, off, none⟩) ([] ++ enc s.size ++ sInts s) (z0.take k) Np k cp cap0 _ hop.rd (rd_take (HR.out.grown hG (by simp)) k) hop.len HE3.out.2 (by have h1 := hop.len; have h2 := HE3B.out; omega)).mono ?_
  rintro e wq ⟨rfl, hgq⟩
  rw [show decide (([] ++ enc s.size ++ sInts s) = z0.take k) = true from HE3.out.1]
  have hG' := gb_trans hG hgq (by simp)
  have hG9' := gb_trans hG9 hgq (by simp)
  clear hG hgq hop hG9
  have hG := hG'
  have hG9 := hG9'
  clear hG' hG9'
  show K _ _
  refine hK.out _ _ ?_
  clear hK K
  try simp only [Act.put, List.setIfInBounds_toArray, List.set_cons_zero, List.set_cons_succ]
  refine draw_take 51 (v := ?_) rfl (by kernel_rfl) (by kernel_rfl) (by kernel_rfl) (fun _ _ _ h => h) (by rfl) ?_ ?_
  rotate_left
  · intro w; go_simp; try with_reducible rfl
  try simp only [Act.put, List.setIfInBounds_toArray, List.set_cons_zero, List.set_cons_succ]
  refine draw_take 52 (v := ?_) rfl (by kernel_rfl) (by kernel_rfl) (by kernel_rfl) (fun _ _ _ h => h) (by rfl) ?_ ?_
  rotate_left
  · intro w; go_simp; try with_reducible rfl
  try simp only [Act.put, List.setIfInBounds_toArray, List.set_cons_zero, List.set_cons_succ]
  refine draw_take 53 (v := ?_) rfl (by kernel_rfl) (by kernel_rfl) (by kernel_rfl) (fun _ _ _ h => h) (by rfl) ?_ ?_
  rotate_left
  · intro w; go_simp; try with_reducible rfl
  try simp only [Act.put, List.setIfInBounds_toArray, List.set_cons_zero, List.set_cons_succ]
  refine draw_take 54 (v := ?_) rfl (by kernel_rfl) (by kernel_rfl) (by kernel_rfl) (fun _ _ _ h => h) (by rfl) ?_ ?_
  rotate_left
  · intro w; go_simp; try with_reducible rfl
  try simp only [Act.put, List.setIfInBounds_toArray, List.set_cons_zero, List.set_cons_succ]
  refine wpAnyH_done (by kernel_rfl) ?_ _
  by_cases hf : f3 = 0
  · subst hf
    obtain ⟨rfl, hil, hrl, hfr⟩ := HFx.out rfl
    obtain ⟨F, hFF⟩ : ∃ F, z0.take i = F := ⟨_, rfl⟩
    have hfi : F.length = i := by rw [← hFF]; have := HL.out; simp; omega
    have HFr : Hid (flist rec = F) := by show _ = _; rw [flist, if_neg (by omega), hfr, hFF]
    have HFc : Hid (fcode rec = 0) := by show _ = _; rw [fcode, if_neg (by omega)]
    have HRF : Hid (Rd W (some ⟨b0, off, none⟩) F) := by show Rd _ _ _; rw [← hFF]; exact rd_take HR.out i
    have HFi : Hid (F.length = i) := hfi
    have HOR : Hid (Out w7 w8 vr Nr cr rec) := hor
    have HNr : Hid (rec.length = Nr ∧ rec.length ≤ 65536) := ⟨hor.1, hrl⟩
    have p0 : (0 : Int) ≤ (i : Int) := by omega
    have p1 : (i : Int) ≤ (cap0 : Int) := by omega
    have p2 : decide (i ≤ L) = true := by simp; omega
    have HG9 : Hid (w8.grownBy _ none) := hG9
    clear hfr hFF hfi hor hrl hG9
    go_wp2_with fail
    refine (f_frame vr rec Nr cr F 0 _ (HOR.out.kept HG9.out (by simp)).2.1 HNr.out.1 HOR.out.2.2.1 (by have := HNr.out; omega) HFr.out HFc.out).mono ?_
    rintro e w10 ⟨vf, Nf, cf, rfl, hof, hg10⟩
    have hG10 := gb_trans hG hg10 (by simp)
    have hNf : Nf = i := hof.1.symm.trans HFi.out
    subst hNf
    clear hG hg10
    go_wp2_with fail
    refine (same_any vf (some ⟨b0, off, none⟩) F F Nf Nf cf cap0 _ hof.2.1 (HRF.out.grown hG10 (by simp)) HFi.out HFi.out (by omega)).mono ?_
    rintro e w11 ⟨rfl, hg11⟩
    rw [show decide (F = F) = true by simp]
    have hG11 := gb_trans hG10 hg11 (by simp)
    clear hof hG10 hg11
    go_wp2_with fail
    refine (awake_any _).mono ?_
    rintro e w12 ⟨rfl, hg12⟩
    go_wp2
    go_ret
    exact ⟨rfl, gb_below (gb_trans hG11 hg12 (by simp))⟩
  · have hrn := HFn.out hf
    subst hrn
    have hNr : Nr = 0 := hor.1.symm
    subst hNr
    have hfc : (f3 != 0) = true := by simpa using hf
    clear hor hf
    go_wp2_with fail
    refine (awake_any _).mono ?_
    rintro e w9 ⟨rfl, hg9⟩
    go_wp2
    go_ret
    exact ⟨rfl, gb_below (gb_trans hG hg9 (by simp))⟩

set_option maxHeartbeats 4000000 in
theorem codecShort_notext (b0 off : Nat) (z0 : List Int) (cap0 : Nat) (W : World) (r0 : Rd W (some ⟨b0, off, none⟩) z0) (l0 : z0.length ≤ 140737488351232) (hcap0 : z0.length ≤ cap0) (v x t2 t3 f2 f3 : Int) (s : ByteArray) (rec : List Int) (n k i : Nat)
    (hU : uintR z0 0 = (v, (n : Int), 0)) (hI : intR z0 0 = (x, (n : Int), 0)) (hT : textR z0 0 = (s, t2, t3)) (hF : uframeR z0 0 = (rec, f2, f3))
    (hn : n ≤ z0.length) (hV : 0 ≤ v ∧ v ≤ 18446744073709551615) (hX : -9223372036854775808 ≤ x ∧ x ≤ 9223372036854775807) (hE1 : enc v.toNat = z0.take n) (hE2 : enc (zz x).toNat = z0.take n)
    (hTx : t3 ≠ 0)
    (hFx : f3 = 0 → f2 = (i : Int) ∧ i ≤ z0.length ∧ rec.length ≤ 65536 ∧ frameR rec = z0.take i) (hFn : f3 ≠ 0 → rec = []) :
    Calls Try.prog 6 #[.slice (some ⟨b0, off, none⟩) z0.length cap0] W fun e w' => e = .returned (.bool true) ∧ Below W.heap.size W w' := by
  have HU : Hid (uintR z0 0 = (v, (n : Int), 0)) := hU
  have HI : Hid (intR z0 0 = (x, (n : Int), 0)) := hI
  have HT : Hid (textR z0 0 = (s, t2, t3)) := hT
  have HF : Hid (uframeR z0 0 = (rec, f2, f3)) := hF
  have HR : Hid (Rd W (some ⟨b0, off, none⟩) z0) := r0
  have HVb : Hid (0 ≤ v ∧ v ≤ 18446744073709551615) := hV
  have HXb : Hid (-9223372036854775808 ≤ x ∧ x ≤ 9223372036854775807) := hX
  have hnl : (z0.take n).length = n := by simp; omega
  have HE1 : Hid (decide ([] ++ enc v.toNat = z0.take n) = true ∧ (z0.take n).length = n) := ⟨by simpa using hE1, hnl⟩
  have HE2 : Hid (decide ([] ++ enc (zz x).toNat = z0.take n) = true ∧ (z0.take n).length = n) := ⟨by simpa using hE2, hnl⟩
  have HE1B : Hid (([] ++ enc v.toNat).length ≤ 140737488351232) := by show _ ≤ _; rw [List.nil_append, hE1]; omega
  have HE2B : Hid (([] ++ enc (zz x).toNat).length ≤ 140737488351232) := by show _ ≤ _; rw [List.nil_append, hE2]; omega
  have HFx : Hid (f3 = 0 → f2 = (i : Int) ∧ i ≤ z0.length ∧ rec.length ≤ 65536 ∧ frameR rec = z0.take i) := hFx
  have HFn : Hid (f3 ≠ 0 → rec = []) := hFn
  have HK : Hid (∀ w, W.grownBy w none → Calls Try.prog 32 #[.slice (some ⟨b0, off, none⟩) z0.length cap0] w fun e w' => ∃ g c, e = .returned (.slice (some ⟨g, 0, none⟩) z0.length c) ∧ Own w' w.heap.size g z0.length c z0 ∧ w.grownBy w' none) := fun w hg => copy_any _ z0 cap0 w (r0.grown hg (by simp)) (by simp) l0
  obtain ⟨L, hL⟩ : ∃ L, z0.length = L := ⟨_, rfl⟩
  have HL : Hid (z0.length = L) := hL
  rw [hL] at HK l0 hcap0 hn HFx ⊢
  have hG : W.grownBy W none := gb_drewN W 0
  have q0 : (0 : Int) ≤ (n : Int) := by omega
  have q1 : (n : Int) ≤ (cap0 : Int) := by omega
  have q2 : decide (L < n) = false := by simp; omega
  have t3b : (t3 == 0) = false := by simpa using hTx
  clear hU hI hT hF r0 hL hV hX hE1 hE2 hTx hFx hFn hnl
  go_enter Try.func6, Try.ntmps6
  go_wp2_with fail
  refine (HK.out _ hG).mono ?_
  rintro e w1 ⟨g1, c1, rfl, ho1, hg1⟩
  have hG1 := gb_trans hG hg1 (by simp)
  clear hg1 hG
  go_wp2_with fail
  refine (f_uint (some ⟨g1, 0, none⟩) z0 L c1 0 v (n : Int) 0 w1 ho1.rd HL.out ho1.cap.1 (by omega) HU.out).mono ?_
  rintro e w2 ⟨rfl, hg2⟩
  have hG2 := gb_trans hG1 hg2 (by simp)
  clear hg2 hG1 ho1
  go_wp2_with fail
  refine (HK.out _ hG2).mono ?_
  rintro e w3 ⟨g3, c3, rfl, ho3, hg3⟩
  have hG3 := gb_trans hG2 hg3 (by simp)
  clear hg3 hG2
  go_wp2_with fail
  refine (f_int (some ⟨g3, 0, none⟩) z0 L c3 0 x (n : Int) 0 w3 ho3.rd HL.out ho3.cap.1 (by omega) HI.out).mono ?_
  rintro e w4 ⟨rfl, hg4⟩
  have hG4 := gb_trans hG3 hg4 (by simp)
  clear hg4 hG3 ho3
  go_wp2_with fail
  refine (HK.out _ hG4).mono ?_
  rintro e w5 ⟨g5, c5, rfl, ho5, hg5⟩
  have hG5 := gb_trans hG4 hg5 (by simp)
  clear hg5 hG4
  go_wp2_with fail
  refine (f_text (some ⟨g5, 0, none⟩) z0 L c5 0 s t2 t3 w5 ho5.rd HL.out ho5.cap.1 (by omega) HT.out).mono ?_
  rintro e w6 ⟨rfl, hg6⟩
  have hG6 := gb_trans hG5 hg6 (by simp)
  clear hg6 hG5 ho5
  go_wp2_with fail
  refine (HK.out _ hG6).mono ?_
  rintro e w7 ⟨g7, c7, rfl, ho7, hg7⟩
  have hG7 := gb_trans hG6 hg7 (by simp)
  clear hg7 hG6
  go_wp2_with fail
  refine (f_unframe (some ⟨g7, 0, none⟩) z0 L c7 0 rec f2 f3 w7 ho7.rd HL.out ho7.cap.1 (by omega) HF.out).mono ?_
  rintro e w8 ⟨vr, Nr, cr, rfl, hor, hg8⟩
  have hG := gb_drew (gb_trans hG7 hg8 (by simp))
  have hG9 := gb_drew (gb_drewN w8 0)
  clear hg8 hG7 ho7
  go_wp2_with fail
  refine wp_region_held_drew (S := fun _ => True) (by kernel_rfl) trivial (fun _ => ?_)
  refine draw_take 0 (v := ?_) rfl (by kernel_rfl) (by kernel_rfl) (by kernel_rfl) (fun _ _ _ h => h) (by rfl) ?_ ?_
  rotate_left
  · intro w; go_simp; try with_reducible rfl
  try simp only [Act.put, List.setIfInBounds_toArray, List.set_cons_zero, List.set_cons_succ]
  refine draw_take 1 (v := ?_) rfl (by kernel_rfl) (by kernel_rfl) (by kernel_rfl) (fun _ _ _ h => h) (by rfl) ?_ ?_
  rotate_left
  · intro w; go_simp; try with_reducible rfl
  try simp only [Act.put, List.setIfInBounds_toArray, List.set_cons_zero, List.set_cons_succ]
  refine draw_take 2 (v := ?_) rfl (by kernel_rfl) (by kernel_rfl) (by kernel_rfl) (fun _ _ _ h => h) (by rfl) ?_ ?_
  rotate_left
  · intro w; go_simp; try with_reducible rfl
  try simp only [Act.put, List.setIfInBounds_toArray, List.set_cons_zero, List.set_cons_succ]
  refine draw_take 3 (v := ?_) rfl (by kernel_rfl) (by kernel_rfl) (by kernel_rfl) (fun _ _ _ h => h) (by rfl) ?_ ?_
  rotate_left
  · intro w; go_simp; try with_reducible rfl
  try simp only [Act.put, List.setIfInBounds_toArray, List.set_cons_zero, List.set_cons_succ]
  refine draw_take 4 (v := ?_) rfl (by kernel_rfl) (by kernel_rfl) (by kernel_rfl) (fun _ _ _ h => h) (by rfl) ?_ ?_
  rotate_left
  · intro w; go_simp; try with_reducible rfl
  try simp only [Act.put, List.setIfInBounds_toArray, List.set_cons_zero, List.set_cons_succ]
  refine draw_take 5 (v := ?_) rfl (by kernel_rfl) (by kernel_rfl) (by kernel_rfl) (fun _ _ _ h => h) (by rfl) ?_ ?_
  rotate_left
  · intro w; go_simp; try with_reducible rfl
  try simp only [Act.put, List.setIfInBounds_toArray, List.set_cons_zero, List.set_cons_succ]
  refine draw_take 6 (v := ?_) rfl (by kernel_rfl) (by kernel_rfl) (by kernel_rfl) (fun _ _ _ h => h) (by rfl) ?_ ?_
  rotate_left
  · intro w; go_simp; try with_reducible rfl
  try simp only [Act.put, List.setIfInBounds_toArray, List.set_cons_zero, List.set_cons_succ]
  refine draw_take 7 (v := ?_) rfl (by kernel_rfl) (by kernel_rfl) (by kernel_rfl) (fun _ _ _ h => h) (by rfl) ?_ ?_
  rotate_left
  · intro w; go_simp; try with_reducible rfl
  try simp only [Act.put, List.setIfInBounds_toArray, List.set_cons_zero, List.set_cons_succ]
  refine draw_take 8 (v := ?_) rfl (by kernel_rfl) (by kernel_rfl) (by kernel_rfl) (fun _ _ _ h => h) (by rfl) ?_ ?_
  rotate_left
  · intro w; go_simp; try with_reducible rfl
  try simp only [Act.put, List.setIfInBounds_toArray, List.set_cons_zero, List.set_cons_succ]
  refine draw_take 10 (v := ?_) rfl (by kernel_rfl) (by kernel_rfl) (by kernel_rfl) (fun _ _ _ h => h) (by rfl) ?_ ?_
  rotate_left
  · intro w; go_simp; try with_reducible rfl
  try simp only [Act.put, List.setIfInBounds_toArray, List.set_cons_zero, List.set_cons_succ]
  refine draw_take 11 (v := ?_) rfl (by kernel_rfl) (by kernel_rfl) (by kernel_rfl) (fun _ _ _ h => h) (by rfl) ?_ ?_
  rotate_left
  · intro w; go_simp; try with_reducible rfl
  try simp only [Act.put, List.setIfInBounds_toArray, List.set_cons_zero, List.set_cons_succ]
  refine draw_take 12 (v := ?_) rfl (by kernel_rfl) (by kernel_rfl) (by kernel_rfl) (fun _ _ _ h => h) (by rfl) ?_ ?_
  rotate_left
  · intro w; go_simp; try with_reducible rfl
  try simp only [Act.put, List.setIfInBounds_toArray, List.set_cons_zero, List.set_cons_succ]
  refine draw_one 9 rfl (by kernel_rfl) (by rfl) (fun K hK => ?_)
  go_simp
  refine (f_putuint none [] 0 0 v _ ⟨.inl rfl, by simp⟩ rfl (fun _ => rfl) (by omega) HVb.out).mono ?_
  rintro e wp ⟨gp, cp, Np, rfl, hop, hgp⟩
  have hG' := gb_trans hG hgp (by simp)
  have hG9' := gb_trans hG9 hgp (by simp)
  clear hG hgp hG9
  have hG := hG'
  have hG9 := hG9'
  clear hG' hG9'
  show K _ _
  refine hK.out _ _ ?_
  clear hK K
  try simp only [Act.put, List.setIfInBounds_toArray, List.set_cons_zero, List.set_cons_succ]
  refine draw_one 13 rfl (by kernel_rfl) (by rfl) (fun K hK => ?_)
  go_simp
  refine (same_any (some ⟨gp, 0, none⟩) (some ⟨b0, off, none⟩) ([] ++ enc v.toNat) (z0.take n) Np n cp cap0 _ hop.rd (rd_take (HR.out.grown hG (by simp)) n) hop.len HE1.out.2 (by have h1 := hop.len; have h2 := HE1B.out; omega)).mono ?_
  rintro e wq ⟨rfl, hgq⟩
  rw [show decide (([] ++ enc v.toNat) = z0.take n) = true from HE1.out.1]
  have hG' := gb_trans hG hgq (by simp)
  have hG9' := gb_trans hG9 hgq (by simp)
  clear hG hgq hop hG9
  have hG := hG'
  have hG9 := hG9'
  clear hG' hG9'
  show K _ _
  refine hK.out _ _ ?_
  clear hK K
  try simp only [Act.put, List.setIfInBounds_toArray, List.set_cons_zero, List.set_cons_succ]
  refine draw_take 14 (v := ?_) rfl (by kernel_rfl) (by kernel_rfl) (by kernel_rfl) (fun _ _ _ h => h) (by rfl) ?_ ?_
  rotate_left
  · intro w; go_simp; try with_reducible rfl
  try simp only [Act.put, List.setIfInBounds_toArray, List.set_cons_zero, List.set_cons_succ]
  refine draw_take 15 (v := ?_) rfl (by kernel_rfl) (by kernel_rfl) (by kernel_rfl) (fun _ _ _ h => h) (by rfl) ?_ ?_
  rotate_left
  · intro w; go_simp; try with_reducible rfl
  try simp only [Act.put, List.setIfInBounds_toArray, List.set_cons_zero, List.set_cons_succ]
  refine draw_take 16 (v := ?_) rfl (by kernel_rfl) (by kernel_rfl) (by kernel_rfl) (fun _ _ _ h => h) (by rfl) ?_ ?_
  rotate_left
  · intro w; go_simp; try with_reducible rfl
  try simp only [Act.put, List.setIfInBounds_toArray, List.set_cons_zero, List.set_cons_succ]
  refine draw_take 17 (v := ?_) rfl (by kernel_rfl) (by kernel_rfl) (by kernel_rfl) (fun _ _ _ h => h) (by rfl) ?_ ?_
  rotate_left
  · intro w; go_simp; try with_reducible rfl
  try simp only [Act.put, List.setIfInBounds_toArray, List.set_cons_zero, List.set_cons_succ]
  refine draw_take 18 (v := ?_) rfl (by kernel_rfl) (by kernel_rfl) (by kernel_rfl) (fun _ _ _ h => h) (by rfl) ?_ ?_
  rotate_left
  · intro w; go_simp; try with_reducible rfl
  try simp only [Act.put, List.setIfInBounds_toArray, List.set_cons_zero, List.set_cons_succ]
  refine draw_take 19 (v := ?_) rfl (by kernel_rfl) (by kernel_rfl) (by kernel_rfl) (fun _ _ _ h => h) (by rfl) ?_ ?_
  rotate_left
  · intro w; go_simp; try with_reducible rfl
  try simp only [Act.put, List.setIfInBounds_toArray, List.set_cons_zero, List.set_cons_succ]
  refine draw_take 20 (v := ?_) rfl (by kernel_rfl) (by kernel_rfl) (by kernel_rfl) (fun _ _ _ h => h) (by rfl) ?_ ?_
  rotate_left
  · intro w; go_simp; try with_reducible rfl
  try simp only [Act.put, List.setIfInBounds_toArray, List.set_cons_zero, List.set_cons_succ]
  refine draw_take 21 (v := ?_) rfl (by kernel_rfl) (by kernel_rfl) (by kernel_rfl) (fun _ _ _ h => h) (by rfl) ?_ ?_
  rotate_left
  · intro w; go_simp; try with_reducible rfl
  try simp only [Act.put, List.setIfInBounds_toArray, List.set_cons_zero, List.set_cons_succ]
  refine draw_take 22 (v := ?_) rfl (by kernel_rfl) (by kernel_rfl) (by kernel_rfl) (fun _ _ _ h => h) (by rfl) ?_ ?_
  rotate_left
  · intro w; go_simp; try with_reducible rfl
  try simp only [Act.put, List.setIfInBounds_toArray, List.set_cons_zero, List.set_cons_succ]
  refine draw_take 23 (v := ?_) rfl (by kernel_rfl) (by kernel_rfl) (by kernel_rfl) (fun _ _ _ h => h) (by rfl) ?_ ?_
  rotate_left
  · intro w; go_simp; try with_reducible rfl
  try simp only [Act.put, List.setIfInBounds_toArray, List.set_cons_zero, List.set_cons_succ]
  refine draw_take 24 (v := ?_) rfl (by kernel_rfl) (by kernel_rfl) (by kernel_rfl) (fun _ _ _ h => h) (by rfl) ?_ ?_
  rotate_left
  · intro w; go_simp; try with_reducible rfl
  try simp only [Act.put, List.setIfInBounds_toArray, List.set_cons_zero, List.set_cons_succ]
  refine draw_take 25 (v := ?_) rfl (by kernel_rfl) (by kernel_rfl) (by kernel_rfl) (fun _ _ _ h => h) (by rfl) ?_ ?_
  rotate_left
  · intro w; go_simp; try with_reducible rfl
  try simp only [Act.put, List.setIfInBounds_toArray, List.set_cons_zero, List.set_cons_succ]
  refine draw_take 26 (v := ?_) rfl (by kernel_rfl) (by kernel_rfl) (by kernel_rfl) (fun _ _ _ h => h) (by rfl) ?_ ?_
  rotate_left
  · intro w; go_simp; try with_reducible rfl
  try simp only [Act.put, List.setIfInBounds_toArray, List.set_cons_zero, List.set_cons_succ]
  refine draw_take 28 (v := ?_) rfl (by kernel_rfl) (by kernel_rfl) (by kernel_rfl) (fun _ _ _ h => h) (by rfl) ?_ ?_
  rotate_left
  · intro w; go_simp; try with_reducible rfl
  try simp only [Act.put, List.setIfInBounds_toArray, List.set_cons_zero, List.set_cons_succ]
  refine draw_take 29 (v := ?_) rfl (by kernel_rfl) (by kernel_rfl) (by kernel_rfl) (fun _ _ _ h => h) (by rfl) ?_ ?_
  rotate_left
  · intro w; go_simp; try with_reducible rfl
  try simp only [Act.put, List.setIfInBounds_toArray, List.set_cons_zero, List.set_cons_succ]
  refine draw_take 30 (v := ?_) rfl (by kernel_rfl) (by kernel_rfl) (by kernel_rfl) (fun _ _ _ h => h) (by rfl) ?_ ?_
  rotate_left
  · intro w; go_simp; try with_reducible rfl
  try simp only [Act.put, List.setIfInBounds_toArray, List.set_cons_zero, List.set_cons_succ]
  refine draw_one 27 rfl (by kernel_rfl) (by rfl) (fun K hK => ?_)
  go_simp
  refine (f_putint none [] 0 0 x _ ⟨.inl rfl, by simp⟩ rfl (fun _ => rfl) (by omega) HXb.out).mono ?_
  rintro e wp ⟨gp, cp, Np, rfl, hop, hgp⟩
  have hG' := gb_trans hG hgp (by simp)
  have hG9' := gb_trans hG9 hgp (by simp)
  clear hG hgp hG9
  have hG := hG'
  have hG9 := hG9'
  clear hG' hG9'
  show K _ _
  refine hK.out _ _ ?_
  clear hK K
  try simp only [Act.put, List.setIfInBounds_toArray, List.set_cons_zero, List.set_cons_succ]
  refine draw_one 31 rfl (by kernel_rfl) (by rfl) (fun K hK => ?_)
  go_simp
  refine (same_any (some ⟨gp, 0, none⟩) (some ⟨b0, off, none⟩) ([] ++ enc (zz x).toNat) (z0.take n) Np n cp cap0 _ hop.rd (rd_take (HR.out.grown hG (by simp)) n) hop.len HE2.out.2 (by have h1 := hop.len; have h2 := HE2B.out; omega)).mono ?_
  rintro e wq ⟨rfl, hgq⟩
  rw [show decide (([] ++ enc (zz x).toNat) = z0.take n) = true from HE2.out.1]
  have hG' := gb_trans hG hgq (by simp)
  have hG9' := gb_trans hG9 hgq (by simp)
  clear hG hgq hop hG9
  have hG := hG'
  have hG9 := hG9'
  clear hG' hG9'
  show K _ _
  refine hK.out _ _ ?_
  clear hK K
  try simp only [Act.put, List.setIfInBounds_toArray, List.set_cons_zero, List.set_cons_succ]
  refine draw_take 32 (v := ?_) rfl (by kernel_rfl) (by kernel_rfl) (by kernel_rfl) (fun _ _ _ h => h) (by rfl) ?_ ?_
  rotate_left
  · intro w; go_simp; try with_reducible rfl
  try simp only [Act.put, List.setIfInBounds_toArray, List.set_cons_zero, List.set_cons_succ]
  refine draw_take 33 (v := ?_) rfl (by kernel_rfl) (by kernel_rfl) (by kernel_rfl) (fun _ _ _ h => h) (by rfl) ?_ ?_
  rotate_left
  · intro w; go_simp; try with_reducible rfl
  try simp only [Act.put, List.setIfInBounds_toArray, List.set_cons_zero, List.set_cons_succ]
  refine draw_take 34 (v := ?_) rfl (by kernel_rfl) (by kernel_rfl) (by kernel_rfl) (fun _ _ _ h => h) (by rfl) ?_ ?_
  rotate_left
  · intro w; go_simp; try with_reducible rfl
  try simp only [Act.put, List.setIfInBounds_toArray, List.set_cons_zero, List.set_cons_succ]
  refine draw_take 35 (v := ?_) rfl (by kernel_rfl) (by kernel_rfl) (by kernel_rfl) (fun _ _ _ h => h) (by rfl) ?_ ?_
  rotate_left
  · intro w; go_simp; try with_reducible rfl
  try simp only [Act.put, List.setIfInBounds_toArray, List.set_cons_zero, List.set_cons_succ]
  refine draw_take 36 (v := ?_) rfl (by kernel_rfl) (by kernel_rfl) (by kernel_rfl) (fun _ _ _ h => h) (by rfl) ?_ ?_
  rotate_left
  · intro w; go_simp; try with_reducible rfl
  try simp only [Act.put, List.setIfInBounds_toArray, List.set_cons_zero, List.set_cons_succ]
  refine draw_take 37 (v := ?_) rfl (by kernel_rfl) (by kernel_rfl) (by kernel_rfl) (fun _ _ _ h => h) (by rfl) ?_ ?_
  rotate_left
  · intro w; go_simp; try with_reducible rfl
  try simp only [Act.put, List.setIfInBounds_toArray, List.set_cons_zero, List.set_cons_succ]
  refine draw_take 38 (v := ?_) rfl (by kernel_rfl) (by kernel_rfl) (by kernel_rfl) (fun _ _ _ h => h) (by rfl) ?_ ?_
  rotate_left
  · intro w; go_simp; try with_reducible rfl
  try simp only [Act.put, List.setIfInBounds_toArray, List.set_cons_zero, List.set_cons_succ]
  refine draw_take 39 (v := ?_) rfl (by kernel_rfl) (by kernel_rfl) (by kernel_rfl) (fun _ _ _ h => h) (by rfl) ?_ ?_
  rotate_left
  · intro w; go_simp; try with_reducible rfl
  try simp only [Act.put, List.setIfInBounds_toArray, List.set_cons_zero, List.set_cons_succ]
  refine draw_skip 40 rfl (by kernel_rfl) (by kernel_rfl) (by kernel_rfl) (fun _ _ _ h => h) (by rfl) ?_
  try simp only [Act.put, List.setIfInBounds_toArray, List.set_cons_zero, List.set_cons_succ]
  refine draw_skip 41 rfl (by kernel_rfl) (by kernel_rfl) (by kernel_rfl) (fun _ _ _ h => h) (by rfl) ?_
  try simp only [Act.put, List.setIfInBounds_toArray, List.set_cons_zero, List.set_cons_succ]
  refine draw_skip 42 rfl (by kernel_rfl) (by kernel_rfl) (by kernel_rfl) (fun _ _ _ h => h) (by rfl) ?_
  try simp only [Act.put, List.setIfInBounds_toArray, List.set_cons_zero, List.set_cons_succ]
  refine draw_skip 43 rfl (by kernel_rfl) (by kernel_rfl) (by kernel_rfl) (fun _ _ _ h => h) (by rfl) ?_
  try simp only [Act.put, List.setIfInBounds_toArray, List.set_cons_zero, List.set_cons_succ]
  refine draw_skip 44 rfl (by kernel_rfl) (by kernel_rfl) (by kernel_rfl) (fun _ _ _ h => h) (by rfl) ?_
  try simp only [Act.put, List.setIfInBounds_toArray, List.set_cons_zero, List.set_cons_succ]
  refine draw_skip 45 rfl (by kernel_rfl) (by kernel_rfl) (by kernel_rfl) (fun _ _ _ h => h) (by rfl) ?_
  try simp only [Act.put, List.setIfInBounds_toArray, List.set_cons_zero, List.set_cons_succ]
  refine draw_skip 46 rfl (by kernel_rfl) (by kernel_rfl) (by kernel_rfl) (fun _ _ _ h => h) (by rfl) ?_
  try simp only [Act.put, List.setIfInBounds_toArray, List.set_cons_zero, List.set_cons_succ]
  refine draw_skip 47 rfl (by kernel_rfl) (by kernel_rfl) (by kernel_rfl) (fun _ _ _ h => h) (by rfl) ?_
  try simp only [Act.put, List.setIfInBounds_toArray, List.set_cons_zero, List.set_cons_succ]
  refine draw_skip 48 rfl (by kernel_rfl) (by kernel_rfl) (by kernel_rfl) (fun _ _ _ h => h) (by rfl) ?_
  try simp only [Act.put, List.setIfInBounds_toArray, List.set_cons_zero, List.set_cons_succ]
  refine draw_skip 49 rfl (by kernel_rfl) (by kernel_rfl) (by kernel_rfl) (fun _ _ _ h => h) (by rfl) ?_
  try simp only [Act.put, List.setIfInBounds_toArray, List.set_cons_zero, List.set_cons_succ]
  refine draw_skip 50 rfl (by kernel_rfl) (by kernel_rfl) (by kernel_rfl) (fun _ _ _ h => h) (by rfl) ?_
  try simp only [Act.put, List.setIfInBounds_toArray, List.set_cons_zero, List.set_cons_succ]
  refine draw_skip 51 rfl (by kernel_rfl) (by kernel_rfl) (by kernel_rfl) (fun _ _ _ h => h) (by rfl) ?_
  try simp only [Act.put, List.setIfInBounds_toArray, List.set_cons_zero, List.set_cons_succ]
  refine draw_skip 52 rfl (by kernel_rfl) (by kernel_rfl) (by kernel_rfl) (fun _ _ _ h => h) (by rfl) ?_
  try simp only [Act.put, List.setIfInBounds_toArray, List.set_cons_zero, List.set_cons_succ]
  refine draw_take 53 (v := ?_) rfl (by kernel_rfl) (by kernel_rfl) (by kernel_rfl) (fun _ _ _ h => h) (by rfl) ?_ ?_
  rotate_left
  · intro w; go_simp; try with_reducible rfl
  try simp only [Act.put, List.setIfInBounds_toArray, List.set_cons_zero, List.set_cons_succ]
  refine draw_take 54 (v := ?_) rfl (by kernel_rfl) (by kernel_rfl) (by kernel_rfl) (fun _ _ _ h => h) (by rfl) ?_ ?_
  rotate_left
  · intro w; go_simp; try with_reducible rfl
  try simp only [Act.put, List.setIfInBounds_toArray, List.set_cons_zero, List.set_cons_succ]
  refine wpAnyH_done (by kernel_rfl) ?_ _
  by_cases hf : f3 = 0
  · subst hf
    obtain ⟨rfl, hil, hrl, hfr⟩ := HFx.out rfl
    obtain ⟨F, hFF⟩ : ∃ F, z0.take i = F := ⟨_, rfl⟩
    have hfi : F.length = i := by rw [← hFF]; have := HL.out; simp; omega
    have HFr : Hid (flist rec = F) := by show _ = _; rw [flist, if_neg (by omega), hfr, hFF]
    have HFc : Hid (fcode rec = 0) := by show _ = _; rw [fcode, if_neg (by omega)]
    have HRF : Hid (Rd W (some ⟨b0, off, none⟩) F) := by show Rd _ _ _; rw [← hFF]; exact rd_take HR.out i
    have HFi : Hid (F.length = i) := hfi
    have HOR : Hid (Out w7 w8 vr Nr cr rec) := hor
    have HNr : Hid (rec.length = Nr ∧ rec.length ≤ 65536) := ⟨hor.1, hrl⟩
    have p0 : (0 : Int) ≤ (i : Int) := by omega
    have p1 : (i : Int) ≤ (cap0 : Int) := by omega
    have p2 : decide (i ≤ L) = true := by simp; omega
    have HG9 : Hid (w8.grownBy _ none) := hG9
    clear hfr hFF hfi hor hrl hG9
    go_wp2_with fail
    refine (f_frame vr rec Nr cr F 0 _ (HOR.out.kept HG9.out (by simp)).2.1 HNr.out.1 HOR.out.2.2.1 (by have := HNr.out; omega) HFr.out HFc.out).mono ?_
    rintro e w10 ⟨vf, Nf, cf, rfl, hof, hg10⟩
    have hG10 := gb_trans hG hg10 (by simp)
    have hNf : Nf = i := hof.1.symm.trans HFi.out
    subst hNf
    clear hG hg10
    go_wp2_with fail
    refine (same_any vf (some ⟨b0, off, none⟩) F F Nf Nf cf cap0 _ hof.2.1 (HRF.out.grown hG10 (by simp)) HFi.out HFi.out (by omega)).mono ?_
    rintro e w11 ⟨rfl, hg11⟩
    rw [show decide (F = F) = true by simp]
    have hG11 := gb_trans hG10 hg11 (by simp)
    clear hof hG10 hg11
    go_wp2_with fail
    refine (awake_any _).mono ?_
    rintro e w12 ⟨rfl, hg12⟩
    go_wp2
    go_ret
    exact ⟨rfl, gb_below (gb_trans hG11 hg12 (by simp))⟩
  · have hrn := HFn.out hf
    subst hrn
    have hNr : Nr = 0 := hor.1.symm
    subst hNr
    have hfc : (f3 != 0) = true := by simpa using hf
    clear hor hf
    go_wp2_with fail
    refine (awake_any _).mono ?_
    rintro e w9 ⟨rfl, hg9⟩
    go_wp2
    go_ret
    exact ⟨rfl, gb_below (gb_trans hG hg9 (by simp))⟩

theorem codecShort_walk (a0 : Option Addr) (z0 : List Int) (cap0 : Nat) (W : World) (r0 : Rd W a0 z0) (n0 : a0 = none → cap0 = 0) (l0 : z0.length ≤ 140737488351232) (hcap0 : z0.length ≤ cap0) :
    Calls Try.prog 6 #[.slice a0 z0.length cap0] W fun e w' => e = .returned (.bool true) ∧ Below W.heap.size W w' := by
  obtain ⟨v, r2, r3, hU⟩ : ∃ u1 u2 u3, uintR z0 0 = (u1, u2, u3) := ⟨_, _, _, rfl⟩
  by_cases h3 : r3 = 0
  · subst h3
    have hz : ∀ k, 0 ≤ z0.getD k 0 ∧ z0.getD k 0 ≤ 255 := r0.byte
    obtain ⟨n, rfl, n1, n2, hV, e1⟩ := uint_short hz hU
    obtain ⟨hI, hX, hzz⟩ := int_short hz hU
    obtain ⟨b0, off, rfl, _⟩ := r0.at (by omega)
    obtain ⟨s, t2, t3, hT⟩ : ∃ u1 u2 u3, textR z0 0 = (u1, u2, u3) := ⟨_, _, _, rfl⟩
    obtain ⟨rec, f2, f3, hF⟩ : ∃ u1 u2 u3, uframeR z0 0 = (u1, u2, u3) := ⟨_, _, _, rfl⟩
    obtain ⟨i, hi⟩ : ∃ i : Nat, f3 = 0 → f2 = (i : Int) ∧ i ≤ z0.length ∧ rec.length ≤ 65536 ∧ frameR rec = z0.take i := by
      by_cases hf : f3 = 0
      · subst hf
        obtain ⟨i, e2, _, e3, e4, e5⟩ := frame_short hz hF
        exact ⟨i, fun _ => ⟨e2, e3, e4, e5⟩⟩
      · exact ⟨0, fun h => absurd h hf⟩
    have hE2 : enc (zz (unzz v)).toNat = z0.take n := by rw [hzz]; exact e1
    by_cases ht : t3 = 0
    · subst ht
      obtain ⟨k, e2, _, e3, e4, e5⟩ := text_short r0.2 hz hT
      exact codecShort_text b0 off z0 cap0 W r0 l0 hcap0 v _ t2 0 f2 f3 s rec n k i hU hI hT hF n2 hV hX e1 hE2 ⟨rfl, e2, e3, e4, e5⟩ hi (frame_no hF)
    · exact codecShort_notext b0 off z0 cap0 W r0 l0 hcap0 v _ t2 t3 f2 f3 s rec n 0 i hU hI hT hF n2 hV hX e1 hE2 ht hi (frame_no hF)
  · exact codecShort_no a0 z0 cap0 W r0 n0 l0 v r2 r3 hU h3

set_option maxRecDepth 100000 in
theorem codecShort_lifted (os : Os) (started : os.Started) (H : Type) (enc : TypeId × Value → H) :
    ReturnsInHanded {} Try.checked os 6 .any (Rows.codecShortSpec.pre6 enc Try.prog Try.f6 Rows.codecShortRow.domain false) (Rows.codecShortSpec.post enc Try.prog Try.f6 false true false false) := by
  refine returnsInHanded_of_change_sized (C := Try.checked) own started (by kernel_rfl) Try.func6
    (ChangeSpec.witness6 (enc := enc) (C := Try.checked) false ⟨#[], #[.slice none 0 0], []⟩ 8 (by kernel_rfl) (by kernel_rfl) (by kernel_rfl) (by kernel_rfl)) ?_
  intro W base args ds gs before hval0 hW hcnd hsz0 _
  have hsz : (DataW.weightsEach Try.prog (Try.f6.params.toList ++ Rows.codecShortSpec.plain.varTypes Try.prog) (ds ++ gs)).all (· ≤ reachBytes) = true := hsz0
  clear hsz0
  have hval : ∀ (j : Nat) t v, Try.f6.params[j]? = some t → args[j]? = some v → Value.okWide Try.prog W .any base t v := hval0
  have hW' := hW
  obtain ⟨p, q, hA0, hV, rfl, hfz, hnd⟩ := hW
  have hA : DataW.TrodAll enc Try.prog W 0 (fun _ => true) true Try.f6.params.toList args.toList ds p := hA0
  rw [Try.params6] at hA hval hsz
  obtain ⟨v0, vs0, d0, ds0, p0, q0, hargs, rfl, rfl, h0, r0⟩ := trodAll_cons hA
  obtain ⟨rfl, rfl, rfl⟩ := trodAll_nil r0
  obtain rfl : args = #[v0] := by cases args; simp_all
  obtain ⟨rfl, rfl⟩ := trodVars_none hV
  obtain ⟨a0, len0, cap0, rfl⟩ := okWide_slice Try.underlying22 (hval 0 22 v0 rfl rfl)
  have k0 := h0
  have lt0 : ∀ x ∈ p0, x.block < W.heap.size := by obtain ⟨m, hm⟩ := k0; exact DataW.trod_lt m _ _ _ hm
  have hc0 := open_cap k0
  obtain ⟨z0, e0, rd0, nl0, le0⟩ := open_bytes k0 hsz (j := 0) rfl rfl
  subst e0
  clear hA0 hval0
  refine (codecShort_walk a0 z0 cap0 W rd0 nl0 le0 hc0).mono fun e W' ⟨he, bel⟩ => ?_
  subst he
  exact ⟨_, rfl, _, _, _, [], _, [], hW', trodAll_mk1 (shut_bool Try.underlying4 _), (trodAll_cons_mk (Below.trod laidOut (by kernel_rfl) (of_decide_eq_true (by kernel_rfl)) k0 bel lt0) trodAll_mk0), rfl, bel.frame _, fun h => by cases h⟩

theorem codecShort_over : Rows.codecShortRow.holds Try.pinned (OpenSpec.ofChange Rows.codecShortSpec) :=
  OpenClaim.holds_of_wide 6 Try.f6 rfl rfl rfl rfl rfl rfl rfl ⟨rfl, rfl, rfl, rfl, rfl⟩ rfl rfl rfl rfl rfl (by kernel_rfl) Try.func6 (by kernel_rfl)
    (of_decide_eq_true (by kernel_rfl)) (by unfold Func.isWrapper; first | (rw [if_pos (by decide +kernel)]; kernel_rfl) | (rw [if_neg (by decide +kernel)]; exact ⟨rfl, rfl⟩))
    (fun os started H enc _ => codecShort_lifted os started H enc)

theorem codecShort_holds : Rows.CodecShortSaid := codecShort_over
#print axioms codecShort_holds
end Go.Proofs.Ytngkmpmhodgfeaa
