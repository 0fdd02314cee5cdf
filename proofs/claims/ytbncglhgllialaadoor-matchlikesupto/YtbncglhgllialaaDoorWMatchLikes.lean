/- Any text is like any pattern just if the document says so. -/
import Derived.Test.YtbncglhgllialaaDoorKmat
namespace Go.Proofs.YtbncglhgllialaaDoor
open Go.ChangeShapes Go.WideShapes Go.ChangeAt Go.RowKit
set_option linter.unusedVariables false

set_option maxHeartbeats 1000000 in
theorem matchLikes_walk (p s : ByteArray) (W : World) (hp : p.size ≤ 1048576) (hs : s.size ≤ 1048576) (hm : Mx W) :
    Calls Tryd.prog 4 #[.string p, .string s] W fun e w' => e = .returned (.bool true) ∧ Below W.heap.size W w' := by
  obtain ⟨R, eR⟩ : ∃ R, likeS p s = R := ⟨_, rfl⟩
  have H1 : Hid (∀ w, Mx w → Calls Tryd.prog 16 #[.string p, .string s] w fun e w' => e = .returned (.bool R) ∧ w.grownBy w' none) := fun w hm => f_like p s R w (by omega) (by omega) hm eR
  have H2 : Hid (∀ w, Calls Tryd.prog 17 #[.string p, .string s] w fun e w' => e = .returned (.bool R) ∧ w.grownBy w' none) := fun w => r_like p s R w (by omega) (small_alts p (by omega)) (by omega) eR
  have HA : Hid (∀ w, Mx w → Calls Tryd.prog 15 #[] w fun e w' => e = .returned (.bool true) ∧ w.grownBy w' none) := awake_mat
  clear hp hs eR
  have q : (R == R) = true := by simp
  go_enter Tryd.func4, Tryd.ntmps4
  go_wp2_with fail
  refine (H1.out _ hm).mono ?_
  rintro e w1 ⟨rfl, hg1⟩
  have HG1 : Hid (W.grownBy w1 none) := hg1
  clear hg1 H1
  go_wp2_with fail
  refine (H2.out _).mono ?_
  rintro e w2 ⟨rfl, hg2⟩
  have HG2 : Hid (W.grownBy w2 none) := HG1.out.trans hg2
  clear hg2 H2
  go_wp2_with fail
  refine (HA.out _ (hm.grown HG2.out)).mono ?_
  rintro e w3 ⟨rfl, hg3⟩
  have HG3 : Hid (W.grownBy w3 none) := HG2.out.trans hg3
  clear hg3 HA
  go_wp2
  go_ret
  exact ⟨rfl, gb_below HG3.out⟩
end Go.Proofs.YtbncglhgllialaaDoor
