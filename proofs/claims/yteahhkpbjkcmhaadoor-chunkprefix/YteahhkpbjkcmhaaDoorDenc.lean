/- Package chunk's Encode. -/
import Derived.Test.YteahhkpbjkcmhaaDoorDlay
import Derived.Test.YteahhkpbjkcmhaaDoorRenc3
namespace Go.Proofs.YteahhkpbjkcmhaaDoor
open Go.RowKit
set_option linter.unusedVariables false

set_option maxRecDepth 100000 in
set_option maxHeartbeats 1000000 in
theorem f_encode (a : Option Addr) (ps : List Pnt) (L c : Nat) (w : World) (hx : SRd pntE w a ps) (hL : ps.length = L) (hz : L ≤ 8796093022208) (hv : ∀ q ∈ ps, okV q.2) (hB : Bf w) :
    Calls Tryd.prog 11 #[.slice a L c] w fun e w' => ∃ vB, e = .returned (.tuple #[vB, .int .i64 (encC ps)]) ∧ SOwn byteE 5 w' w.heap.size vB (encB ps).length (encB ps) ∧ w.grownBy w' none := by
  by_cases h1 : 8191 < ps.length
  · have e1 : encC ps = 51 := by unfold encC; rw [if_pos h1]
    have e2 : encB ps = [] := by unfold encB; rw [e1, if_neg (by decide)]
    rw [e1, e2]
    have q0 : decide ((8191 : Int) < (L : Int)) = true := by simp; omega
    clear hx hL hv h1 e1 e2 hB
    go_enter Tryd.func11, Tryd.ntmps11
    go_wp2
    go_ret2
    exact ⟨_, rfl, ⟨rfl, .inl ⟨rfl, rfl⟩⟩, World.grownBy.refl _ _⟩
  · have q0 : decide ((8191 : Int) < (L : Int)) = false := by simp; omega
    have HI : Hid (Calls Tryd.prog 29 #[.slice a L c] w fun e w' => e = .returned (.bool (okTimes ps)) ∧ w.grownBy w' none) := d_inOrder a ps L c w hx hL hz
    by_cases h2 : okTimes ps = false
    · have e1 : encC ps = 50 := by unfold encC; rw [if_neg h1, if_pos h2]
      have e2 : encB ps = [] := by unfold encB; rw [e1, if_neg (by decide)]
      rw [e1, e2]
      rw [h2] at HI
      clear hx hL hv h1 h2 e1 e2 hB
      go_enter Tryd.func11, Tryd.ntmps11
      go_wp2_with fail
      refine HI.out.mono ?_
      rintro e w1 ⟨rfl, hg⟩
      have HG : Hid (w.grownBy w1 none) := hg
      clear hg
      go_wp2
      go_ret2
      exact ⟨_, rfl, ⟨rfl, .inl ⟨rfl, rfl⟩⟩, HG.out⟩
    · have h3 : okTimes ps = true := by simpa using h2
      have e1 : encC ps = 0 := by unfold encC; rw [if_neg h1, if_neg h2]
      have e2 : encB ps = pack (encP ps) := by unfold encB; rw [if_pos e1]
      rw [e1, e2, pack_len]
      rw [h3] at HI
      have HC : Hid (∀ w1, w.grownBy w1 none → Calls Tryd.prog 30 #[.slice a L c] w1 fun e w' => ∃ vB, e = .returned vB ∧ SOwn byteE 5 w' w1.heap.size vB (((encP ps).length + 7) / 8) (pack (encP ps)) ∧ w1.grownBy w' none) := fun w1 hg => d_lay a ps L c w1 (hx.grown hg (by simp)) hL (by omega) hv h3 (hB.grown hg (by simp))
      clear hx hL hv h1 h2 h3 e1 e2 hB
      go_enter Tryd.func11, Tryd.ntmps11
      go_wp2_with fail
      refine HI.out.mono ?_
      rintro e w1 ⟨rfl, hg⟩
      have HG : Hid (w.grownBy w1 none) := hg
      clear hg
      go_wp2_with fail
      refine (HC.out w1 HG.out).mono ?_
      rintro e w2 ⟨vB, rfl, hown, hg⟩
      have HOW : Hid (SOwn byteE 5 w2 w1.heap.size vB (((encP ps).length + 7) / 8) (pack (encP ps))) := hown
      have HG2 : Hid (w.grownBy w2 none) := gb_trans HG.out hg (by simp)
      clear hown hg
      go_wp2
      go_ret2
      exact ⟨vB, rfl, SOwn.base HOW.out HG.out.size, HG2.out⟩
end Go.Proofs.YteahhkpbjkcmhaaDoor
