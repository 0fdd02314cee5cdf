/- The document's own Encode: its three answers. -/
import Derived.Test.YteahhkpbjkcmhaaDoorRenc2
namespace Go.Proofs.YteahhkpbjkcmhaaDoor
open Go.RowKit
set_option linter.unusedVariables false

def encC (ps : List Pt) : Int := if 8191 < ps.length then 51 else if okTimes ps = false then 50 else 0
def encB (ps : List Pt) : List Int := if encC ps = 0 then pack (encP ps) else []
set_option maxRecDepth 100000 in
set_option maxHeartbeats 1000000 in
theorem r_encode (a : Option Addr) (ps : List Pnt) (L c : Nat) (w : World) (hx : SRd pntE w a ps) (hL : ps.length = L) (hz : L ≤ 8796093022208) (hv : ∀ q ∈ ps, okV q.2) :
    Calls Tryd.prog 9 #[.slice a L c] w fun e w' => ∃ vB, e = .returned (.tuple #[vB, .int .i64 (encC ps)]) ∧ SOwn byteE 5 w' w.heap.size vB (encB ps).length (encB ps) ∧ w.grownBy w' none := by
  by_cases h1 : 8191 < ps.length
  · have e1 : encC ps = 51 := by unfold encC; rw [if_pos h1]
    have e2 : encB ps = [] := by unfold encB; rw [e1, if_neg (by decide)]
    rw [e1, e2]
    have q0 : decide ((8191 : Int) < (L : Int)) = true := by simp; omega
    clear hx hL hv h1 e1 e2
    go_enter Tryd.func9, Tryd.ntmps9
    go_wp2
    go_ret2
    exact ⟨_, rfl, ⟨rfl, .inl ⟨rfl, rfl⟩⟩, World.grownBy.refl _ _⟩
  · by_cases h2 : okTimes ps = false
    · have e1 : encC ps = 50 := by unfold encC; rw [if_neg h1, if_pos h2]
      have e2 : encB ps = [] := by unfold encB; rw [e1, if_neg (by decide)]
      rw [e1, e2]
      have q0 : decide ((8191 : Int) < (L : Int)) = false := by simp; omega
      have HPo : Hid (Calls Tryd.prog 25 #[.slice a L c] w fun e w' => e = .returned (.bool false) ∧ ∃ n, w' = w.drewN n) := r_points a ps L c false w hx hL (by omega) h2
      clear hx hL hv h1 h2 e1 e2
      go_enter Tryd.func9, Tryd.ntmps9
      go_wp2_with fail
      refine HPo.out.mono ?_
      rintro e w1 ⟨rfl, nd, rfl⟩
      go_wp2
      go_ret2
      exact ⟨_, rfl, ⟨rfl, .inl ⟨rfl, rfl⟩⟩, gb_drewN w nd⟩
    · have h3 : okTimes ps = true := by simpa using h2
      have e1 : encC ps = 0 := by unfold encC; rw [if_neg h1, if_neg h2]
      have e2 : encB ps = pack (encP ps) := by unfold encB; rw [if_pos e1]
      rw [e1, e2, pack_len]
      exact enc_loop a ps L c w hx hL (by omega) hv h3
end Go.Proofs.YteahhkpbjkcmhaaDoor
