/- TypesChecks: the walk. -/
import Derived.Test.YthbodkgcbfplgaaGreatYi
import Derived.Test.YthbodkgcbfplgaaGreatXz
namespace Go.Proofs.YthbodkgcbfplgaaGreat
open Go.ChangeShapes Go.WideShapes Go.ChangeAt Go.RowKit
set_option linter.unusedVariables false
set_option linter.unusedSimpArgs false
set_option maxRecDepth 20000

theorem NsIn.rds {w : World} {a : Option Addr} {c : Nat} {Q : List Row} (h : NsIn w a c Q) : NsRd w a Q := ⟨h.rd, fun q hq => (h.each q hq).rd⟩
set_option maxHeartbeats 8000000 in
theorem typesChecks_walk (a : Option Addr) (c : Nat) (Q : List Row) (w : World) (h : NsIn w a c Q) (htx : ∀ q ∈ Q, q.1.text.size ≤ 9223372036854775807) :
    Calls Tryz.prog 3 #[.slice a Q.length c] w fun e w' => e = .returned (.bool true) ∧ w.grownBy w' none := by
  have hle := h.le
  simp only [reachBytes] at hle
  have HAW := hid f_awake
  have HRC : Hid (Calls Tryz.prog 7 #[.slice a Q.length c] w fun e w' => e = .returned (.tuple #[.int .i64 (chkT (Q.map (·.1))).1, .int .i64 (chkT (Q.map (·.1))).2.1, .int .i64 (chkT (Q.map (·.1))).2.2]) ∧ w.grownBy w' none) := r_check a c Q w h.rds htx (by omega)
  have HCP := hid (c_copy h)
  have l1 : (Q.map (·.1)).length = Q.length := List.length_map _
  obtain ⟨⟨k, i, e0⟩, hC⟩ : ∃ C, chkT (Q.map (·.1)) = C := ⟨_, rfl⟩
  have HCK := hid (c_check (W0 := w) l1 (by omega) hC)
  have HSM : Hid (∀ (W : World) (a1 : Option Addr) (c1 : Nat) (L : List Row), NsMk w W (.slice a1 Q.length c1) L → L.map (·.1) = Q.map (·.1) → Calls Tryz.prog 10 #[.slice a1 Q.length c1, .slice a Q.length c] W fun e w' => e = .returned (.bool true) ∧ W.grownBy w' none) := fun W a1 c1 L hm hL => by
    obtain ⟨hr, hn⟩ := hm.rds
    have h9 := f_sameN a1 a c1 c L Q W hr (h.rds.grown hm.up) hL (by omega)
    rw [← hn] at h9
    exact h9
  rw [hC] at HRC
  simp only at HRC
  clear hC h htx l1 hle
  generalize Q.length = n at *
  go_enter Tryz.func3, Tryz.ntmps3
  go_wp2_with fail
  refine HRC.out.mono ?_
  rintro e w1 ⟨rfl, g1⟩
  have G1 := hid g1
  clear g1
  go_wp2_with fail
  refine (HCP.out w1 G1.out).mono ?_
  rintro e w2 ⟨b2, d2, L2, rfl, M2, E2⟩
  have G2 := hid M2.out.up
  go_wp2_with fail
  refine (HCK.out _ _ _ L2 M2.out E2.out).mono ?_
  rintro e w3 ⟨rfl, g3⟩
  have M3 := hid (M2.out.grown g3)
  clear g3
  go_wp2_with fail
  refine (HSM.out _ _ _ L2 M3.out E2.out).mono ?_
  rintro e w4 ⟨rfl, g4⟩
  have G4 := hid (M3.out.up.trans g4)
  clear g4
  go_wp2_with fail
  refine (HAW.out _).mono ?_
  rintro e w9 ⟨rfl, g9⟩
  have G9 := hid (G4.out.trans g9)
  clear g9
  go_wp2
  go_ret
  exact ⟨rfl, G9.out⟩
end Go.Proofs.YthbodkgcbfplgaaGreat
