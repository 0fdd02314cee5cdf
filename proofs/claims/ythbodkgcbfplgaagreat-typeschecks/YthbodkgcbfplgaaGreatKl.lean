/- TypesSources: the walk. -/
import Derived.Test.YthbodkgcbfplgaaGreatKk
namespace Go.Proofs.YthbodkgcbfplgaaGreat
open Go.RowKit
set_option linter.unusedVariables false
set_option linter.unusedSimpArgs false
set_option maxRecDepth 20000

set_option maxHeartbeats 8000000 in
theorem typesSources_walk (s : ByteArray) (w : World) : Calls Tryz.prog 4 #[.string s] w fun e w' => e = .returned (.bool true) ∧ w.grownBy w' none := by
  have HPA := hid (f_parse s w)
  have HAW := hid f_awake
  cases hp : parseR s with
  | bad p c =>
    rw [hp] at HPA
    have hc : c ≠ 0 := by
      cases hl : lexR s with
      | bad p1 c1 =>
        have h1 := (lexR_bad hl).1
        unfold parseR at hp
        rw [hl] at hp
        cases hp
        exact h1
      | ok ts =>
        have ht := parse_total hl
        rw [hp] at ht
        rcases ht with ⟨rfl, rfl⟩ | ⟨h, h2, -⟩
        · decide
        · first | exact h2 | exact h | omega
    have HP : Hid (Calls Tryz.prog 12 #[.string s] w fun e w' => e = .returned (.tuple #[.slice none 0 0, .int .i64 p, .int .i64 c]) ∧ w.grownBy w' none) := HPA.out
    have q0 : (c != 0) = true := by simpa using hc
    clear hp HPA hc
    go_enter Tryz.func4, Tryz.ntmps4
    go_wp2_with fail
    refine HP.out.mono ?_
    rintro e w1 ⟨rfl, g1⟩
    have G1 := hid g1
    clear g1
    go_wp2_with fail
    refine (HAW.out _).mono ?_
    rintro e w3 ⟨rfl, g3⟩
    have G3 := hid (G1.out.trans g3)
    clear g3
    go_wp2_with fail
    go_ret
    exact ⟨rfl, G3.out⟩
  | ok ns =>
    rw [hp] at HPA
    have hlen := (parse_nodes hp).2.2
    have hc := chk_nodes hp
    have HP : Hid (Calls Tryz.prog 12 #[.string s] w fun e w' => ∃ a c Q, e = .returned (.tuple #[.slice a ns.length c, .int .i64 0, .int .i64 0]) ∧ Hid (NsRd w' a Q) ∧ Q.map (·.1) = ns ∧ Hid (w.grownBy w' none)) := HPA.out.mono fun e w' h2 => by
      obtain ⟨v, Q, rfl, hnd, hq, hg⟩ := h2
      obtain ⟨a, c, rfl⟩ := hnd.val
      have hl : Q.length = ns.length := by rw [← hq, List.length_map]
      have hr := hnd.rds
      rw [hl] at hnd ⊢
      exact ⟨a, c, Q, rfl, hr.1, hq, hg⟩
    obtain ⟨C, hC⟩ : ∃ C, chkT ns = C := ⟨_, rfl⟩
    have HK : Hid (∀ (a : Option Addr) (c : Nat) (Q : List Row) (W : World), NsRd W a Q → Q.map (·.1) = ns → Calls Tryz.prog 9 #[.slice a ns.length c] W fun e w' => e = .returned (.tuple #[.int .i64 C.1, .int .i64 C.2.1, .int .i64 C.2.2]) ∧ W.grownBy w' none) := fun a c Q W hr hq => by
      have hl : Q.length = ns.length := by rw [← hq, List.length_map]
      have h := f_check a c Q W hr (by omega)
      rw [hq, hC, hl] at h
      exact h
    rw [hC] at hc
    obtain ⟨k, at_, f⟩ := C
    simp only at hc HK
    have hN0 : (0 : Int) ≤ (ns.length : Int) := by omega
    generalize ns.length = N at *
    clear hp HPA hC hlen
    rcases hc with ⟨rfl, ⟨h1, h3⟩, rfl⟩ | ⟨hf, ⟨h0, hlt⟩, rfl⟩
    · have hk : k = 1 ∨ k = 2 ∨ k = 3 := by omega
      clear h1 h3
      rcases hk with rfl | rfl | rfl
      all_goals
        go_enter Tryz.func4, Tryz.ntmps4
        go_wp2_with fail
        refine HP.out.mono ?_
        rintro e w1 ⟨a, c, Q, rfl, hr, hq, G1⟩
        have HQ := hid hq
        clear hq
        go_wp2_with fail
        refine (HK.out _ _ Q _ hr.out HQ.out).mono ?_
        rintro e w2 ⟨rfl, g2⟩
        have G2 := hid (G1.out.trans g2)
        clear g2
        go_wp2_with fail
        refine (HAW.out _).mono ?_
        rintro e w3 ⟨rfl, g3⟩
        have G3 := hid (G2.out.trans g3)
        clear g3
        go_wp2_with fail
        go_ret
        exact ⟨rfl, G3.out⟩
    · rcases hf with rfl | rfl
      all_goals
        go_enter Tryz.func4, Tryz.ntmps4
        go_wp2_with fail
        refine HP.out.mono ?_
        rintro e w1 ⟨a, c, Q, rfl, hr, hq, G1⟩
        have HQ := hid hq
        clear hq
        go_wp2_with fail
        refine (HK.out _ _ Q _ hr.out HQ.out).mono ?_
        rintro e w2 ⟨rfl, g2⟩
        have G2 := hid (G1.out.trans g2)
        clear g2
        go_wp2_with fail
        refine (HAW.out _).mono ?_
        rintro e w3 ⟨rfl, g3⟩
        have G3 := hid (G2.out.trans g3)
        clear g3
        go_wp2_with fail
        go_ret
        exact ⟨rfl, G3.out⟩
end Go.Proofs.YthbodkgcbfplgaaGreat
