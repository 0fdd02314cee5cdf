/- The document's Check of matchers. -/
import Derived.Test.YthbodkgcbfplgaaGreatYb
namespace Go.Proofs.YthbodkgcbfplgaaGreat
open Go.RowKit
set_option linter.unusedVariables false
set_option linter.unusedSimpArgs false
set_option maxRecDepth 20000

theorem mt_cell {w : World} {b off k : Nat} {l : List Mt} {m : Mt} (h : SRd matE w (some ⟨b, off, none⟩) l) (hm : l[k]? = some m) :
    w.cell? ⟨b, off + k * 3, none⟩ = some (.int .i64 m.1) ∧ w.cell? ⟨b, off + k * 3 + 1, none⟩ = some (.string m.2.1) ∧ w.cell? ⟨b, off + k * 3 + 2, none⟩ = some (.string m.2.2) := by
  obtain ⟨b', off', e, hc⟩ := h.at (by have := (List.getElem?_eq_some_iff.1 hm).1; omega)
  cases e
  refine ⟨hc k m 0 _ hm rfl, ?_, ?_⟩
  · rw [Nat.add_assoc]; exact hc k m 1 _ hm rfl
  · rw [Nat.add_assoc]; exact hc k m 2 _ hm rfl
set_option maxHeartbeats 8000000 in
theorem r_mcheck (a : Option Addr) (c : Nat) (l : List Mt) (w : World) (h : SRd matE w a l) (hl : l.length ≤ 9223372036854775807) :
    Calls Tryz.prog 16 #[.slice a l.length c] w fun e w' => ∃ r : Int, e = .returned (.int .i64 r) ∧ Hid (decide (r = 0) = matsB l) ∧ w = w' := by
  have H := hid h
  clear h
  by_cases h8 : 8 < l.length
  · have HB : Hid (matsB l = false) := by show _ = _; unfold matsB; rw [decide_eq_false (by omega)]; rfl
    have q0 : decide ((8 : Int) < (l.length : Int)) = true := by simp; omega
    go_enter Tryz.func16, Tryz.ntmps16
    go_wp2
    go_ret
    exact ⟨41, rfl, by show _ = _; rw [HB.out]; rfl, rfl⟩
  · have HB : Hid (matsB l = l.all matB) := by show _ = _; unfold matsB; rw [decide_eq_true (by omega)]; rfl
    have q0 : decide ((8 : Int) < (l.length : Int)) = false := by simp; omega
    go_enter Tryz.func16, Tryz.ntmps16
    go_wp2
    go_loop [3] (fun t3 => ∃ k : Nat, k ≤ l.length ∧ t3 = .int .i64 (k : Int) ∧ (l.take k).all matB = true) (fun t3 => l.length - (intOf t3).toNat)
    case atStart => exact ⟨0, Nat.zero_le _, rfl, by simp⟩
    case round =>
      obtain ⟨k, hk, rfl, hj⟩ := hrel
      have HJ := hid hj
      clear hj
      by_cases hlt : k < l.length
      · have hki : (k : Int) < (l.length : Int) := by omega
        obtain ⟨m, hx⟩ : ∃ x, l[k]? = some x := ⟨_, List.getElem?_eq_getElem hlt⟩
        obtain ⟨bb, oo, ea, _⟩ := H.out.at (by omega)
        obtain ⟨u0, u1, u2⟩ := mt_cell (by rw [← ea]; exact H.out) hx
        have HT : Hid ((l.take (k + 1)).all matB = ((l.take k).all matB && matB m)) := by
          show _ = _
          rw [List.take_add_one, hx]
          simp
        have HM : Hid (matB m = false → matsB l = false) := fun h => by
          rw [HB.out, Bool.eq_false_iff]
          intro h2
          rw [List.all_eq_true] at h2
          rw [h2 m (List.mem_of_getElem? hx)] at h
          cases h
        obtain ⟨kd, nm, vl⟩ := m
        have HF : Hid (∀ w, Calls Tryz.prog 29 #[.string nm] w fun e w' => e = .returned (.bool (nameB nm)) ∧ w = w') := fun w => r_name2 nm w
        have HV : Hid (matB (kd, nm, vl) = (decide (1 ≤ kd) && decide (kd ≤ 4) && nameB nm && decide (vl.size ≤ 256))) := rfl
        subst ea
        clear hx
        simp only at u0 u1 u2
        generalize nameB nm = nb at HF HV
        by_cases p1 : kd < 1
        · have q1 : decide (kd < 1) = true := by simpa using p1
          have HX : Hid (matsB l = false) := HM.out (by rw [HV.out, decide_eq_false (by omega : ¬ 1 ≤ kd)]; rfl)
          clear p1 HV HT HM
          go_wp2
          go_ret
          exact ⟨40, rfl, by show _ = _; rw [HX.out]; rfl, rfl⟩
        · have q1 : decide (kd < 1) = false := by simpa using p1
          by_cases p4 : 4 < kd
          · have q4 : decide (4 < kd) = true := by simpa using p4
            have HX : Hid (matsB l = false) := HM.out (by rw [HV.out, decide_eq_false (by omega : ¬ kd ≤ 4), Bool.and_false]; rfl)
            clear p1 p4 HV HT HM
            go_wp2
            go_ret
            exact ⟨40, rfl, by show _ = _; rw [HX.out]; rfl, rfl⟩
          · have q4 : decide (4 < kd) = false := by simpa using p4
            cases nb with
            | false =>
              have HX : Hid (matsB l = false) := HM.out (by rw [HV.out, Bool.and_false]; rfl)
              clear p1 p4 HV HT HM
              go_wp2_with fail
              refine (HF.out _).mono ?_
              rintro e w2 ⟨rfl, rfl⟩
              go_wp2
              go_ret
              exact ⟨40, rfl, by show _ = _; rw [HX.out]; rfl, rfl⟩
            | true =>
              by_cases p5 : 256 < vl.size
              · have q5 : decide ((256 : Int) < (vl.size : Int)) = true := by simp; omega
                have HX : Hid (matsB l = false) := HM.out (by rw [HV.out, decide_eq_false (by omega : ¬ vl.size ≤ 256), Bool.and_false])
                clear p1 p4 HV HT HM
                go_wp2_with fail
                refine (HF.out _).mono ?_
                rintro e w2 ⟨rfl, rfl⟩
                go_wp2
                go_ret
                exact ⟨40, rfl, by show _ = _; rw [HX.out]; rfl, rfl⟩
              · have q5 : decide ((256 : Int) < (vl.size : Int)) = false := by simp; omega
                have HN : Hid ((l.take (k + 1)).all matB = true) := by
                  show _ = _
                  rw [HT.out, HJ.out, HV.out, decide_eq_true (by omega : 1 ≤ kd), decide_eq_true (by omega : kd ≤ 4), decide_eq_true (by omega : vl.size ≤ 256)]; rfl
                clear p1 p4 HV HT HM p5
                go_wp2_with fail
                refine (HF.out _).mono ?_
                rintro e w2 ⟨rfl, rfl⟩
                go_wp2
                go_round
                case rel => exact ⟨k + 1, by omega, by go_num, HN.out⟩
                case measure => simp [intOf]; omega
      · have hki : ¬ (k : Int) < (l.length : Int) := by omega
        have HN : Hid (matsB l = true) := by
          show _ = _
          have := HJ.out
          rw [List.take_of_length_le (by omega)] at this
          rw [HB.out]
          exact this
        go_wp2
        go_ret
        exact ⟨0, rfl, by show _ = _; rw [HN.out]; rfl, rfl⟩
end Go.Proofs.YthbodkgcbfplgaaGreat
