/- ParseTotal: the walk. -/
import Derived.Test.YtnimdngiejcljaaUa
import Derived.Test.YtnimdngiejcljaaQj
namespace Go.Proofs.Ytnimdngiejcljaa
open Go.RowKit
set_option linter.unusedVariables false
set_option linter.unusedSimpArgs false
set_option maxRecDepth 20000

/-- What Parse answers where it answers nodes, as the laws' walks want it. -/
def NsOut (ns : List Nd) (n : Nat) (w : World) (e : Ending) (w' : World) : Prop := ∃ g c Q, e = .returned (.tuple #[.slice (some ⟨g, 0, none⟩) n c, .int .i64 0, .int .i64 0]) ∧ SRd ndE w' (some ⟨g, 0, none⟩) Q ∧ Q.map (·.1) = ns ∧ w.grownBy w' none
theorem parse_ns {s : ByteArray} {ns : List Nd} {n : Nat} (h : parseR s = .ok ns) (hn : ns.length = n) (h0 : 0 < n) (w : World) : Calls Try.prog 8 #[.string s] w fun e w' => NsOut ns n w e w' := (f_parse s w).mono fun e w' h2 => by
  rw [h] at h2
  obtain ⟨v, Q, rfl, hnd, hq, hg⟩ := h2
  have hl : Q.length = n := by rw [← hn, ← hq, List.length_map]
  obtain ⟨g, c, rfl, hr⟩ := hnd.some (by omega)
  rw [hl]
  exact ⟨g, c, Q, rfl, hr, hq, hg⟩
theorem r_parts (k : Int) (w : World) : Calls Try.prog 11 #[.int .i64 k] w fun e w' => e = .returned (.int .i64 (partsK k)) ∧ w = w' := by
  by_cases h : k = 1 ∨ k = 2 ∨ k = 3 ∨ k = 4 ∨ k = 5 ∨ k = 6 ∨ k = 7
  · rcases h with rfl | rfl | rfl | rfl | rfl | rfl | rfl
    all_goals
      go_enter Try.func11, Try.ntmps11
      go_wp2
      go_ret
      exact ⟨rfl, rfl⟩
  · have e : partsK k = -1 := by unfold partsK; rw [if_neg (by omega), if_neg (by omega), if_neg (by omega)]
    rw [e]
    have h1 : k ≠ 1 := by omega
    have h2 : k ≠ 2 := by omega
    have h3 : k ≠ 3 := by omega
    have h4 : k ≠ 4 := by omega
    have h5 : k ≠ 5 := by omega
    have h6 : k ≠ 6 := by omega
    have h7 : k ≠ 7 := by omega
    clear h e
    go_enter Try.func11, Try.ntmps11
    go_wp2
    go_ret
    exact ⟨rfl, rfl⟩
set_option maxHeartbeats 4000000 in
theorem total_walk (s : ByteArray) (w : World) : Calls Try.prog 3 #[.string s] w fun e w' => e = .returned (.bool true) ∧ w.grownBy w' none := by
  have HPA := hid (f_parse s w)
  have HLX := hid (fun w => f_lex s w)
  have HAW := hid f_awake
  cases hl : lexR s with
  | bad p c =>
    have hc0 := (lexR_bad hl).1
    have HP : Hid (Calls Try.prog 8 #[.string s] w fun e w' => e = .returned (.tuple #[.slice none 0 0, .int .i64 (p : Int), .int .i64 c]) ∧ w.grownBy w' none) := by
      have h := HPA.out
      unfold parseR at h
      rw [hl] at h
      exact h
    have HL : Hid (∀ w, Calls Try.prog 9 #[.string s] w fun e w' => e = .returned (.tuple #[.slice none 0 0, .int .i64 (p : Int), .int .i64 c]) ∧ w.grownBy w' none) := fun w => by
      have h := HLX.out w
      rw [hl] at h
      exact h
    clear hl HPA HLX
    go_enter Try.func3, Try.ntmps3
    go_wp2_with fail
    refine HP.out.mono ?_
    rintro e w1 ⟨rfl, g1⟩
    have G1 := hid g1
    clear g1
    go_wp2_with fail
    refine (HL.out _).mono ?_
    rintro e w2 ⟨rfl, g2⟩
    have G2 := hid (G1.out.trans g2)
    clear g2
    go_wp2_with fail
    refine (HAW.out _).mono ?_
    rintro e w3 ⟨rfl, g3⟩
    have G3 := hid (G2.out.trans g3)
    clear g3
    go_wp2_with fail
    go_ret
    exact ⟨rfl, G3.out⟩
  | ok ts =>
    have ht := parse_total hl
    have hsz : s.size ≤ 4096 := by obtain ⟨us, -, -, -, h⟩ := (lexR_toks hl).ex; exact h
    have HL : Hid (∀ w, Calls Try.prog 9 #[.string s] w fun e w' => ∃ a n c, e = .returned (.tuple #[.slice a n c, .int .i64 0, .int .i64 0]) ∧ w.grownBy w' none) := fun w => by
      refine (HLX.out w).mono fun e w' h => ?_
      rw [hl] at h
      obtain ⟨a, c, rfl, -, g⟩ := h
      exact ⟨a, _, c, rfl, g⟩
    clear hl HLX
    cases hp : parseR s with
    | bad p c =>
      rw [hp] at ht HPA
      have HP : Hid (Calls Try.prog 8 #[.string s] w fun e w' => e = .returned (.tuple #[.slice none 0 0, .int .i64 p, .int .i64 c]) ∧ w.grownBy w' none) := HPA.out
      clear hp HPA
      rcases ht with ⟨rfl, rfl⟩ | ⟨hc, hc0, hp0, hp1⟩
      · go_enter Try.func3, Try.ntmps3
        go_wp2_with fail
        refine HP.out.mono ?_
        rintro e w1 ⟨rfl, g1⟩
        have G1 := hid g1
        clear g1
        go_wp2_with fail
        refine (HL.out _).mono ?_
        rintro e w2 ⟨a, n, c, rfl, g2⟩
        have G2 := hid (G1.out.trans g2)
        clear g2
        go_wp2_with fail
        refine (HAW.out _).mono ?_
        rintro e w3 ⟨rfl, g3⟩
        have G3 := hid (G2.out.trans g3)
        clear g3
        go_wp2_with fail
        go_ret
        exact ⟨rfl, G3.out⟩
      · go_enter Try.func3, Try.ntmps3
        go_wp2_with fail
        refine HP.out.mono ?_
        rintro e w1 ⟨rfl, g1⟩
        have G1 := hid g1
        clear g1
        go_wp2_with fail
        refine (HL.out _).mono ?_
        rintro e w2 ⟨a, n, c2, rfl, g2⟩
        have G2 := hid (G1.out.trans g2)
        clear g2
        go_wp2_with fail
        refine (HAW.out _).mono ?_
        rintro e w3 ⟨rfl, g3⟩
        have G3 := hid (G2.out.trans g3)
        clear g3
        go_wp2_with fail
        go_ret
        exact ⟨rfl, G3.out⟩
    | ok ns =>
      rw [hp] at ht HPA
      obtain ⟨hrun, hlen⟩ := ht
      have h0 : 0 < ns.length := by
        cases ns with
        | nil => exact absurd hrun (by show (0 : Int) ≠ 1; decide)
        | cons x r => simp
      have HP : Hid (Calls Try.prog 8 #[.string s] w fun e w' => NsOut ns ns.length w e w') := parse_ns hp rfl h0 w
      have HRUN := hid hrun
      clear hp HPA hrun
      go_enter Try.func3, Try.ntmps3
      go_wp2_with fail
      refine HP.out.mono ?_
      rintro e w1 ⟨g, c, Q, rfl, hr, hq, g1⟩
      have G1 := hid g1
      have HR := hid hr
      have HQ := hid hq
      clear g1 hr hq
      go_wp2_with fail
      refine (HL.out _).mono ?_
      rintro e w2 ⟨la, ln, lc, rfl, g2⟩
      have G2 := hid (G1.out.trans g2)
      have HR2 := hid (HR.out.grown g2 (by simp))
      clear g2 HR G1
      go_wp2
      go_loopw [9, 10] (fun t9 t10 wr => ∃ (n : Int) (k : Nat), 0 ≤ n ∧ n ≤ (k : Int) ∧ k ≤ ns.length ∧ t9 = .int .i64 n ∧ t10 = .int .i64 (k : Int) ∧ wr = w2 ∧ Hid (runK n (ns.drop k) = 1)) (fun _ t10 _ => ns.length - (intOf t10).toNat)
      case atStart => exact ⟨0, 0, by omega, by omega, Nat.zero_le _, rfl, rfl, rfl, HRUN.out⟩
      case round =>
        obtain ⟨n, k, hn0, hnk, hk, rfl, rfl, rfl, HN⟩ := hrel
        by_cases hlt : k < ns.length
        · have hki : (k : Int) < (ns.length : Int) := by omega
          obtain ⟨x, hx⟩ : ∃ x, ns[k]? = some x := ⟨_, List.getElem?_eq_getElem hlt⟩
          have hdrop : ns.drop k = x :: ns.drop (k + 1) := by rw [List.drop_eq_getElem_cons hlt, Option.some.inj ((List.getElem?_eq_getElem hlt).symm.trans hx)]
          have hrun := HN.out
          rw [hdrop, runK_cons] at hrun
          split at hrun
          · exact absurd hrun (by decide)
          · rename_i hpk
            obtain ⟨q, hq, rfl⟩ := row_of HQ.out hx
            obtain ⟨a0, -, -, -, -, -, -, -, -, a9⟩ := nd_cells HR2.out hq
            simp only [Nat.zero_add] at a0 a9
            have HPT := hid (fun w => r_parts q.1.kind w)
            have hp9 : q.1.parts = partsK q.1.kind := by omega
            rw [hp9] at a9
            have hp0 : 0 ≤ partsK q.1.kind := by omega
            have hpn : partsK q.1.kind ≤ n := by omega
            clear hpk hp9 hdrop hx hq
            generalize partsK q.1.kind = pk at *
            generalize q.1.kind = kd at *
            have HRU := hid hrun
            clear hrun HN
            go_wp2_with fail
            refine (HPT.out _).mono ?_
            rintro e w5 ⟨rfl, rfl⟩
            go_wp2
            go_roundw
            case rel => exact ⟨n - pk + 1, k + 1, by omega, by omega, by omega, by go_num, by go_num, by first | rfl | trivial, HRU.out⟩
            case measure => simp [intOf]; omega
        · have hki : ¬ (k : Int) < (ns.length : Int) := by omega
          have hn1 : n = 1 := by
            have h := HN.out
            rw [List.drop_eq_nil_of_le (by omega)] at h
            exact h
          subst hn1
          go_wp2_with fail
          refine (HAW.out _).mono ?_
          rintro e w3 ⟨rfl, g3⟩
          have G3 := hid (G2.out.trans g3)
          clear g3
          go_wp2_with fail
          go_ret
          exact ⟨rfl, G3.out⟩
end Go.Proofs.Ytnimdngiejcljaa
