/- LexTexts: the walk. -/
import Derived.Test.YtkocdmkojoefoaaWn
import Derived.Test.YtkocdmkojoefoaaTm
namespace Go.Proofs.Ytkocdmkojoefoaa
open Go.RowKit
set_option linter.unusedVariables false
set_option maxRecDepth 20000

theorem one_at (s : ByteArray) (k : Nat) (hk : k < s.size) (w : World) : (Instr.slice 9 (.string s) (some (.int .i64 (k : Int))) (some (.int .i64 ((k : Int) + 1))) none).run Try.prog w = .ok (.string (strOfNums [byteAt s k])) w := by
  have h := sl_lh s k (k + 1) (by omega) (by omega) w
  rw [show k + 1 - k = 1 by omega, drop_byte s k hk] at h
  exact h
set_option maxHeartbeats 8000000 in
theorem texts_walk (s : ByteArray) (w : World) (hs : s.size ≤ 140737488351232) : Calls Try.prog 6 #[.string s] w fun e w' => e = .returned (.bool true) ∧ w.grownBy w' none := by
  have HSL : Hid ((sInts s).length = s.size) := sInts_len s
  go_enter Try.func6, Try.ntmps6
  go_wp2
  go_loopw [3, 4] (fun t3 t4 wr => ∃ (k : Nat) (Q : ByteArray), k ≤ s.size ∧ t4 = .int .i64 (k : Int) ∧ t3 = .string Q ∧ sInts Q = 34 :: quoL ((sInts s).take k) ∧ ((sInts s).take k).all okB = true ∧ w.grownBy wr none) (fun _ t4 _ => s.size - (intOf t4).toNat)
  case atStart => exact ⟨0, _, Nat.zero_le _, rfl, rfl, rfl, rfl, World.grownBy.refl _ _⟩
  case round =>
    obtain ⟨k, Q, hk, rfl, rfl, hQ, hok, hg⟩ := hrel
    have HQ : Hid (sInts Q = 34 :: quoL ((sInts s).take k)) := hQ
    have HOK : Hid (((sInts s).take k).all okB = true) := hok
    have HG : Hid (w.grownBy wr none) := hg
    have hqs : Q.size ≤ 1 + 2 * k := by
      rw [← sInts_len, hQ, List.length_cons]
      have h1 := quo_len ((sInts s).take k)
      rw [List.length_take] at h1
      omega
    clear hQ hok hg
    by_cases hlt : k < s.size
    · have hki : (k : Int) < (s.size : Int) := by omega
      have hidx := idx9 s k hlt
      have hsl := one_at s k hlt
      have hbd := byteAt_bd s k
      have hkl : k < (sInts s).length := by rw [HSL.out]; exact hlt
      have HNQ : Hid (quoL ((sInts s).take (k + 1)) = quoL ((sInts s).take k) ++ quo1 (byteAt s k)) := quo_next hkl
      have HNO : Hid (okB (byteAt s k) = true → ((sInts s).take (k + 1)).all okB = true) := fun h => ok_next hkl HOK.out h
      clear hkl
      generalize byteAt s k = c at hidx hsl hbd HNQ HNO
      have hu : sInts (strOfNums [c]) = [c] := sInts_str (by simp; omega)
      have hu1 : (strOfNums [c]).size = 1 := strOfNums_size [c]
      generalize strOfNums [c] = u1 at hsl hu hu1
      by_cases h10 : c = 10
      · have HN1 : Hid (sInts (Q ++ ⟨#[92, 110]⟩) = 34 :: quoL ((sInts s).take (k + 1))) := by
          show _ = _
          rw [sInts_app, HQ.out, HNQ.out, h10]
          rfl
        have HN2 := hid (HNO.out (by rw [h10]; decide))
        clear HNQ HNO HQ HOK hu
        subst h10
        go_wp2
        go_roundw
        case rel => exact ⟨k + 1, _, by omega, by go_num, rfl, HN1.out, HN2.out, HG.out⟩
        case measure => simp [intOf]; omega
      have p1 : (c == 10) = false := by simpa using h10
      by_cases h32 : c < 32
      · have p2 : decide (c < 32) = true := by simpa using h32
        have L := hid (lex_bad (s := ⟨#[34]⟩ ++ u1 ++ ⟨#[34]⟩) (p := 0) (c := 173) (lexR_of (l := [34, c, 34]) (by rw [sInts_app, sInts_app, hu]; rfl) (by simp) (lx_low c h32)))
        clear HNQ HNO HQ HOK hu h10 h32
        go_wp2_with fail
        refine (L.out _).mono ?_
        rintro e w2 ⟨rfl, hg2⟩
        have G2 := hid (HG.out.trans hg2)
        clear hg2 L HG
        go_wp2_with fail
        refine (f_awake _).mono ?_
        rintro e w3 ⟨rfl, hg3⟩
        have G3 := hid (G2.out.trans hg3)
        clear hg3 G2
        go_wp2
        go_ret
        exact ⟨rfl, G3.out⟩
      have p2 : decide (c < 32) = false := by simpa using h32
      have HN2 := hid (HNO.out (by unfold okB; simp; omega))
      by_cases hq : c = 34 ∨ c = 92
      · have HN1 : Hid (sInts (Q ++ ⟨#[92]⟩ ++ u1) = 34 :: quoL ((sInts s).take (k + 1))) := by
          show _ = _
          rw [sInts_app, sInts_app, HQ.out, HNQ.out, hu]
          unfold quo1
          rw [if_neg h10, if_pos hq, List.append_assoc]
          rfl
        clear HNQ HNO HQ HOK hu h10 h32
        rcases hq with rfl | rfl
        · go_wp2
          go_roundw
          case rel => exact ⟨k + 1, _, by omega, by go_num, rfl, HN1.out, HN2.out, HG.out⟩
          case measure => simp [intOf]; omega
        · go_wp2
          go_roundw
          case rel => exact ⟨k + 1, _, by omega, by go_num, rfl, HN1.out, HN2.out, HG.out⟩
          case measure => simp [intOf]; omega
      have p3 : (c == 34) = false := by simp; omega
      have p4 : (c == 92) = false := by simp; omega
      have HN1 : Hid (sInts (Q ++ u1) = 34 :: quoL ((sInts s).take (k + 1))) := by
        show _ = _
        rw [sInts_app, HQ.out, HNQ.out, hu]
        unfold quo1
        rw [if_neg h10, if_neg hq]
        rfl
      clear HNQ HNO HQ HOK hu h10 h32 hq
      go_wp2
      go_roundw
      case rel => exact ⟨k + 1, _, by omega, by go_num, rfl, HN1.out, HN2.out, HG.out⟩
      case measure => simp [intOf]; omega
    · have hki : ¬ (k : Int) < (s.size : Int) := by omega
      have hT : (sInts s).take k = sInts s := List.take_of_length_le (by rw [HSL.out]; omega)
      have HQ2 : Hid (sInts Q = 34 :: quoL (sInts s) ∧ (sInts s).all okB = true) := by
        have h1 := HQ.out
        have h2 := HOK.out
        rw [hT] at h1 h2
        exact ⟨h1, h2⟩
      clear HQ HOK hT
      by_cases hb : 4096 ≤ Q.size
      · have p1 : decide ((4096 : Int) ≤ (Q.size : Int)) = true := by simp; omega
        have p1' : (4096 : Int) ≤ (Q.size : Int) := by omega
        go_wp2_with fail
        refine (f_awake _).mono ?_
        rintro e w3 ⟨rfl, hg3⟩
        have G3 := hid (HG.out.trans hg3)
        clear hg3 HG
        go_wp2
        go_ret
        exact ⟨rfl, G3.out⟩
      · have p1 : decide ((4096 : Int) ≤ (Q.size : Int)) = false := by simp; omega
        have p1' : ¬ (4096 : Int) ≤ (Q.size : Int) := by omega
        have hlq : (quoL (sInts s)).length + 1 = Q.size := by rw [← sInts_len Q, HQ2.out.1]; rfl
        have hok1 : lexR (Q ++ ⟨#[34]⟩) = .ok [(4, 0, s, 0), (0, (((quoL (sInts s)).length + 2 : Nat) : Int), ⟨#[]⟩, 0)] := by
          have h := lexR_of (s := Q ++ ⟨#[34]⟩) (l := 34 :: (quoL (sInts s) ++ [34])) (by rw [sInts_app, HQ2.out.1]; rfl) (by simp; omega) (lx_quoted _ HQ2.out.2)
          rwa [str_self] at h
        have L1 := hid (lex_ok hok1 (by simp))
        have L2 := hid (lex_bad (lexR_of HQ2.out.1 (by simp; omega) (lx_open _ HQ2.out.2)))
        have hq : ∀ w, (binOp .eql 32 (.agg #[.int .i64 4, .int .i64 0, .string s, .int .i64 0]) (.agg #[.int .i64 4, .int .i64 0, .string s, .int .i64 0])).run Try.prog w = .ok (.bool true) w := fun w => by
          rw [eql32, decide_eq_true rfl]
        clear hok1 hlq HQ2
        go_wp2_with fail
        refine (L1.out _).mono ?_
        rintro e w2 ⟨gx, cx, rfl, hox, hg2⟩
        have G2 := hid (HG.out.trans hg2)
        have OX := hid hox
        clear hg2 hox L1 HG
        go_wp2_with fail
        refine (L2.out _).mono ?_
        rintro e w3 ⟨rfl, hg3⟩
        have G3 := hid (G2.out.trans hg3)
        obtain ⟨x0, x1, x2, x3⟩ := tok_cells (i := 0) (SOwn.rd (SOwn.kept OX.out hg3 (Classical.em _))) rfl
        simp only [Nat.zero_add, Nat.zero_mul] at x0 x1 x2 x3
        clear hg3 G2 OX L2
        go_wp2_with fail
        refine (f_awake _).mono ?_
        rintro e w4 ⟨rfl, hg4⟩
        have G4 := hid (G3.out.trans hg4)
        clear hg4 G3
        go_wp2
        go_ret
        exact ⟨rfl, G4.out⟩
end Go.Proofs.Ytkocdmkojoefoaa
