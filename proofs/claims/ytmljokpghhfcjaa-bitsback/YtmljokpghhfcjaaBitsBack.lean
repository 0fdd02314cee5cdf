/- What was appended is read back, and all that stood ahead is left: for every slice of bytes (each appended in its seven lowest bits), every two numbers and widths, with no condition but the form's own. -/
import Derived.Test.YtmljokpghhfcjaaBack
namespace Go.Proofs.Ytmljokpghhfcjaa
open Go.ChangeShapes Go.WideShapes Go.ChangeAt Go.RowKit
set_option linter.unusedVariables false

set_option maxHeartbeats 2000000 in
theorem bitsBack_walk (a0 : Option Addr) (z0 : List Int) (cap0 : Nat) (v x2 x u2 : Int) (W : World) (r0 : Rd W a0 z0) (n0 : a0 = none → cap0 = 0) (l0 : z0.length ≤ 140737488351232) (w1 : (Lit.int .u64 v).wf = true) (w2 : (Lit.int .i64 x2).wf = true) (w3 : (Lit.int .u64 x).wf = true) (w4 : (Lit.int .i64 u2).wf = true) :
    Calls Try.prog 5 #[.slice a0 z0.length cap0, .int .u64 v, .int .i64 x2, .int .u64 x, .int .i64 u2] W fun e w' => e = .returned (.bool true) ∧ Below W.heap.size W w' := by
  have hv := bounds_u64 w1
  have hx := bounds_u64 w3
  have HR : Hid (Rd W a0 z0) := r0
  obtain ⟨L, hL⟩ : ∃ L, L = z0.length := ⟨_, rfl⟩
  have HL : Hid (L = z0.length) := hL
  rw [← hL] at l0 ⊢
  clear w1 w2 w3 w4 n0 r0 hL
  go_enter Try.func5, Try.ntmps5
  go_wp2_with fail
  refine (Low_any _ _).mono ?_
  rintro e w' ⟨r, rfl, hr0, hr1, rfl⟩
  go_wp2_with fail
  obtain ⟨A, hA⟩ : ∃ A : Nat, r % 65 = A := ⟨(r % 65).toNat, by omega⟩
  have hA64 : A ≤ 64 := by omega
  rw [hA]
  clear hA hr0 hr1
  refine (Low_any _ _).mono ?_
  rintro e w' ⟨s, rfl, hs0, hs1, rfl⟩
  go_wp2_with fail
  obtain ⟨C, hC⟩ : ∃ C : Nat, s % 65 = C := ⟨(s % 65).toNat, by omega⟩
  have hC64 : C ≤ 64 := by omega
  rw [hC]
  clear hC hs0 hs1
  go_loopw [13, 14, 15] (fun tb tn ti wr => ∃ (j n Lb cb : Nat) (ab : Option Addr) (zb : List Int), j ≤ L ∧ n = 7 * j ∧ ti = .int .i64 j ∧ tn = .int .i64 n ∧ tb = .slice ab Lb cb ∧ zb.length = Lb ∧ Rd wr ab zb ∧ wholeB zb n = true ∧ Seven z0 zb j ∧ W.grownBy wr none) (fun _ _ ti _ => L - (intOf ti).toNat)
  case atStart => exact ⟨0, 0, 0, 0, none, [], Nat.zero_le _, rfl, rfl, rfl, rfl, rfl, ⟨.inl rfl, by simp⟩, whole_nil, fun i hi => by omega, World.grownBy.refl _ _⟩
  case round =>
    obtain ⟨j, n, Lb, cb, ab, zb, hj, hn, rfl, rfl, rfl, hLb, hrb, hWb, hsev, hgr⟩ := hrel
    have HN : Hid (n = 7 * j) := hn
    have HLb : Hid (zb.length = Lb) := hLb
    have HRb : Hid (Rd wr ab zb) := hrb
    have HWb : Hid (wholeB zb n = true) := hWb
    have HS : Hid (Seven z0 zb j) := hsev
    have HG : Hid (W.grownBy wr none) := hgr
    have hLbb : Lb ≤ 140737488351233 := by have := wholeB_n hWb; omega
    have hnb : n ≤ 985162418458624 := by omega
    clear hn hLb hrb hWb hsev hgr
    by_cases hlt : j < L
    · have hl := HL.out
      obtain ⟨b, off, rfl, hc⟩ := (HR.out.grown HG.out (by simp)).at (by omega)
      have hcell := hc j (by omega)
      have hby := HR.out.byte j
      obtain ⟨z, ez⟩ : ∃ z, z = z0.getD j 0 := ⟨_, rfl⟩
      rw [← ez] at hcell hby
      have HZ : Hid (z = z0.getD j 0) := ez
      clear hc ez hl
      go_wp2_with (go_at_call 10; refine (append_go ab zb Lb cb n 7 n 7 (n + 7) z wr HRb.out HLb.out (by omega) rfl rfl rfl (by omega) HWb.out (by omega)).mono ?_; rintro e w1 ⟨g1, c1, N1, rfl, ho1, hg1⟩)
      go_roundw
      case rel => exact ⟨j + 1, n + 7, N1, c1, some ⟨g1, 0, none⟩, app zb n z 7, by omega, by have := HN.out; omega, by go_num, by go_num, rfl, ho1.len, ho1.rd, app_whole zb n z 7, by have := seven_step HS.out HN.out; rwa [← HZ.out] at this, gb_trans HG.out hg1 (by simp)⟩
      case measure => simp [intOf]; omega
    · have hjL : j = L := by omega
      subst hjL
      clear hlt hj
      go_wp2_with fail
      refine (append_go ab zb Lb cb n A n A (n + A) v wr HRb.out HLb.out (by omega) rfl rfl rfl hv HWb.out hA64).mono ?_
      rintro e w1 ⟨g1, c1, N1, rfl, ho1, hg1⟩
      have hN1 : N1 ≤ 140737488351000 := by have := ho1.len; rw [app_len] at this; omega
      go_wp2_with fail
      refine (append_go (some ⟨g1, 0, none⟩) (app zb n v A) N1 c1 (n + A) C (n + A) C (n + A + C) x w1 ho1.rd ho1.len (by omega) (by omega) rfl (by omega) hx (app_whole zb n v A) hC64).mono ?_
      rintro e w2 ⟨g2, c2, N2, rfl, ho2, hg2⟩
      have hN2 : N2 ≤ 140737488351000 := by have := ho2.len; rw [app_len] at this; omega
      have HW2 : Hid (wholeB (app (app zb n v A) (n + A) x C) ((n + A + C : Nat) : Int) = true) := app_whole _ _ _ _
      obtain ⟨P, hP⟩ : ∃ P, v % 2 ^ A = P := ⟨_, rfl⟩
      obtain ⟨Q, hQ⟩ : ∃ Q, x % 2 ^ C = Q := ⟨_, rfl⟩
      have HB1 : Hid (rdv (app (app zb n v A) (n + A) x C) n A = P) := (back_first zb n v A x C).trans hP
      have HB2 : Hid (rdv (app (app zb n v A) (n + A) x C) (n + A) C = Q) := (back_second (app zb n v A) (n + A) x C).trans hQ
      have HS2 : Hid (Seven z0 (app (app zb n v A) (n + A) x C) j) := by
        have h1 := seven_old HS.out HN.out n (Nat.le_refl _) v A
        exact seven_old h1 HN.out (n + A) (by omega) x C
      have HP : Hid (v % 2 ^ A = P) := hP
      have HQ : Hid (x % 2 ^ C = Q) := hQ
      have HG2 : Hid (W.grownBy w2 none) := gb_trans (gb_trans HG.out hg1 (by simp)) hg2 (by simp)
      obtain ⟨z2, ez2⟩ : ∃ z, z = app (app zb n v A) (n + A) x C := ⟨_, rfl⟩
      rw [← ez2] at ho2 HW2 HB1 HB2 HS2
      have HO2 : Hid (Own w2 w1.heap.size g2 N2 c2 z2) := ho2
      clear hP hQ ez2 ho2 ho1 hg1 hg2 HG HS HRb HLb HWb
      go_wp2_with fail
      refine (read_go (some ⟨g2, 0, none⟩) z2 N2 c2 (n + A + C) n A (n + A + C) n A P w2 HO2.out.rd HO2.out.len (by omega) (by omega) rfl rfl HW2.out hA64 (by omega) HB1.out).mono ?_
      rintro e w' ⟨rfl, rfl⟩
      go_wp2_with fail
      refine (read_go (some ⟨g2, 0, none⟩) z2 N2 c2 (n + A + C) (n + A) C (n + A + C) (n + A) C Q w2 HO2.out.rd HO2.out.len (by omega) (by omega) (by omega) rfl HW2.out hC64 (by omega) HB2.out).mono ?_
      rintro e w' ⟨rfl, rfl⟩
      have hm1 : ((n : Int) + (A : Int) != (n : Int) + (A : Int)) = false := by simp
      have hm2 : ((n : Int) + (A : Int) + (C : Int) != (n : Int) + (A : Int) + (C : Int)) = false := by simp
      go_wp2_with fail
      refine (low_go v A A P w2 hv rfl hA64 HP.out).mono ?_
      rintro e w' ⟨rfl, rfl⟩
      go_wp2_with fail
      refine (low_go x C C Q w2 hx rfl hC64 HQ.out).mono ?_
      rintro e w' ⟨rfl, rfl⟩
      go_wp2_with fail
      go_loop [26] (fun i => ∃ q : Nat, q ≤ j ∧ i = .int .i64 q) (fun i => j - (intOf i).toNat)
      case atStart => exact ⟨0, Nat.zero_le _, rfl⟩
      case round =>
        obtain ⟨q, hq, rfl⟩ := hrel
        by_cases hlt : q < j
        · have hl := HL.out
          have hnn := HN.out
          obtain ⟨b, off, rfl, hc⟩ := (HR.out.grown HG2.out (by simp)).at (by omega)
          have hcell := hc q (by omega)
          have hby := HR.out.byte q
          obtain ⟨z, ez⟩ : ∃ z, z = z0.getD q 0 := ⟨_, rfl⟩
          rw [← ez] at hcell hby
          have HRV : Hid (rdv z2 (7 * q) 7 = bits .and .u64 z 127) := by
            show _ = _
            rw [seven_read HS2.out q hlt, ← ez, mask_127 z hby]
          have h7 : 7 * q + 7 ≤ n + A + C := by omega
          clear hc ez hl hnn
          go_wp2_with (go_at_call 19; refine (read_go (some ⟨g2, 0, none⟩) z2 N2 c2 (n + A + C) (7 * q) 7 (n + A + C) (7 * q) 7 (bits .and .u64 z 127) w2 HO2.out.rd HO2.out.len (by omega) (by omega) (by omega) rfl HW2.out (by omega) h7 HRV.out).mono ?_; rintro e w' ⟨rfl, rfl⟩)
          go_round
          case rel => exact ⟨q + 1, by omega, by go_num⟩
          case measure => simp [intOf]; omega
        · go_wp2_with fail
          refine (awake_any _).mono ?_
          rintro e w3 ⟨rfl, hg3⟩
          go_wp2
          go_ret
          exact ⟨rfl, gb_below (gb_trans HG2.out hg3 (by simp))⟩


set_option maxRecDepth 100000 in
theorem bitsBack_lifted (os : Os) (started : os.Started) (H : Type) (enc : TypeId × Value → H) :
    ReturnsInHanded {} Try.checked os 5 .any (Rows.bitsBackSpec.pre6 enc Try.prog Try.f5 Rows.bitsBackRow.domain false) (Rows.bitsBackSpec.post enc Try.prog Try.f5 false true false false) := by
  refine returnsInHanded_of_change_sized (C := Try.checked) own started (by kernel_rfl) Try.func5
    (ChangeSpec.witness6 (enc := enc) (C := Try.checked) false ⟨#[], #[.slice none 0 0, .int .u64 0, .int .i64 0, .int .u64 0, .int .i64 0], []⟩ 8 (by kernel_rfl) (by kernel_rfl) (by kernel_rfl) (by kernel_rfl)) ?_
  intro W base args ds gs before hval0 hW hcnd hsz0 _
  have hsz : (DataW.weightsEach Try.prog (Try.f5.params.toList ++ Rows.bitsBackSpec.plain.varTypes Try.prog) (ds ++ gs)).all (· ≤ reachBytes) = true := hsz0
  clear hsz0
  have hval : ∀ (j : Nat) t v, Try.f5.params[j]? = some t → args[j]? = some v → Value.okWide Try.prog W .any base t v := hval0
  have hW' := hW
  obtain ⟨p, q, hA0, hV, rfl, hfz, hnd⟩ := hW
  have hA : DataW.TrodAll enc Try.prog W 0 (fun _ => true) true Try.f5.params.toList args.toList ds p := hA0
  rw [Try.params5] at hA hval hsz
  obtain ⟨v0, vs0, d0, ds0, p0, q0, hargs, rfl, rfl, h0, r0⟩ := trodAll_cons hA
  obtain ⟨v1, vs1, d1, ds1, p1, q1, rfl, rfl, rfl, h1, r1⟩ := trodAll_cons r0
  obtain ⟨v2, vs2, d2, ds2, p2, q2, rfl, rfl, rfl, h2, r2⟩ := trodAll_cons r1
  obtain ⟨v3, vs3, d3, ds3, p3, q3, rfl, rfl, rfl, h3, r3⟩ := trodAll_cons r2
  obtain ⟨v4, vs4, d4, ds4, p4, q4, rfl, rfl, rfl, h4, r4⟩ := trodAll_cons r3
  obtain ⟨rfl, rfl, rfl⟩ := trodAll_nil r4
  obtain rfl : args = #[v0, v1, v2, v3, v4] := by cases args; simp_all
  obtain ⟨rfl, rfl⟩ := trodVars_none hV
  obtain ⟨a0, len0, cap0, rfl⟩ := okWide_slice Try.underlying22 (hval 0 22 v0 rfl rfl)
  have k0 := h0
  have lt0 : ∀ x ∈ p0, x.block < W.heap.size := by obtain ⟨m, hm⟩ := k0; exact DataW.trod_lt m _ _ _ hm
  obtain ⟨z0, e0, rd0, nl0, le0⟩ := open_bytes k0 hsz (j := 0) rfl rfl
  subst e0
  obtain ⟨a1, rfl, rfl, rfl, w1⟩ := open_int Try.underlying23 (hval 1 23 v1 rfl rfl) h1
  obtain ⟨a2, rfl, rfl, rfl, w2⟩ := open_int Try.underlying3 (hval 2 3 v2 rfl rfl) h2
  obtain ⟨a3, rfl, rfl, rfl, w3⟩ := open_int Try.underlying23 (hval 3 23 v3 rfl rfl) h3
  obtain ⟨a4, rfl, rfl, rfl, w4⟩ := open_int Try.underlying3 (hval 4 3 v4 rfl rfl) h4
  clear hA0 hval0
  refine (bitsBack_walk a0 z0 cap0 a1 a2 a3 a4 W rd0 nl0 le0 w1 w2 w3 w4).mono fun e W' ⟨he, bel⟩ => ?_
  subst he
  exact ⟨_, rfl, _, _, _, [], _, [], hW', trodAll_mk1 (shut_bool Try.underlying4 _), (trodAll_cons_mk (Below.trod laidOut (by kernel_rfl) (of_decide_eq_true (by kernel_rfl)) k0 bel lt0) (trodAll_cons_mk (shut_int Try.underlying23 w1) (trodAll_cons_mk (shut_int Try.underlying3 w2) (trodAll_cons_mk (shut_int Try.underlying23 w3) (trodAll_cons_mk (shut_int Try.underlying3 w4) trodAll_mk0))))), rfl, bel.frame _, fun h => by cases h⟩

theorem bitsBack_over : Rows.bitsBackRow.holds Try.pinned (OpenSpec.ofChange Rows.bitsBackSpec) :=
  OpenClaim.holds_of_wide 5 Try.f5 rfl rfl rfl rfl rfl rfl rfl ⟨rfl, rfl, rfl, rfl, rfl⟩ rfl rfl rfl rfl rfl (by kernel_rfl) Try.func5 (by kernel_rfl)
    (of_decide_eq_true (by kernel_rfl)) (by unfold Func.isWrapper; first | (rw [if_pos (by decide +kernel)]; kernel_rfl) | (rw [if_neg (by decide +kernel)]; exact ⟨rfl, rfl⟩))
    (fun os started H enc _ => bitsBack_lifted os started H enc)

theorem bitsBack_holds : Rows.BitsBackSaid := bitsBack_over
#print axioms bitsBack_holds
end Go.Proofs.Ytmljokpghhfcjaa
