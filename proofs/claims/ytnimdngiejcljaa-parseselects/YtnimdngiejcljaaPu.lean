/- Package parse: selection. (Printed by mk_pu.py.) -/
import Derived.Test.YtnimdngiejcljaaPt
namespace Go.Proofs.Ytnimdngiejcljaa
open Go.RowKit
set_option linter.unusedVariables false
set_option linter.unusedSimpArgs false
set_option maxRecDepth 20000

theorem span_ne (ts : List Tok) : spanT ts ≠ .out := fine_ne (spanT_fine ts)
theorem width_yes {r : List Tok} (h : isB ⟨#[91]⟩ r = true) : widthR r = (spanT r.tail).bind fun w r => (need ⟨#[93]⟩ r).bind fun _ r => .ok (3, w) r := by unfold widthR; rw [if_pos h]
theorem width_no {r : List Tok} (h : isB ⟨#[91]⟩ r = false) : widthR r = .ok (2, 0) r := by unfold widthR; rw [if_neg (by rw [h]; simp)]
theorem back_yes {r : List Tok} (h : isB offS r = true) : backR r = spanT r.tail := by unfold backR; rw [if_pos h]
theorem back_no {r : List Tok} (h : isB offS r = false) : backR r = .ok 0 r := by unfold backR; rw [if_neg (by rw [h]; simp)]
set_option maxHeartbeats 8000000 in
theorem f_sel {w : World} {b p : Nat} {K : Tk} {k : Nat} {op : Int} {v : Value} {L : List Row} {ts : List Tok} (h : RdAt w b p K k op v L) (ha : Ahead K k ts) (hl : L.length ≤ 1000000) :
    Calls Try.prog 79 #[.pointer (some ⟨p, 0, none⟩)] w fun e w' => PQ b p K k op v L (selR 5000 ts) w e w' := by
  have H := hid h
  have HM := hid (f_matchers h ha)
  obtain ⟨R, eR⟩ : ∃ R, selR 5000 ts = R := ⟨_, rfl⟩
  rw [eR]
  have ER := hid eR
  unfold selR at ER
  have hpn : p < w.heap.size := h.lt
  clear h ha eR
  go_enter Try.func79, Try.ntmps79
  go_wp2_with fail
  refine HM.out.mono ?_
  intro e w1 h1
  cases hm : matchR 5000 ts with
  | out => rw [hm] at h1; exact h1.elim
  | bad q c =>
    rw [hm] at h1
    obtain ⟨rfl, f1⟩ := h1
    have ER1 : Hid (R = .bad q c) := by
      have := ER.out
      rw [hm, bind_bad] at this
      exact this.symm
    have HF := hid (Fr.mono (S' := Wr p v) f1 (fun j _ e => .inl e))
    clear f1 hm ER HM
    go_wp2
    refine ⟨rfl, ?_⟩
    rw [ER1.out]
    exact ⟨rfl, HF.out⟩
  | ok ms r =>
    rw [hm] at h1
    obtain ⟨sl, rfl, ho1, k1, h1, ha1, hk1, f1⟩ := h1
    have ER1 : Hid (((widthR r).bind fun kw r => (backR r).bind fun b r => .ok [⟨kw.1, 0, ⟨#[]⟩, ms, kw.2, b, 0, [], false, 0⟩] r) = R) := by
      have := ER.out
      rw [hm, bind_ok] at this
      exact this
    have HN1 := hid (NAt.made H.out h1 f1 ⟨2, 0, ⟨#[]⟩, ms, 0, 0, 0, [], false, 0⟩ sl (none, 0, 0) ho1 (SOwn.nil _ _ _))
    have HA1 := hid ha1
    obtain ⟨x1, x2, x3⟩ := sl
    obtain ⟨NB, eNB⟩ : ∃ NB, NB = w1.heap.size := ⟨_, rfl⟩
    have HK1 : Hid (k ≤ k1) := Nat.le_of_lt hk1
    have hpb : p ≠ w1.heap.size := by have := f1.size; omega
    unfold slV at *
    clear hm ER HM ho1 h1 ha1 hk1 f1
    go_wp2_with fail
    refine (f_takes HN1.out.rd HA1.out ⟨#[91]⟩).mono ?_
    rintro e w2 (⟨hb, rfl, h2, f2⟩ | ⟨hb, rfl, g2⟩)
    · have HN2 := hid (HN1.out.step h2 f2)
      have HA2 := hid (HA1.out.next (mean_next hb))
      have ER2 : Hid (((spanT r.tail).bind fun w r => (need ⟨#[93]⟩ r).bind fun _ r => (.ok (3, w) r : Rs (Int × Int))).bind (fun kw r => (backR r).bind fun b r => .ok [⟨kw.1, 0, ⟨#[]⟩, ms, kw.2, b, 0, [], false, 0⟩] r) = R) := by
        have := ER1.out
        rw [width_yes hb] at this
        exact this
      have y0 := (NAt.cells HN2.out).1
      have z0 := free_row HN2.out.row 0
      have HN3 := hid (HN2.out.kind 3)
      clear hb h2 f2 ER1
      go_wp2_with fail
      refine (f_span HN3.out.rd HA2.out).mono ?_
      intro e w4 h4
      cases hsp : spanT r.tail with
      | out => exact absurd hsp (span_ne _)
      | bad q c =>
        rw [hsp] at h4
        obtain ⟨rfl, f4⟩ := h4
        have ER3 : Hid (R = .bad q c) := by
          have := ER2.out
          rw [hsp, bind_bad, bind_bad] at this
          exact this.symm
        have HF := hid ((HN3.out.adv.fr).trans f4 (fun j _ e => .inl e))
        clear hsp f4 ER2
        go_wp2
        refine ⟨rfl, ?_⟩
        rw [ER3.out]
        exact ⟨rfl, HF.out⟩
      | ok wd r4 =>
        rw [hsp] at h4
        obtain ⟨rfl, k4, h4, ha4, hk4, f4⟩ := h4
        have ER3 : Hid (((need ⟨#[93]⟩ r4).bind fun _ r => (.ok (3, wd) r : Rs (Int × Int))).bind (fun kw r => (backR r).bind fun b r => .ok [⟨kw.1, 0, ⟨#[]⟩, ms, kw.2, b, 0, [], false, 0⟩] r) = R) := by
          have := ER2.out
          rw [hsp, bind_ok] at this
          exact this
        have HN4 := hid (HN3.out.step h4 f4)
        have HA4 := hid ha4
        have HK4 : Hid (k1 + 1 < k4) := hk4
        have y4 := (NAt.cells HN4.out).2.2.2.2.1
        have z4 := free_row HN4.out.row 4
        have HN5 := hid (HN4.out.width wd)
        clear hsp h4 f4 ER2 ha4 hk4 y0 z0 HN2 HN3
        go_wp2_with fail
        refine (f_needs HN5.out.rd HA4.out ⟨#[93]⟩).mono ?_
        rintro e w6 (⟨hb, rfl, h6, f6⟩ | ⟨hb, rfl, g6⟩)
        · have HN6 := hid (HN5.out.step h6 f6)
          have HA6 := hid (HA4.out.next (mean_next hb))
          have HK6 : Hid (k1 ≤ k4 + 1) := by have := HK4.out; show _ ≤ _; omega
          have hk6 : k1 ≤ k4 + 1 := HK6.out
          have ER4 : Hid (((backR r4.tail).bind fun b r => .ok [⟨3, 0, ⟨#[]⟩, ms, wd, b, 0, [], false, 0⟩] r) = R) := by
            have := ER3.out
            rw [need_yes hb, bind_ok, bind_ok] at this
            exact this
          clear hb h6 f6 ER3 y4 z4 HN4 HN5 HK4
          go_wp2_with fail
          refine (f_takes HN6.out.rd HA6.out offS).mono ?_
          rintro e w10 (⟨hb, rfl, h10, f10⟩ | ⟨hb, rfl, g10⟩)
          · have HN10 := hid (HN6.out.step h10 f10)
            have HA10 := hid (HA6.out.next (mean_next hb))
            have ER10 : Hid (((spanT r4.tail.tail).bind fun b r => .ok [⟨3, 0, ⟨#[]⟩, ms, wd, b, 0, [], false, 0⟩] r) = R) := by
              have := ER4.out
              rw [back_yes hb] at this
              exact this
            clear hb h10 f10 ER4
            go_wp2_with fail
            refine (f_span HN10.out.rd HA10.out).mono ?_
            intro e w11 h11
            cases hsp : spanT r4.tail.tail with
            | out => exact absurd hsp (span_ne _)
            | bad q c =>
              rw [hsp] at h11
              obtain ⟨rfl, f11⟩ := h11
              have ER11 : Hid (R = .bad q c) := by
                have := ER10.out
                rw [hsp, bind_bad] at this
                exact this.symm
              have HF := hid ((HN10.out.adv.fr).trans f11 (fun j _ e => .inl e))
              clear hsp f11 ER10
              go_wp2
              refine ⟨rfl, ?_⟩
              rw [ER11.out]
              exact ⟨rfl, HF.out⟩
            | ok bk r11 =>
              rw [hsp] at h11
              obtain ⟨rfl, k11, h11, ha11, hk11, f11⟩ := h11
              have ER11 : Hid (.ok [⟨3, 0, ⟨#[]⟩, ms, wd, bk, 0, [], false, 0⟩] r11 = R) := by
                have := ER10.out
                rw [hsp, bind_ok] at this
                exact this
              have HN11 := hid (HN10.out.step h11 f11)
              have HA11 := hid ha11
              have y5 := (NAt.cells HN11.out).2.2.2.2.2.1
              have z5 := free_row HN11.out.row 5
              have HN12 := hid (HN11.out.back bk)
              clear hsp h11 f11 ER10 ha11 HN10
              go_upto_region 7 with fail
              obtain ⟨n0, n1, n2, n3, n4, n5, n6, n7, n8, n9⟩ := NAt.cells HN12.out
              simp only [slV] at n3 n7
              have HTL := hid (f_tellN HN12.out hl)
              unfold ndA slV at HTL
              go_wp2_with fail
              refine HTL.out.mono ?_
              rintro e w20 ⟨rfl, v20, h20, a20⟩
              have H20 := hid h20
              have A20 := hid a20
              clear h20 a20 HTL n0 n1 n2 n3 n4 n5 n6 n7 n8 n9
              go_wp2
              go_end0
              rw [← ER11.out]
              exact ⟨rfl, v20, k11, [_], H20.out, rfl, HA11.out, by have := HK1.out; omega, A20.out⟩
          · have HN10 := hid (HN6.out.grown g10)
            have ER10 : Hid (.ok [⟨3, 0, ⟨#[]⟩, ms, wd, 0, 0, [], false, 0⟩] r4.tail = R) := by
              have := ER4.out
              rw [back_no hb, bind_ok] at this
              exact this
            clear hb g10 ER4
            go_upto_region 7 with fail
            obtain ⟨n0, n1, n2, n3, n4, n5, n6, n7, n8, n9⟩ := NAt.cells HN10.out
            simp only [slV] at n3 n7
            have HTL := hid (f_tellN HN10.out hl)
            unfold ndA slV at HTL
            go_wp2_with fail
            refine HTL.out.mono ?_
            rintro e w20 ⟨rfl, v20, h20, a20⟩
            have H20 := hid h20
            have A20 := hid a20
            clear h20 a20 HTL n0 n1 n2 n3 n4 n5 n6 n7 n8 n9
            go_wp2
            go_end0
            rw [← ER10.out]
            exact ⟨rfl, v20, (k4 + 1), [_], H20.out, rfl, HA6.out, by have := HK1.out; omega, A20.out⟩
        · have ER4 : Hid (R = .bad (hd r4).2.1 (failC r4)) := by
            have := ER3.out
            rw [need_no hb, bind_bad, bind_bad] at this
            exact this.symm
          have HF := hid ((HN5.out.adv.fr).trans (.of (S := Me p) g6) (fun j _ e => .inl e))
          clear hb g6 ER3
          go_wp2
          refine ⟨rfl, ?_⟩
          rw [ER4.out]
          exact ⟨rfl, HF.out⟩
    · have HN2 := hid (HN1.out.grown g2)
      have ER2 : Hid (((backR r).bind fun b r => .ok [⟨2, 0, ⟨#[]⟩, ms, 0, b, 0, [], false, 0⟩] r) = R) := by
        have := ER1.out
        rw [width_no hb, bind_ok] at this
        exact this
      clear hb g2 ER1
      go_wp2_with fail
      refine (f_takes HN2.out.rd HA1.out offS).mono ?_
      rintro e w10 (⟨hb, rfl, h10, f10⟩ | ⟨hb, rfl, g10⟩)
      · have HN10 := hid (HN2.out.step h10 f10)
        have HA10 := hid (HA1.out.next (mean_next hb))
        have ER10 : Hid (((spanT r.tail).bind fun b r => .ok [⟨2, 0, ⟨#[]⟩, ms, 0, b, 0, [], false, 0⟩] r) = R) := by
          have := ER2.out
          rw [back_yes hb] at this
          exact this
        clear hb h10 f10 ER2
        go_wp2_with fail
        refine (f_span HN10.out.rd HA10.out).mono ?_
        intro e w11 h11
        cases hsp : spanT r.tail with
        | out => exact absurd hsp (span_ne _)
        | bad q c =>
          rw [hsp] at h11
          obtain ⟨rfl, f11⟩ := h11
          have ER11 : Hid (R = .bad q c) := by
            have := ER10.out
            rw [hsp, bind_bad] at this
            exact this.symm
          have HF := hid ((HN10.out.adv.fr).trans f11 (fun j _ e => .inl e))
          clear hsp f11 ER10
          go_wp2
          refine ⟨rfl, ?_⟩
          rw [ER11.out]
          exact ⟨rfl, HF.out⟩
        | ok bk r11 =>
          rw [hsp] at h11
          obtain ⟨rfl, k11, h11, ha11, hk11, f11⟩ := h11
          have ER11 : Hid (.ok [⟨2, 0, ⟨#[]⟩, ms, 0, bk, 0, [], false, 0⟩] r11 = R) := by
            have := ER10.out
            rw [hsp, bind_ok] at this
            exact this
          have HN11 := hid (HN10.out.step h11 f11)
          have HA11 := hid ha11
          have y5 := (NAt.cells HN11.out).2.2.2.2.2.1
          have z5 := free_row HN11.out.row 5
          have HN12 := hid (HN11.out.back bk)
          clear hsp h11 f11 ER10 ha11 HN10
          go_upto_region 7 with fail
          obtain ⟨n0, n1, n2, n3, n4, n5, n6, n7, n8, n9⟩ := NAt.cells HN12.out
          simp only [slV] at n3 n7
          have HTL := hid (f_tellN HN12.out hl)
          unfold ndA slV at HTL
          go_wp2_with fail
          refine HTL.out.mono ?_
          rintro e w20 ⟨rfl, v20, h20, a20⟩
          have H20 := hid h20
          have A20 := hid a20
          clear h20 a20 HTL n0 n1 n2 n3 n4 n5 n6 n7 n8 n9
          go_wp2
          go_end0
          rw [← ER11.out]
          exact ⟨rfl, v20, k11, [_], H20.out, rfl, HA11.out, by have := HK1.out; omega, A20.out⟩
      · have HN10 := hid (HN2.out.grown g10)
        have ER10 : Hid (.ok [⟨2, 0, ⟨#[]⟩, ms, 0, 0, 0, [], false, 0⟩] r = R) := by
          have := ER2.out
          rw [back_no hb, bind_ok] at this
          exact this
        clear hb g10 ER2
        go_upto_region 7 with fail
        obtain ⟨n0, n1, n2, n3, n4, n5, n6, n7, n8, n9⟩ := NAt.cells HN10.out
        simp only [slV] at n3 n7
        have HTL := hid (f_tellN HN10.out hl)
        unfold ndA slV at HTL
        go_wp2_with fail
        refine HTL.out.mono ?_
        rintro e w20 ⟨rfl, v20, h20, a20⟩
        have H20 := hid h20
        have A20 := hid a20
        clear h20 a20 HTL n0 n1 n2 n3 n4 n5 n6 n7 n8 n9
        go_wp2
        go_end0
        rw [← ER10.out]
        exact ⟨rfl, v20, k1, [_], H20.out, rfl, HA1.out, by have := HK1.out; omega, A20.out⟩
end Go.Proofs.Ytnimdngiejcljaa
