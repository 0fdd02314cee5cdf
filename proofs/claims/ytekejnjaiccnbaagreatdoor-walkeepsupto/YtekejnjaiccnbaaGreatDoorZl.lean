/- WalKeeps: the walk. -/
import Derived.Test.YtekejnjaiccnbaaGreatDoorNh
import Derived.Test.YtekejnjaiccnbaaGreatDoorYf
namespace Go.Proofs.YtekejnjaiccnbaaGreatDoor
open Go.RowKit Go.Maps Go.Sort
set_option linter.unusedVariables false
set_option maxRecDepth 20000

set_option maxHeartbeats 16000000 in
theorem w_keeps (a : Option Addr) (ts : List Sl) (recs : List (List Int)) (N c : Nat) (oa : Option Addr) (syncs : List Bool) (M oc : Nat) (writes keep : Int) (w : World) (ht : Tab w) (hr : RecsIn w a ts recs) (hN : recs.length = N) (hN4 : N ≤ 1048573) (ho : SRd blE w oa syncs) (hM : syncs.length = M) (hkp : -9223372036854775808 ≤ keep ∧ keep ≤ 9223372036854775807) :
    Calls Tryz.prog 4 #[.slice a N c, .slice oa M oc, .int .i64 writes, .int .i64 keep] w fun e w' => e = .returned (.bool true) ∧ w.grownBy w' none := by
  have HT : Hid (Tab w) := ht
  have HR : Hid (RecsIn w a ts recs) := hr
  have HO : Hid (SRd blE w oa syncs) := ho
  have HN : Hid (recs.length = N) := hN
  have HM : Hid (syncs.length = M) := hM
  have HKP : Hid (-9223372036854775808 ≤ keep ∧ keep ≤ 9223372036854775807) := hkp
  clear ht hr ho hN hM hkp
  go_enter Tryz.func4, Tryz.ntmps4
  go_wp2_with fail
  refine (v_new w).mono ?_
  rintro e w1 ⟨d, mb, B0, rfl, hd1, hg1, hl1⟩
  have hDe1 : De w w1 d mb 0 x0 dirX none [] (fun k => B0 k ∧ k < w1.heap.size) := ⟨DS.bound hd1, log0 dirX, x0_calm, hg1, fun k hk => hl1 k hk.1, fun k hk => hk.2, HT.out⟩
  have HO1 := s_open hDe1 dirX_ok (by decide) (by decide) (by decide)
  clear hd1 hg1 hl1 hDe1
  go_wp2_with fail
  refine HO1.mono ?_
  rintro e w2 ⟨p, v0, m0, lo0, A0, rfl, hSe2, hro2, _, _, _⟩
  have HSE2 : Hid (Se w w2 d mb 0 x0 p dirX none [] A0 (fun k => B0 k ∧ k < w1.heap.size)) := hSe2
  obtain ⟨ts2, _, _, _, hnil2⟩ := hro2
  rw [hnil2 rfl]
  clear HO1 hSe2 hnil2
  go_wp2_with fail
  refine (Low_any writes w2).mono ?_
  rintro e _ ⟨r, rfl, hr0, hr1, rfl⟩
  have hk : 0 ≤ r % (2 * (N : Int) + 2) ∧ r % (2 * (N : Int) + 2) ≤ 9223372036854775807 := by
    have h1 := Int.emod_nonneg r (show (2 : Int) * (N : Int) + 2 ≠ 0 by omega)
    have h2 := Int.emod_lt_of_pos r (show (0 : Int) < 2 * (N : Int) + 2 by omega)
    omega
  have HAR := se_arm HSE2.out w2 (World.grownBy.refl _ _) (r % (2 * (N : Int) + 2)) keep hk HKP.out
  go_wp2_with fail
  refine HAR.mono ?_
  rintro e w3 ⟨rfl, hku⟩
  have HKU : Hid (KuAt w w3 d mb 0 (3 * (0 : Nat)) p (none, 0, 0) 0 [] []) := hku
  clear HAR hku hk hr0 hr1
  go_wp2_with fail
  go_loopw [13, 14, 15] (fun t13 t14 t15 wr => ∃ (i : Nat) (v : Sl) (safe : Nat) (rs : List (List Int)), i ≤ N ∧ t13 = .slice v.1 v.2.1 v.2.2 ∧ t14 = .int .i64 safe ∧ t15 = .int .i64 i ∧ (KuAt w wr d mb i (3 * (i : Int)) p v safe rs rs ∨ KoAt w wr d mb (i + 1) (3 * (i : Int)) v safe rs)) (fun _ _ t15 _ => N - (intOf t15).toNat)
  case atStart => exact ⟨0, (none, 0, 0), 0, [], Nat.zero_le _, rfl, rfl, rfl, .inl HKU.out⟩
  case round =>
    obtain ⟨i, v, safe, rs, hi, rfl, rfl, rfl, hst⟩ := hrel
    have HRN : Hid (∀ R mm : Nat, R ≤ rs.length → mm = (rs.take R).length → mm ≤ 1048576) := by
      intro R mm h1 h2
      have h3 : rs.length ≤ i + 1 := by
        rcases hst with ⟨_, _, _, _, _, _, _, _, _, _, _, _, _, _, _, h, _⟩ | ⟨_, _, _, _, _, _, _, _, _, _, _, _, _, h, _⟩
        · exact Nat.le_succ_of_le h
        · exact h
      rw [h2, List.length_take]
      omega
    have HOFF : Hid (Calls Tryz.prog 20 #[.pointer (some ⟨d, 0, none⟩), .int .i64 keep] wr fun e w' => e = .returned (.tuple #[]) ∧ KoAt w w' d mb (i + 1) (3 * (i : Int)) v safe rs) := by
      rcases hst with h | h
      · refine (ku_off h keep HKP.out).mono ?_
        rintro e w' ⟨rfl, h'⟩
        exact ⟨rfl, h'.more (by omega) (by omega)⟩
      · exact ko_off h keep HKP.out
    by_cases hlt : i < N
    · have hii : (i : Int) < (N : Int) := by omega
      rcases hst with hku | hko
      · have HW : Hid (KuAt w wr d mb i (3 * (i : Int)) p v safe rs rs) := hku
        have hup := ku_up hku
        obtain ⟨b1, o1, t, r, rfl, hcl, hri, hl, hrd, hnil, hlen⟩ := HR.out.get (i := i) (by rw [HN.out]; exact hlt)
        obtain ⟨ta, tn, tc⟩ := t
        dsimp only at hcl hl hrd hnil
        have c1 := hcl wr hku.from_
        have HCL : Hid (∀ w', w.grownBy w' none → w'.cell? ⟨b1, o1 + i, none⟩ = some (.slice ta tn tc)) := hcl
        have HRD : Hid (Rd w ta r) := hrd
        have HL : Hid (tn = r.length) := hl
        have HNIL : Hid (ta = none → tc = 0) := hnil
        clear hri hnil hrd hcl hku HOFF
        go_wp2_with fail
        refine hup.mono ?_
        rintro e _ ⟨rfl, rfl⟩
        clear hup
        by_cases hbig : 65536 < tn
        · have hbb : (65536 : Int) < (tn : Int) := by omega
          clear hl
          go_wp2
          go_roundw
          case rel => exact ⟨i + 1, v, safe, rs, by omega, rfl, rfl, by go_num, .inl (HW.out.more (by omega) (by omega))⟩
          case measure => simp [intOf]; omega
        · have hbb : ¬ (65536 : Int) < (tn : Int) := by omega
          obtain ⟨n4, x4, Ls4, A4, B4, tt, k1, k2, k3, k4, k5, k6, k7, k8, k9, k10, k11⟩ := HW.out
          have hrsl : rs.length ≤ i := k10
          obtain ⟨va, K, vc⟩ := v
          obtain ⟨_, _, e2⟩ := sownSl k4
          have eK : K = rs.length := by unfold slV at e2; injection e2
          have hK : K ≤ i := by omega
          have EK : Hid (K = rs.length) := eK
          have hg4 : wr.grownBy (wr.alloc (.cells #[.slice ta tn tc] 27)) none := World.grownBy_alloc _ _ none
          have HSO : Hid (SOwn slE 27 (wr.alloc (.cells #[.slice ta tn tc] 27)) w.heap.size (.slice va K vc) K tt) := by
            show SOwn _ _ _ _ _ _ _
            have := SOwn.kept (row := none) k4 hg4 (own_none _)
            rw [← eK] at this
            exact this
          have HLIT : Hid (SRd slE (wr.alloc (.cells #[.slice ta tn tc] 27)) (some ⟨wr.heap.size, 0, none⟩) [(ta, tn, tc)]) := sllit wr [(ta, tn, tc)]
          have hbase : w.heap.size ≤ (wr.alloc (.cells #[.slice ta tn tc] 27)).heap.size := Nat.le_trans k1.from_.size hg4.size
          have HW4 : Hid (KuAt w (wr.alloc (.cells #[.slice ta tn tc] 27)) d mb i (3 * (i : Int)) p (va, K, vc) safe rs rs) := HW.out.grown hg4
          have HTO : Hid (ToldIn w tt rs) := k3
          have HSTEP : Hid (∀ (g5 c5 : Nat) (w5 : World), SOwn slE 27 w5 w.heap.size (.slice (some ⟨g5, 0, none⟩) (K + 1) c5) (K + 1) (tt ++ [(ta, tn, tc)]) → (wr.alloc (.cells #[.slice ta tn tc] 27)).grownBy w5 (Value.ownBlock (.slice va K vc)) → (Value.ownBlock (.slice va K vc) = some g5 ∨ g5 = (wr.alloc (.cells #[.slice ta tn tc] 27)).heap.size) → KuAt w w5 d mb i (3 * (i : Int)) p (some ⟨g5, 0, none⟩, K + 1, c5) safe rs (rs ++ [r])) := fun g5 c5 w5 ho5 hg5 hgg5 =>
            HW4.out.told (v' := (some ⟨g5, 0, none⟩, K + 1, c5)) HTO.out (by rw [← eK]; exact ho5) hg5 (fun k hk => by
              have e : g5 = k := Option.some.inj hk
              subst e
              rcases hgg5 with h | h
              · exact .inr h
              · exact .inl (Nat.le_of_eq h.symm)) HL.out HRD.out (by omega)
          clear k1 k2 k3 k4 k5 k6 k7 k8 k9 k10 k11 hg4 eK hrsl e2 hl HW
          go_wp2_with (at_builtin; refine wpList_append_t slET rfl (.tmp 61) (.tmp 66) rfl w.heap.size (.slice va K vc) K tt rfl HSO.out ⟨wr.heap.size, 0, none⟩ [(ta, tn, tc)] 1 1 rfl rfl HLIT.out (by decide) (by omega) (by unfold maxLen; omega) hbase ?_; intro g5 c5 w5 ho5 hg5 hgg5; have HW5 : Hid (KuAt w w5 d mb i (3 * (i : Int)) p (some ⟨g5, 0, none⟩, K + 1, c5) safe rs (rs ++ [r])) := HSTEP.out g5 c5 w5 ho5 hg5 hgg5; clear ho5 hg5 hgg5; have c5' : w5.cell? ⟨b1, o1 + i, none⟩ = some (.slice ta tn tc) := HCL.out w5 HW5.out.from_)
          have HC : Hid (Calls Tryz.prog 18 #[.slice ta tn tc] w5 fun e w' => ∃ g c, e = .returned (.slice (some ⟨g, 0, none⟩) tn c) ∧ Own w' w5.heap.size g tn c r ∧ w5.grownBy w' none) := by
            show Calls _ _ _ _ _
            rw [HL.out]
            exact copy_any ta r tc w5 (HRD.out.grown HW5.out.from_ (by simp)) HNIL.out (by have := HL.out; omega)
          refine HC.out.mono ?_
          rintro e w6 ⟨g6, c6, rfl, hown6, hg6⟩
          have HA : Hid (Calls Tryz.prog 17 #[.pointer (some ⟨p, 0, none⟩), .slice (some ⟨g6, 0, none⟩) tn c6] w6 fun e w' => (e = .returned (.int .i64 0) ∧ KuAt w w' d mb (i + 1) (3 * (i : Int) + 2) p (some ⟨g5, 0, none⟩, K + 1, c5) safe (rs ++ [r]) (rs ++ [r])) ∨ (e = .returned (.int .i64 60) ∧ KoAt w w' d mb (i + 1) (3 * (i : Int) + 2) (some ⟨g5, 0, none⟩, K + 1, c5) safe (rs ++ [r]))) := ku_append (some ⟨g6, 0, none⟩) r tn c6 (HW5.out.grown hg6) hown6.rd HL.out.symm (by simp) (by omega) (by omega) (by omega)
          clear hown6 hg6 HC HSTEP HSO HLIT HW4 hbase c1 c5'
          go_wp2_with fail
          refine HA.out.mono ?_
          rintro e w7 (⟨rfl, h7⟩ | ⟨rfl, h7⟩)
          · have HW7 : Hid (KuAt w w7 d mb (i + 1) (3 * (i : Int) + 2) p (some ⟨g5, 0, none⟩, K + 1, c5) safe (rs ++ [r]) (rs ++ [r])) := h7
            clear h7 HA HW5
            by_cases hMi : i < M
            · have hmm : (i : Int) < (M : Int) := by omega
              obtain ⟨b8, o8, bx, rfl, hbx⟩ := bools_get HO.out (i := i) (by rw [HM.out]; exact hMi)
              have hcb := hbx w7 HW7.out.from_
              clear hbx
              cases bx with
              | false =>
                go_wp2
                go_roundw
                case rel => exact ⟨i + 1, _, safe, _, by omega, rfl, rfl, by go_num, .inl (HW7.out.more (by omega) (by omega))⟩
                case measure => simp [intOf]; omega
              | true =>
                have hsy := ku_sync HW7.out (by omega) (by omega)
                go_wp2_with fail
                refine hsy.mono ?_
                rintro e w8 (⟨rfl, h8⟩ | ⟨rfl, h8⟩)
                · have eL : (rs ++ [r]).length = K + 1 := by rw [List.length_append, ← EK.out]; rfl
                  rw [eL] at h8
                  have HW8 : Hid (KuAt w w8 d mb (i + 1) (3 * (i : Int) + 2 + 1) p (some ⟨g5, 0, none⟩, K + 1, c5) (K + 1) (rs ++ [r]) (rs ++ [r])) := h8
                  clear h8 hsy HW7 eL
                  go_wp2
                  go_roundw
                  case rel => exact ⟨i + 1, _, K + 1, _, by omega, rfl, by go_num, by go_num, .inl (HW8.out.more (by omega) (by omega))⟩
                  case measure => simp [intOf]; omega
                · have HW8 : Hid (KoAt w w8 d mb (i + 1 + 1) (3 * (i : Int) + 2 + 1) (some ⟨g5, 0, none⟩, K + 1, c5) safe (rs ++ [r])) := h8
                  clear h8 hsy HW7
                  go_wp2
                  go_roundw
                  case rel => exact ⟨i + 1, _, safe, _, by omega, rfl, rfl, by go_num, .inr (HW8.out.more (by omega) (by omega))⟩
                  case measure => simp [intOf]; omega
            · have hmm : ¬ (i : Int) < (M : Int) := by omega
              go_wp2
              go_roundw
              case rel => exact ⟨i + 1, _, safe, _, by omega, rfl, rfl, by go_num, .inl (HW7.out.more (by omega) (by omega))⟩
              case measure => simp [intOf]; omega
          · have HW7 : Hid (KoAt w w7 d mb (i + 1) (3 * (i : Int) + 2) (some ⟨g5, 0, none⟩, K + 1, c5) safe (rs ++ [r])) := h7
            clear h7 HA HW5
            go_wp2
            go_roundw
            case rel => exact ⟨i + 1, _, safe, _, by omega, rfl, rfl, by go_num, .inr (HW7.out.more (by omega) (by omega))⟩
            case measure => simp [intOf]; omega
      · have hup := ko_up hko
        clear hko
        go_wp2_with fail
        refine hup.mono ?_
        rintro e _ ⟨rfl, rfl⟩
        clear hup
        go_wp2_with fail
        refine HOFF.out.mono ?_
        rintro e wa ⟨rfl, hko⟩
        have hon := ko_on hko (by omega)
        clear hko HOFF
        go_wp2_with fail
        refine hon.mono ?_
        rintro e wb ⟨rfl, hkn⟩
        have hop := kn_open hkn (by omega) (by omega)
        clear hon hkn
        go_wp2_with fail
        refine hop.mono ?_
        rintro e wc ⟨p', v', mm, lo, R, n', x', LL, B', tt, rfl, hDe, hro, hrec, hs1, hs2, hn', hLL, hto, hso⟩
        have hlenR : ∀ r ∈ rs.take R, r.length ≤ 65536 := by
          intro r hr
          rw [← hrec] at hr
          simp only [recsOf, List.mem_flatMap] at hr
          obtain ⟨q, hq, hr⟩ := hr
          exact (hDe.log.whole q hq).2.1 r hr
        have HREC : Hid (cpRecs none ++ recsOf LL = rs.take R) := hrec
        have HLEN : Hid (∀ r ∈ rs.take R, r.length ≤ 65536) := hlenR
        obtain ⟨tsr, hRr, hlr⟩ := hro.reads hlenR
        obtain ⟨v1, v2, v3⟩ := v'
        have hlr' : R = v2 := by rw [List.length_take] at hlr; dsimp only at hlr; omega
        subst hlr'
        have HRr : Hid (Reads wc v1 tsr (rs.take R)) := hRr.1
        have HTO : Hid (ToldIn w tt rs) := hto
        have HSO : Hid (SOwn slE 27 wc w.heap.size (slV v) rs.length tt) := hso
        have hN0 : (rs.take R).length = R := by rw [List.length_take]; omega
        have hRN : R ≤ 1048576 := by rw [← hN0, ← HREC.out]; have := hro; obtain ⟨_, _, _, h3, _⟩ := this; rw [HREC.out, ← h3]; exact HRN.out R mm hs2 h3
        have hop2 := s_open hDe dirX_ok (by omega) (by rw [HREC.out, hN0]; omega) (by omega)
        have HS1 : Hid (safe ≤ R ∧ R ≤ rs.length) := ⟨hs1, hs2⟩
        have HF3 : Hid (w.grownBy wc none) := hDe.from_
        clear hop hDe hro hrec hlenR hRr hlr hto hso hs1 hs2
        go_wp2_with fail
        refine hop2.mono ?_
        rintro e wd ⟨pd, vd, md, lod, Ad, rfl, hSed, hrod, hgd, _, _⟩
        rw [HREC.out] at hrod
        obtain ⟨tsd, hRd, hld⟩ := hrod.reads HLEN.out
        obtain ⟨u1, u2, u3⟩ := vd
        have hld' : R = u2 := by rw [hN0] at hld; exact hld
        subst hld'
        have HRd : Hid (Reads wd u1 tsd (rs.take R)) := hRd.1
        have HFd : Hid (w.grownBy wd none) := hSed.from_
        obtain ⟨htr, hvn, hRc, hcm⟩ := told_reads HTO.out (SOwn.kept (row := none) HSO.out hgd (own_none _)) HFd.out HS1.out.2
        obtain ⟨va, K, vc⟩ := v
        dsimp only at htr hvn hRc hcm
        have hq1 := l_same v1 va tsr (tt.take R) (rs.take R) R v3 vc wd (HRr.out.grown hgd) htr hN0 (by omega)
        have HRr2 : Hid (Reads wd v1 tsr (rs.take R)) := HRr.out.grown hgd
        have hsl : ∀ W : World, (Instr.slice 28 (.slice va K vc) none (some (.int .i64 (R : Int))) none).run Tryz.prog W = .ok (.slice va R vc) W := fun W => head28n W va K vc R hRc hcm
        have y1 : (safe : Int) ≤ (R : Int) := by have := HS1.out.1; omega
        have y2 : (R : Int) ≤ (K : Int) := by have := HS1.out.2; omega
        clear hop2 hSed hrod hRd hld hgd htr hvn hRc hcm HRr
        unfold slV
        go_wp2_with fail
        refine hq1.mono ?_
        rintro e we ⟨rfl, hge⟩
        have HFe : Hid (w.grownBy we none) := HFd.out.trans hge
        have hq2 := l_same u1 v1 tsd tsr (rs.take R) R u3 v3 we (HRd.out.grown hge) (HRr2.out.grown hge) hN0 (by omega)
        clear hq1 hge
        go_wp2_with fail
        refine hq2.mono ?_
        rintro e wf ⟨rfl, hgf⟩
        have HFf : Hid (w.grownBy wf none) := HFe.out.trans hgf
        have haw := w_awake wf (HT.out.grown HFf.out)
        clear hq2 hgf
        go_wp2_with fail
        refine haw.mono ?_
        rintro e wg ⟨rfl, hgg⟩
        have HFg : Hid (w.grownBy wg none) := HFf.out.trans hgg
        clear haw hgg
        go_wp2
        go_ret
        exact ⟨rfl, HFg.out⟩
    · have hii : ¬ (i : Int) < (N : Int) := by omega
      clear hst
      go_wp2_with fail
      refine HOFF.out.mono ?_
      rintro e wa ⟨rfl, hko⟩
      have hon := ko_on hko (by omega)
      clear hko HOFF
      go_wp2_with fail
      refine hon.mono ?_
      rintro e wb ⟨rfl, hkn⟩
      have hop := kn_open hkn (by omega) (by omega)
      clear hon hkn
      go_wp2_with fail
      refine hop.mono ?_
      rintro e wc ⟨p', v', mm, lo, R, n', x', LL, B', tt, rfl, hDe, hro, hrec, hs1, hs2, hn', hLL, hto, hso⟩
      have hlenR : ∀ r ∈ rs.take R, r.length ≤ 65536 := by
        intro r hr
        rw [← hrec] at hr
        simp only [recsOf, List.mem_flatMap] at hr
        obtain ⟨q, hq, hr⟩ := hr
        exact (hDe.log.whole q hq).2.1 r hr
      have HREC : Hid (cpRecs none ++ recsOf LL = rs.take R) := hrec
      have HLEN : Hid (∀ r ∈ rs.take R, r.length ≤ 65536) := hlenR
      obtain ⟨tsr, hRr, hlr⟩ := hro.reads hlenR
      obtain ⟨v1, v2, v3⟩ := v'
      have hlr' : R = v2 := by rw [List.length_take] at hlr; dsimp only at hlr; omega
      subst hlr'
      have HRr : Hid (Reads wc v1 tsr (rs.take R)) := hRr.1
      have HTO : Hid (ToldIn w tt rs) := hto
      have HSO : Hid (SOwn slE 27 wc w.heap.size (slV v) rs.length tt) := hso
      have hN0 : (rs.take R).length = R := by rw [List.length_take]; omega
      have hRN : R ≤ 1048576 := by rw [← hN0, ← HREC.out]; have := hro; obtain ⟨_, _, _, h3, _⟩ := this; rw [HREC.out, ← h3]; exact HRN.out R mm hs2 h3
      have hop2 := s_open hDe dirX_ok (by omega) (by rw [HREC.out, hN0]; omega) (by omega)
      have HS1 : Hid (safe ≤ R ∧ R ≤ rs.length) := ⟨hs1, hs2⟩
      have HF3 : Hid (w.grownBy wc none) := hDe.from_
      clear hop hDe hro hrec hlenR hRr hlr hto hso hs1 hs2
      go_wp2_with fail
      refine hop2.mono ?_
      rintro e wd ⟨pd, vd, md, lod, Ad, rfl, hSed, hrod, hgd, _, _⟩
      rw [HREC.out] at hrod
      obtain ⟨tsd, hRd, hld⟩ := hrod.reads HLEN.out
      obtain ⟨u1, u2, u3⟩ := vd
      have hld' : R = u2 := by rw [hN0] at hld; exact hld
      subst hld'
      have HRd : Hid (Reads wd u1 tsd (rs.take R)) := hRd.1
      have HFd : Hid (w.grownBy wd none) := hSed.from_
      obtain ⟨htr, hvn, hRc, hcm⟩ := told_reads HTO.out (SOwn.kept (row := none) HSO.out hgd (own_none _)) HFd.out HS1.out.2
      obtain ⟨va, K, vc⟩ := v
      dsimp only at htr hvn hRc hcm
      have hq1 := l_same v1 va tsr (tt.take R) (rs.take R) R v3 vc wd (HRr.out.grown hgd) htr hN0 (by omega)
      have HRr2 : Hid (Reads wd v1 tsr (rs.take R)) := HRr.out.grown hgd
      have hsl : ∀ W : World, (Instr.slice 28 (.slice va K vc) none (some (.int .i64 (R : Int))) none).run Tryz.prog W = .ok (.slice va R vc) W := fun W => head28n W va K vc R hRc hcm
      have y1 : (safe : Int) ≤ (R : Int) := by have := HS1.out.1; omega
      have y2 : (R : Int) ≤ (K : Int) := by have := HS1.out.2; omega
      clear hop2 hSed hrod hRd hld hgd htr hvn hRc hcm HRr
      unfold slV
      go_wp2_with fail
      refine hq1.mono ?_
      rintro e we ⟨rfl, hge⟩
      have HFe : Hid (w.grownBy we none) := HFd.out.trans hge
      have hq2 := l_same u1 v1 tsd tsr (rs.take R) R u3 v3 we (HRd.out.grown hge) (HRr2.out.grown hge) hN0 (by omega)
      clear hq1 hge
      go_wp2_with fail
      refine hq2.mono ?_
      rintro e wf ⟨rfl, hgf⟩
      have HFf : Hid (w.grownBy wf none) := HFe.out.trans hgf
      have haw := w_awake wf (HT.out.grown HFf.out)
      clear hq2 hgf
      go_wp2_with fail
      refine haw.mono ?_
      rintro e wg ⟨rfl, hgg⟩
      have HFg : Hid (w.grownBy wg none) := HFf.out.trans hgg
      clear haw hgg
      go_wp2
      go_ret
      exact ⟨rfl, HFg.out⟩
end Go.Proofs.YtekejnjaiccnbaaGreatDoor
