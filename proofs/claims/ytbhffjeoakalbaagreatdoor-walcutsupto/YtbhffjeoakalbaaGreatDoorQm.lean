/- WalCuts: the walk. -/
import Derived.Test.YtbhffjeoakalbaaGreatDoorNo
namespace Go.Proofs.YtbhffjeoakalbaaGreatDoor
open Go.RowKit Go.Maps Go.Sort
set_option linter.unusedVariables false
set_option maxRecDepth 20000

theorem wpList_append_g {α : Type} {E : Elem α} {P : Program} {t e : TypeId} {bytes : Nat} (T : ElemOf E P t e bytes) {w : World} {ops : Array Oper} {rest : List Oper} {o : Oper} {a : Act} {Q : Exit → Act → World → Prop} (hw : Region.wanted o (yielded ops a.tmps) = true) (s x : Operand)
    (ho : o.op = .call { callee := .builtin .append, args := #[s, x], argTypes := #[t, t] }) (base : Nat) (v : Value) (n : Nat) (xs : List α) (hs : a.eval s = v) (hown : SOwn E e w base v n xs)
    (ad : Addr) (zs : List α) (m cap : Nat) (hx : a.eval x = .slice (some ad) m cap) (hm : zs.length = m) (hr : SRd E w (some ad) zs) (hm0 : 0 < m) (hlen : (n + m) * bytes ≤ 140737488355328) (hmax : n + m ≤ maxLen) (hb : base ≤ w.heap.size)
    (h : ∀ g c w', SOwn E e w' base (.slice (some ⟨g, 0, none⟩) (n + m) c) (n + m) (xs ++ zs) → w.grownBy w' v.ownBlock → (v.ownBlock = some g ∨ g = w.heap.size) → wpList P ops Q rest (a.put o.dst (.slice (some ⟨g, 0, none⟩) (n + m) c)) w') : wpList P ops Q (o :: rest) a w := by
  obtain ⟨i0, z, hi, hz0, hz1, hz2, hz3⟩ := T.info
  subst hm
  show if Region.wanted o (yielded ops a.tmps) then _ else _
  rw [if_pos hw]
  refine .inl (wp_append_lies w s x t ho base e i0 z E.size bytes T.under hi hz0 hz1 hz2 hz3 E.pos _ n (E.flat xs) hs hown ad zs.length cap (E.flat zs) hx (E.flat_len zs) hr.news (E.flat_one zs) hm0 hmax hlen hb w.heap.size rfl ?_)
  intro g c w' hown' hg hgg _
  rw [← E.flat_app] at hown'
  exact h g c w' hown' hg hgg
/-- What the lists take up, by the law's count. -/
def kSum : List (List Int) → Nat
  | [] => 0
  | r :: l => r.length + 10 + kSum l
theorem kSum_app (l : List (List Int)) (r : List Int) : kSum (l ++ [r]) = kSum l + r.length + 10 := by
  induction l with
  | nil => simp [kSum]
  | cons z l ih => simp only [List.cons_append, kSum, ih]; omega
theorem kSum_le : ∀ (l : List (List Int)), (∀ r ∈ l, r.length ≤ 65536) → kSum l ≤ 65546 * l.length
  | [], _ => by simp [kSum]
  | r :: l, h => by
    have h1 := h r (by simp)
    have h2 := kSum_le l (fun z hz => h z (by simp [hz]))
    simp only [kSum, List.length_cons]
    omega
theorem frame_len2 (zs : List Int) (h : zs.length ≤ 65536) : (frameR zs).length ≤ zs.length + 10 := by
  have h1 := enc_len_le 2 zs.length (by omega)
  have h4 : (four (sumR zs)).length = 4 := rfl
  rw [frameR]
  simp only [List.length_append, h4]
  omega
theorem logB_sum : ∀ (l : List (List Int)), (∀ r ∈ l, r.length ≤ 65536) → (logB frameR l).length ≤ kSum l
  | [], _ => by simp [logB, kSum]
  | r :: l, h => by
    have h1 := frame_len2 r (h r (by simp))
    have h2 := logB_sum l (fun z hz => h z (by simp [hz]))
    have e : logB frameR (r :: l) = frameR r ++ logB frameR l := by simp [logB]
    rw [e, List.length_append]
    simp only [kSum]
    omega
theorem RecsLo.innL {w : World} {lo m : Nat} {v : Sl} {R : List (List Int)} (h : RecsLo lo w (slV v) m R) (hlen : ∀ r ∈ R, r.length ≤ 1048576) : ∃ ts, RecsIn w v.1 ts R ∧ R.length = v.2.1 := by
  obtain ⟨ts, k1, k2, k3, k4⟩ := h
  obtain ⟨va, vn, vc⟩ := v
  obtain ⟨_, _, e4⟩ := sownSl k1
  have e5 : vn = m := by unfold slV at e4; injection e4
  subst e5
  refine ⟨ts, ⟨SOwn.rd k1, k2.len, fun j t r ht hr => ?_⟩, k3.symm⟩
  have := k2.get j t r ht hr
  exact ⟨this.1, this.2.2.2.1, this.2.2.1, hlen r (List.mem_of_getElem? hr)⟩
set_option maxHeartbeats 16000000 in
theorem w_cuts (a : Option Addr) (ts : List Sl) (recs : List (List Int)) (N c : Nat) (b : Option Addr) (us : List Sl) (kept : List (List Int)) (M cb : Nat) (writes keep : Int) (w : World) (ht : Tab w) (hr : RecsIn w a ts recs) (hN : recs.length = N) (hk : RecsIn w b us kept) (hM : kept.length = M) (hNM : N + M ≤ 1048572) (hkp : -9223372036854775808 ≤ keep ∧ keep ≤ 9223372036854775807) :
    Calls Tryz.prog 5 #[.slice a N c, .slice b M cb, .int .i64 writes, .int .i64 keep] w fun e w' => e = .returned (.bool true) ∧ w.grownBy w' none := by
  have HT : Hid (Tab w) := ht
  have HR : Hid (RecsIn w a ts recs) := hr
  have HK : Hid (RecsIn w b us kept) := hk
  have HN : Hid (recs.length = N) := hN
  have HM : Hid (kept.length = M) := hM
  have HKP : Hid (-9223372036854775808 ≤ keep ∧ keep ≤ 9223372036854775807) := hkp
  clear ht hr hk hN hM hkp
  go_enter Tryz.func5, Tryz.ntmps5
  go_wp2_with fail
  refine (v_new w).mono ?_
  rintro e w1 ⟨d, mb, B0, rfl, hd1, hg1, hl1⟩
  have hDe1 : De w w1 d mb 0 x0 dirX none [] (fun k => B0 k ∧ k < w1.heap.size) := ⟨DS.bound hd1, log0 dirX, x0_calm, hg1, fun k hk => hl1 k hk.1, fun k hk => hk.2, HT.out⟩
  have HO1 := s_open hDe1 dirX_ok (by decide) (by decide) (by decide)
  clear hd1 hg1 hl1 hDe1
  go_wp2_with fail
  refine HO1.mono ?_
  rintro e w2 ⟨p, v0, m0, lo0, A0, rfl, hSe2, hro2, _, _, _⟩
  obtain ⟨ts2, _, _, _, hnil2⟩ := hro2
  rw [hnil2 rfl]
  have HTW : Hid (TsAt w w2 d mb 0 (3 * (0 : Nat)) p (recs.take 0)) := ⟨0, x0, [], _, _, hSe2, .inl ⟨rfl, rfl⟩, rfl, by omega, by decide, by decide, by decide⟩
  clear HO1 hSe2 hnil2
  go_wp2_with fail
  go_loopw [13] (fun t13 wr => ∃ i : Nat, i ≤ N ∧ t13 = .int .i64 i ∧ TsAt w wr d mb i (3 * (i : Int)) p (recs.take i)) (fun t13 _ => N - (intOf t13).toNat)
  case atStart => exact ⟨0, Nat.zero_le _, rfl, HTW.out⟩
  case round =>
    obtain ⟨i, hi, rfl, htw⟩ := hrel
    have HW : Hid (TsAt w wr d mb i (3 * (i : Int)) p (recs.take i)) := htw
    by_cases hlt : i < N
    · have hii : (i : Int) < (N : Int) := by omega
      obtain ⟨b1, o1, t, r, rfl, hcl, hri, hl, hrd, hnil, hlen⟩ := HR.out.get (i := i) (by rw [HN.out]; exact hlt)
      obtain ⟨ta, tn, tc⟩ := t
      dsimp only at hcl hl hrd hnil
      have c1 := hcl wr htw.from_
      have HRD : Hid (Rd w ta r) := hrd
      have HL : Hid (tn = r.length) := hl
      have HNIL : Hid (ta = none → tc = 0) := hnil
      have HTA : Hid (recs.take (i + 1) = recs.take i ++ [r]) := by show _ = _; rw [List.take_add_one, hri]; rfl
      clear hri hnil hrd hcl
      by_cases hbig : 65536 < tn
      · have hbb : (65536 : Int) < (tn : Int) := by omega
        have haw := w_awake wr (HT.out.grown htw.from_)
        have HF : Hid (w.grownBy wr none) := htw.from_
        clear htw hl
        go_wp2_with fail
        refine haw.mono ?_
        rintro e w6 ⟨rfl, hg6⟩
        have HF6 : Hid (w.grownBy w6 none) := HF.out.trans hg6
        clear haw hg6
        go_wp2
        go_ret
        exact ⟨rfl, HF6.out⟩
      · have hbb : ¬ (65536 : Int) < (tn : Int) := by omega
        have HC : Hid (Calls Tryz.prog 18 #[.slice ta tn tc] wr fun e w' => ∃ g c, e = .returned (.slice (some ⟨g, 0, none⟩) tn c) ∧ Own w' wr.heap.size g tn c r ∧ wr.grownBy w' none) := by
          show Calls _ _ _ _ _
          rw [hl]
          exact copy_any ta r tc wr (HRD.out.grown htw.from_ (by simp)) HNIL.out (by omega)
        clear htw hl
        go_wp2_with fail
        refine HC.out.mono ?_
        rintro e w3 ⟨g3, c3, rfl, hown3, hg3⟩
        have HA : Hid (Calls Tryz.prog 17 #[.pointer (some ⟨p, 0, none⟩), .slice (some ⟨g3, 0, none⟩) tn c3] w3 fun e w' => e = .returned (.int .i64 0) ∧ TsAt w w' d mb (i + 1) (3 * (i : Int) + 2) p (recs.take i ++ [r])) := ts_append (HW.out.grown hg3) (some ⟨g3, 0, none⟩) r tn c3 hown3.rd HL.out.symm (by simp) (by omega) (by omega) (by omega)
        clear hown3 hg3 HC
        go_wp2_with fail
        refine HA.out.mono ?_
        rintro e w4 ⟨rfl, h4⟩
        have HW4 : Hid (TsAt w w4 d mb (i + 1) (3 * ((i + 1 : Nat) : Int)) p (recs.take (i + 1))) := by
          obtain ⟨n, x, Ls, A, B, h1, h2, h6, h7, h8, h9⟩ := h4
          exact ⟨n, x, Ls, A, B, h1, h2, by rw [HTA.out]; exact h6, h7, by omega, h9⟩
        clear h4 HA
        go_wp2
        go_roundw
        case rel => exact ⟨i + 1, by omega, by go_num, HW4.out⟩
        case measure => simp [intOf]; omega
    · have hii : ¬ (i : Int) < (N : Int) := by omega
      have hiN : i = N := by omega
      have HW2 : Hid (TsAt w wr d mb N (3 * (N : Int)) p recs) := by
        rw [hiN, List.take_of_length_le (by rw [HN.out]; omega)] at htw
        exact htw
      clear htw HW
      go_wp2_with fail
      rename World => w0
      have HSR : Hid (∀ r ∈ recs, r.length ≤ 65536) := by
        show ∀ r ∈ _, _
        obtain ⟨n, x, Ls, A, B, h1, _, h2, _⟩ := HW2.out
        rw [← h2]
        exact recs_short h1.log
      go_loopw [14, 15] (fun t14 t15 wr => ∃ j : Nat, j ≤ M ∧ t14 = .int .i64 (kSum (kept.take j) : Int) ∧ t15 = .int .i64 j ∧ w0.grownBy wr none ∧ ∀ r ∈ kept.take j, r.length ≤ 65536) (fun _ t15 _ => M - (intOf t15).toNat)
      case atStart => exact ⟨0, Nat.zero_le _, rfl, rfl, World.grownBy.refl _ _, by simp⟩
      case round =>
        obtain ⟨j, hj, rfl, rfl, hgk, hsm⟩ := hrel
        have HSM : Hid (∀ r ∈ kept.take j, r.length ≤ 65536) := hsm
        have HTk : Hid (TsAt w wr d mb N (3 * (N : Int)) p recs) := HW2.out.grown hgk
        have HGk : Hid (w0.grownBy wr none) := hgk
        have hSle := kSum_le (kept.take j) hsm
        rw [List.length_take] at hSle
        obtain ⟨S, eS⟩ : ∃ S, S = kSum (kept.take j) := ⟨_, rfl⟩
        rw [← eS] at hSle ⊢
        have ES : Hid (S = kSum (kept.take j)) := eS
        have hS7 : (S : Int) ≤ 70000000000 := by omega
        have hS0 : (0 : Int) ≤ (S : Int) := by omega
        clear hgk hsm hSle eS
        by_cases hlt2 : j < M
        · have hjj : (j : Int) < (M : Int) := by omega
          obtain ⟨b2, o2, t, r, eb, hcl, hri, hl, hrd, hnil, hlen⟩ := HK.out.get (i := j) (by rw [HM.out]; exact hlt2)
          have EB : Hid (b = some ⟨b2, o2, none⟩) := eb
          obtain ⟨ta, tn, tc⟩ := t
          dsimp only at hcl hl hrd hnil
          have c2 := hcl wr HTk.out.from_
          have HL : Hid (tn = r.length) := hl
          have HRI : Hid (kept[j]? = some r) := hri
          subst eb
          clear hnil hrd hcl hl hri
          by_cases hbig2 : 65536 < tn
          · have hbb : (65536 : Int) < (tn : Int) := by omega
            have HCL := l_copyLists (some ⟨b2, o2, none⟩) us kept M cb w wr HK.out HTk.out.from_ HM.out (by omega)
            go_wp2_with fail
            refine HCL.mono ?_
            rintro e w4 ⟨v4, rfl, hlo4, hg4⟩
            obtain ⟨ts4, hin4, hl4⟩ := hlo4.innL (fun r hr => by
              obtain ⟨k, hk⟩ := List.mem_iff_getElem?.1 hr
              obtain ⟨_, _, _, r', _, _, h1, _, _, _, h2⟩ := HK.out.get (i := k) (List.getElem?_eq_some_iff.1 hk).1
              rw [hk] at h1
              cases h1
              exact h2)
            obtain ⟨va, vn, vc⟩ := v4
            have hvn : M = vn := HM.out.symm.trans hl4
            subst hvn
            have hcu := w_cutL p va M vc ts4 kept w4 ⟨hin4.rd, hin4.len, hin4.at_⟩ HM.out (by omega) j r HRI.out (by have := HL.out; omega) (fun k z hk hz => HSM.out z (List.mem_iff_getElem?.2 ⟨k, by rw [List.getElem?_take, if_pos hk]; exact hz⟩))
            have HF4 : Hid (w.grownBy w4 none) := HTk.out.from_.trans hg4
            clear HCL hlo4 hg4 hin4 hl4
            unfold slV
            go_wp2_with fail
            refine hcu.mono ?_
            rintro e w5 ⟨rfl, hg5⟩
            have HF5 : Hid (w.grownBy w5 none) := HF4.out.trans hg5
            clear hcu hg5
            have haw := w_awake w5 (HT.out.grown HF5.out)
            have HFx : Hid (w.grownBy w5 none) := HF5.out

            go_wp2_with fail
            refine haw.mono ?_
            rintro e wz ⟨rfl, hgz⟩
            have HFz : Hid (w.grownBy wz none) := HFx.out.trans hgz
            clear haw hgz
            go_wp2
            go_ret
            exact ⟨rfl, HFz.out⟩
          · have hbb : ¬ (65536 : Int) < (tn : Int) := by omega
            have htn : (tn : Int) ≤ 65536 := by omega
            have htn0 : (0 : Int) ≤ (tn : Int) := by omega
            have htk : kept.take (j + 1) = kept.take j ++ [r] := by rw [List.take_add_one, HRI.out]; rfl
            have HKS : Hid (kSum (kept.take (j + 1)) = S + tn + 10) := by show _ = _; rw [htk, kSum_app, ES.out, HL.out]
            have HSM2 : Hid (∀ r ∈ kept.take (j + 1), r.length ≤ 65536) := by
              show ∀ r ∈ _, _
              rw [htk]
              intro z hz
              rcases List.mem_append.1 hz with hz | hz
              · exact HSM.out z hz
              · simp at hz; subst hz; have := HL.out; omega
            clear htk
            go_wp2
            go_roundw
            case rel => exact ⟨j + 1, by omega, by rw [HKS.out]; go_num, by go_num, HGk.out, HSM2.out⟩
            case measure => simp [intOf]; omega
        · have hjj : ¬ (j : Int) < (M : Int) := by omega
          have htk : kept.take j = kept := List.take_of_length_le (by rw [HM.out]; omega)
          have HSK : Hid (∀ r ∈ kept, r.length ≤ 65536) := by have := HSM.out; rw [htk] at this; exact this
          have HSE : Hid (S = kSum kept) := by have := ES.out; rw [htk] at this; exact this
          have HFk : Hid (w.grownBy wr none) := HTk.out.from_
          clear htk
          by_cases hall : 4194304 < S
          · have hal2 : (4194304 : Int) < (S : Int) := by omega
            have haw := w_awake wr (HT.out.grown HFk.out)
            have HFx : Hid (w.grownBy wr none) := HFk.out

            go_wp2_with fail
            refine haw.mono ?_
            rintro e wz ⟨rfl, hgz⟩
            have HFz : Hid (w.grownBy wz none) := HFx.out.trans hgz
            clear haw hgz
            go_wp2
            go_ret
            exact ⟨rfl, HFz.out⟩
          · have hal2 : ¬ (4194304 : Int) < (S : Int) := by omega
            have HLOG : Hid ((logB frameR kept).length ≤ 4194304) := by
              show _ ≤ _
              have h1 := logB_sum kept HSK.out
              rw [← HSE.out] at h1
              omega
            have hsy := ts_sync HTk.out (by omega) (by omega)
            go_wp2_with fail
            refine hsy.mono ?_
            rintro e w5 ⟨rfl, h5⟩
            have H5 : Hid (CsAt w w5 d mb N (3 * (N : Int) + 1) p recs) := h5
            clear hsy h5
            go_wp2_with fail
            refine (Low_any writes w5).mono ?_
            rintro e _ ⟨r, rfl, hr0, hr1, rfl⟩
            have hk12 : 0 ≤ r % 12 ∧ r % 12 ≤ 9223372036854775807 := by omega
            have har := cs_arm H5.out (r % 12) keep hk12 HKP.out
            go_wp2_with fail
            refine har.mono ?_
            rintro e w6 ⟨rfl, h6⟩
            have H6 : Hid (CaAt w w6 d mb N (3 * (N : Int) + 1) p recs) := h6
            have HCL := l_copyLists b us kept M cb w w6 HK.out h6.from_ HM.out (by omega)
            clear har h6 hk12 hr0 hr1
            go_wp2_with fail
            refine HCL.mono ?_
            rintro e w7 ⟨v7, rfl, hlo7, hg7⟩
            obtain ⟨ts7, hk7⟩ := hlo7.keep HSK.out
            obtain ⟨_, _, hl7⟩ := hlo7.inn HSK.out
            obtain ⟨va, vn, vc⟩ := v7
            have hvn : M = vn := HM.out.symm.trans hl7
            subst hvn
            have hcu := ca_cut (H6.out.grown hg7) va M vc ts7 kept hk7 HM.out (by omega) HLOG.out HSK.out (by omega) (by omega)
            clear HCL hlo7 hg7 hk7 hl7
            unfold slV
            go_wp2_with fail
            refine hcu.mono ?_
            rintro e w8 (⟨rfl, h8⟩ | ⟨rfl, h8⟩)
            · have H8 : Hid (CdAt w w8 d mb N (3 * (N : Int) + 1) true recs kept) := h8
              have hup := cd_up h8
              clear hcu h8
              go_wp2_with fail
              refine hup.mono ?_
              rintro e _ ⟨rfl, rfl⟩
              have hof := cd_off H8.out keep HKP.out
              clear hup
              go_wp2_with fail
              refine hof.mono ?_
              rintro e w9 ⟨rfl, h9⟩
              have hon := cf_on h9 (by omega) (by omega)
              clear hof h9
              go_wp2_with fail
              refine hon.mono ?_
              rintro e wa ⟨rfl, ha⟩
              have hop := cn_open ha (by omega) (by omega) (by rw [HN.out]; omega) (by rw [HM.out]; omega)
              clear hon ha
              go_wp2_with fail
              refine hop.mono ?_
              rintro e wb ⟨pb, vb, mm, lo, RR, rfl, hVo, hro, hR, hlo⟩
              have HVO : Hid (VoAt w wb d mb pb RR lo) := hVo
              have HFwb : Hid (w.grownBy wb none) := hVo.from_
              have HGwb : Hid (wb.grownBy wb none) := World.grownBy.refl _ _
              have HLR : Hid (∀ r ∈ RR, r.length ≤ 65536) := by
                show ∀ r ∈ _, _
                rcases hR with e | ⟨_, e⟩
                · rw [e]; exact HSK.out
                · rw [e]; exact HSR.out
              obtain ⟨tsR, hRd, hlR⟩ := hro.inn HLR.out
              obtain ⟨v1, NR, v3⟩ := vb
              have HNR : Hid (RR.length = NR) := hlR
              have hNR : NR ≤ 1048576 := by
                rw [← HNR.out]
                rcases hR with e | ⟨_, e⟩
                · rw [e, HM.out]; omega
                · rw [e, HN.out]; omega
              have HRR : Hid (RecsIn wb v1 tsR RR) := hRd
              have HRO : Hid (RecsLo lo wb (slV (v1, NR, v3)) mm RR) := hro
              clear hop hVo hro hRd hlR
              unfold slV
              have HRE : Hid (RR = kept) := hR.elim id (fun h => by cases h.1)
              clear hR
              have hqwq := l_sameLists v1 b tsR us RR kept NR M v3 cb wb (HRR.out.reads HGwb.out) (HK.out.reads HFwb.out) HNR.out HM.out (by omega)
              rw [decide_eq_true HRE.out] at hqwq
              go_wp2_with fail
              refine hqwq.mono ?_
              rintro e wq ⟨rfl, hgwq⟩
              have HGwq : Hid (wb.grownBy wq none) := HGwb.out.trans hgwq
              have HFwq : Hid (w.grownBy wq none) := HFwb.out.trans hgwq
              clear hqwq hgwq
              have hqws := l_sameLists v1 b tsR us RR kept NR M v3 cb wq (HRR.out.reads HGwq.out) (HK.out.reads HFwq.out) HNR.out HM.out (by omega)
              rw [decide_eq_true HRE.out] at hqws
              go_wp2_with fail
              refine hqws.mono ?_
              rintro e ws ⟨rfl, hgws⟩
              have HGws : Hid (wb.grownBy ws none) := HGwq.out.trans hgws
              have HFws : Hid (w.grownBy ws none) := HFwq.out.trans hgws
              clear hqws hgws
              have hg9 : ws.grownBy (ws.alloc (.cells #[.int .u8 9] 5)) none := World.grownBy_alloc _ _ none
              have hrd9 : Rd (ws.alloc (.cells #[.int .u8 9] 5)) (some ⟨ws.heap.size, 0, none⟩) [9] := srd_rd (SOwn.rd (lit_own ws 9 (by decide))) (fun y hy => by simp at hy; subst hy; decide)
              have hap := vo_append (HVO.out.grown (HGws.out.trans hg9)) (some ⟨ws.heap.size, 0, none⟩) [9] 1 1 hrd9 rfl (by simp) (by decide)
              have HRO2 : Hid (RecsLo lo (ws.alloc (.cells #[.int .u8 9] 5)) (slV (v1, NR, v3)) mm RR) := HRO.out.keptK (Kept.of (HGws.out.trans hg9) (X := fun _ => False) (fun k hk => by cases hk)) (fun _ _ _ h => h)
              clear hg9 hrd9
              go_wp2_with fail
              refine hap.mono ?_
              rintro e wd ⟨rfl, hvp, hkd⟩
              have HKD : Hid (Kept (ws.alloc (.cells #[.int .u8 9] 5)) wd (fun k => k < lo)) := hkd
              have hsy2 := vp_sync hvp
              clear hap hvp hkd
              go_wp2_with fail
              refine hsy2.mono ?_
              rintro e we ⟨rfl, hvd, hke⟩
              have HRO3 : Hid (RecsLo lo we (slV (v1, NR, v3)) mm RR) := HRO2.out.keptK (HKD.out.trans hke (fun k hk hx => hx.elim id (fun h => by omega))) (fun k h1 _ h2 => by omega)
              have hop2 := vd_open hvd (by rw [List.length_append, HNR.out]; show NR + 1 ≤ _; omega)
              clear hsy2 hvd hke
              go_wp2_with fail
              refine hop2.mono ?_
              rintro e wf ⟨pf, vf, mf, lof, rfl, hrf, hgf, hff⟩
              have HLS : Hid (∀ r ∈ RR ++ [[9]], r.length ≤ 65536) := by
                show ∀ r ∈ _, _
                intro r hr
                rcases List.mem_append.1 hr with hr | hr
                · exact HLR.out r hr
                · simp at hr; subst hr; decide
              obtain ⟨tsf, hRf, hlf⟩ := hrf.inn HLS.out
              obtain ⟨f1, f2, f3⟩ := vf
              have hf2 : NR + 1 = f2 := by have h := hlf; rw [List.length_append, HNR.out] at h; exact h
              subst hf2
              have HRf : Hid (RecsIn wf f1 tsf (RR ++ [[9]])) := hRf
              have HRO4 : Hid (RecsLo lo wf (slV (v1, NR, v3)) mm RR) := HRO3.out.keptK (Kept.of hgf (X := fun _ => False) (fun k hk => by cases hk)) (fun _ _ _ h => h)
              obtain ⟨tsq, hRq, _⟩ := HRO4.out.inn HLR.out
              have HCQ := l_copyLists v1 tsq RR NR v3 wf wf hRq (World.grownBy.refl _ _) HNR.out (by omega)
              have HFf : Hid (w.grownBy wf none) := hff
              clear hop2 hrf hRf hlf hgf hff hRq
              unfold slV
              go_wp2_with fail
              refine HCQ.mono ?_
              rintro e wg ⟨vg, rfl, hlog2, hgg⟩
              obtain ⟨tsg, q1, q2, q3, q4⟩ := hlog2
              obtain ⟨ga, gn, gc⟩ := vg
              obtain ⟨_, _, e4⟩ := sownSl q1
              have e5 : NR = gn := by unfold slV at e4; injection e4 with _ e4 _; exact e4.symm
              subst e5
              have HGG : Hid (wf.grownBy wg none) := hgg
              have HQ1 : Hid (SOwn slE 27 wg wf.heap.size (slV (ga, NR, gc)) NR tsg) := q1
              have HQ2 : Hid (RecsAt wg wf.heap.size (slV (ga, NR, gc)).ownBlock tsg RR) := q2
              have hz1 : (wg.alloc (.cells #[.int .u8 9] 5)).heap.size = wg.heap.size + 1 := Array.size_push _
              have hal : wg.grownBy ((wg.alloc (.cells #[.int .u8 9] 5)).alloc (.cells #[.slice (some ⟨wg.heap.size, 0, none⟩) 1 1] 27)) none := (World.grownBy_alloc wg _ none).trans (World.grownBy_alloc _ _ none)
              have HSO : Hid (SOwn slE 27 ((wg.alloc (.cells #[.int .u8 9] 5)).alloc (.cells #[.slice (some ⟨wg.heap.size, 0, none⟩) 1 1] 27)) wf.heap.size (.slice ga NR gc) NR tsg) := SOwn.kept (row := none) q1 hal (own_none _)
              have HLIT : Hid (SRd slE ((wg.alloc (.cells #[.int .u8 9] 5)).alloc (.cells #[.slice (some ⟨wg.heap.size, 0, none⟩) 1 1] 27)) (some ⟨wg.heap.size + 1, 0, none⟩) [(some ⟨wg.heap.size, 0, none⟩, 1, 1)]) := by
                have := sllit (wg.alloc (.cells #[.int .u8 9] 5)) [(some ⟨wg.heap.size, 0, none⟩, 1, 1)]
                rw [hz1] at this
                exact this
              have hbase : wf.heap.size ≤ ((wg.alloc (.cells #[.int .u8 9] 5)).alloc (.cells #[.slice (some ⟨wg.heap.size, 0, none⟩) 1 1] 27)).heap.size := Nat.le_trans hgg.size hal.size
              have HSTEP : Hid (∀ (g5 c5 : Nat) (w5 : World), SOwn slE 27 w5 wf.heap.size (.slice (some ⟨g5, 0, none⟩) (NR + 1) c5) (NR + 1) (tsg ++ [(some ⟨wg.heap.size, 0, none⟩, 1, 1)]) → ((wg.alloc (.cells #[.int .u8 9] 5)).alloc (.cells #[.slice (some ⟨wg.heap.size, 0, none⟩) 1 1] 27)).grownBy w5 (Value.ownBlock (.slice ga NR gc)) → (Value.ownBlock (.slice ga NR gc) = some g5 ∨ g5 = ((wg.alloc (.cells #[.int .u8 9] 5)).alloc (.cells #[.slice (some ⟨wg.heap.size, 0, none⟩) 1 1] 27)).heap.size) → Reads w5 (some ⟨g5, 0, none⟩) (tsg ++ [(some ⟨wg.heap.size, 0, none⟩, 1, 1)]) (RR ++ [[9]]) ∧ wf.grownBy w5 none) := fun g5 c5 w5 ho5 hg5 hgg5 => by
                have hn := nine_reads (v := (ga, NR, gc)) 9 (by decide) HQ1.out HQ2.out HLR.out HGG.out.size ho5 hg5 hgg5
                exact ⟨hn.1, gb_trans HGG.out hn.2 (fun k hk => .inl (HQ1.out.block k hk).1)⟩
              clear q1 q2 q3 q4 hgg hal e4 HCQ hz1
              unfold slV
              go_wp2_with (at_builtin; refine wpList_append_g slET rfl (.tmp 175) (.tmp 177) rfl wf.heap.size (.slice ga NR gc) NR tsg rfl HSO.out ⟨wg.heap.size + 1, 0, none⟩ [(some ⟨wg.heap.size, 0, none⟩, 1, 1)] 1 1 rfl rfl HLIT.out (by decide) (by omega) (by unfold maxLen; omega) hbase ?_; intro g5 c5 w5 ho5 hg5 hgg5; have HW5 := HSTEP.out g5 c5 w5 ho5 hg5 hgg5; clear ho5 hg5 hgg5)
              have HR5 : Hid (Reads w5 (some ⟨g5, 0, none⟩) (tsg ++ [(some ⟨wg.heap.size, 0, none⟩, 1, 1)]) (RR ++ [[9]])) := HW5.1
              have hlst := l_same f1 (some ⟨g5, 0, none⟩) tsf (tsg ++ [(some ⟨wg.heap.size, 0, none⟩, 1, 1)]) (RR ++ [[9]]) (NR + 1) f3 c5 w5 (HRf.out.reads HW5.2) HR5.out (by rw [List.length_append, HNR.out]; rfl) (by omega)
              have HF5 : Hid (w.grownBy w5 none) := HFf.out.trans HW5.2
              clear HW5 HSTEP HSO HLIT hbase
              refine hlst.mono ?_
              rintro e w6 ⟨rfl, hg6⟩
              have HF6 : Hid (w.grownBy w6 none) := HF5.out.trans hg6
              clear hlst hg6
              have haw := w_awake w6 (HT.out.grown HF6.out)
              have HFx : Hid (w.grownBy w6 none) := HF6.out

              go_wp2_with fail
              refine haw.mono ?_
              rintro e wz ⟨rfl, hgz⟩
              have HFz : Hid (w.grownBy wz none) := HFx.out.trans hgz
              clear haw hgz
              go_wp2
              go_ret
              exact ⟨rfl, HFz.out⟩
            · have H8 : Hid (CdAt w w8 d mb N (3 * (N : Int) + 1) false recs kept) := h8
              have hup := cd_up h8
              clear hcu h8
              go_wp2_with fail
              refine hup.mono ?_
              rintro e _ ⟨rfl, rfl⟩
              have hof := cd_off H8.out keep HKP.out
              clear hup
              go_wp2_with fail
              refine hof.mono ?_
              rintro e w9 ⟨rfl, h9⟩
              have hon := cf_on h9 (by omega) (by omega)
              clear hof h9
              go_wp2_with fail
              refine hon.mono ?_
              rintro e wa ⟨rfl, ha⟩
              have hop := cn_open ha (by omega) (by omega) (by rw [HN.out]; omega) (by rw [HM.out]; omega)
              clear hon ha
              go_wp2_with fail
              refine hop.mono ?_
              rintro e wb ⟨pb, vb, mm, lo, RR, rfl, hVo, hro, hR, hlo⟩
              have HVO : Hid (VoAt w wb d mb pb RR lo) := hVo
              have HFwb : Hid (w.grownBy wb none) := hVo.from_
              have HGwb : Hid (wb.grownBy wb none) := World.grownBy.refl _ _
              have HLR : Hid (∀ r ∈ RR, r.length ≤ 65536) := by
                show ∀ r ∈ _, _
                rcases hR with e | ⟨_, e⟩
                · rw [e]; exact HSK.out
                · rw [e]; exact HSR.out
              obtain ⟨tsR, hRd, hlR⟩ := hro.inn HLR.out
              obtain ⟨v1, NR, v3⟩ := vb
              have HNR : Hid (RR.length = NR) := hlR
              have hNR : NR ≤ 1048576 := by
                rw [← HNR.out]
                rcases hR with e | ⟨_, e⟩
                · rw [e, HM.out]; omega
                · rw [e, HN.out]; omega
              have HRR : Hid (RecsIn wb v1 tsR RR) := hRd
              have HRO : Hid (RecsLo lo wb (slV (v1, NR, v3)) mm RR) := hro
              clear hop hVo hro hRd hlR
              unfold slV
              by_cases hRk : RR = kept
              · have HRE : Hid (RR = kept) := hRk
                clear hR hRk
                have hqws := l_sameLists v1 b tsR us RR kept NR M v3 cb wb (HRR.out.reads HGwb.out) (HK.out.reads HFwb.out) HNR.out HM.out (by omega)
                rw [decide_eq_true HRE.out] at hqws
                go_wp2_with fail
                refine hqws.mono ?_
                rintro e ws ⟨rfl, hgws⟩
                have HGws : Hid (wb.grownBy ws none) := HGwb.out.trans hgws
                have HFws : Hid (w.grownBy ws none) := HFwb.out.trans hgws
                clear hqws hgws
                have hg9 : ws.grownBy (ws.alloc (.cells #[.int .u8 9] 5)) none := World.grownBy_alloc _ _ none
                have hrd9 : Rd (ws.alloc (.cells #[.int .u8 9] 5)) (some ⟨ws.heap.size, 0, none⟩) [9] := srd_rd (SOwn.rd (lit_own ws 9 (by decide))) (fun y hy => by simp at hy; subst hy; decide)
                have hap := vo_append (HVO.out.grown (HGws.out.trans hg9)) (some ⟨ws.heap.size, 0, none⟩) [9] 1 1 hrd9 rfl (by simp) (by decide)
                have HRO2 : Hid (RecsLo lo (ws.alloc (.cells #[.int .u8 9] 5)) (slV (v1, NR, v3)) mm RR) := HRO.out.keptK (Kept.of (HGws.out.trans hg9) (X := fun _ => False) (fun k hk => by cases hk)) (fun _ _ _ h => h)
                clear hg9 hrd9
                go_wp2_with fail
                refine hap.mono ?_
                rintro e wd ⟨rfl, hvp, hkd⟩
                have HKD : Hid (Kept (ws.alloc (.cells #[.int .u8 9] 5)) wd (fun k => k < lo)) := hkd
                have hsy2 := vp_sync hvp
                clear hap hvp hkd
                go_wp2_with fail
                refine hsy2.mono ?_
                rintro e we ⟨rfl, hvd, hke⟩
                have HRO3 : Hid (RecsLo lo we (slV (v1, NR, v3)) mm RR) := HRO2.out.keptK (HKD.out.trans hke (fun k hk hx => hx.elim id (fun h => by omega))) (fun k h1 _ h2 => by omega)
                have hop2 := vd_open hvd (by rw [List.length_append, HNR.out]; show NR + 1 ≤ _; omega)
                clear hsy2 hvd hke
                go_wp2_with fail
                refine hop2.mono ?_
                rintro e wf ⟨pf, vf, mf, lof, rfl, hrf, hgf, hff⟩
                have HLS : Hid (∀ r ∈ RR ++ [[9]], r.length ≤ 65536) := by
                  show ∀ r ∈ _, _
                  intro r hr
                  rcases List.mem_append.1 hr with hr | hr
                  · exact HLR.out r hr
                  · simp at hr; subst hr; decide
                obtain ⟨tsf, hRf, hlf⟩ := hrf.inn HLS.out
                obtain ⟨f1, f2, f3⟩ := vf
                have hf2 : NR + 1 = f2 := by have h := hlf; rw [List.length_append, HNR.out] at h; exact h
                subst hf2
                have HRf : Hid (RecsIn wf f1 tsf (RR ++ [[9]])) := hRf
                have HRO4 : Hid (RecsLo lo wf (slV (v1, NR, v3)) mm RR) := HRO3.out.keptK (Kept.of hgf (X := fun _ => False) (fun k hk => by cases hk)) (fun _ _ _ h => h)
                obtain ⟨tsq, hRq, _⟩ := HRO4.out.inn HLR.out
                have HCQ := l_copyLists v1 tsq RR NR v3 wf wf hRq (World.grownBy.refl _ _) HNR.out (by omega)
                have HFf : Hid (w.grownBy wf none) := hff
                clear hop2 hrf hRf hlf hgf hff hRq
                unfold slV
                go_wp2_with fail
                refine HCQ.mono ?_
                rintro e wg ⟨vg, rfl, hlog2, hgg⟩
                obtain ⟨tsg, q1, q2, q3, q4⟩ := hlog2
                obtain ⟨ga, gn, gc⟩ := vg
                obtain ⟨_, _, e4⟩ := sownSl q1
                have e5 : NR = gn := by unfold slV at e4; injection e4 with _ e4 _; exact e4.symm
                subst e5
                have HGG : Hid (wf.grownBy wg none) := hgg
                have HQ1 : Hid (SOwn slE 27 wg wf.heap.size (slV (ga, NR, gc)) NR tsg) := q1
                have HQ2 : Hid (RecsAt wg wf.heap.size (slV (ga, NR, gc)).ownBlock tsg RR) := q2
                have hz1 : (wg.alloc (.cells #[.int .u8 9] 5)).heap.size = wg.heap.size + 1 := Array.size_push _
                have hal : wg.grownBy ((wg.alloc (.cells #[.int .u8 9] 5)).alloc (.cells #[.slice (some ⟨wg.heap.size, 0, none⟩) 1 1] 27)) none := (World.grownBy_alloc wg _ none).trans (World.grownBy_alloc _ _ none)
                have HSO : Hid (SOwn slE 27 ((wg.alloc (.cells #[.int .u8 9] 5)).alloc (.cells #[.slice (some ⟨wg.heap.size, 0, none⟩) 1 1] 27)) wf.heap.size (.slice ga NR gc) NR tsg) := SOwn.kept (row := none) q1 hal (own_none _)
                have HLIT : Hid (SRd slE ((wg.alloc (.cells #[.int .u8 9] 5)).alloc (.cells #[.slice (some ⟨wg.heap.size, 0, none⟩) 1 1] 27)) (some ⟨wg.heap.size + 1, 0, none⟩) [(some ⟨wg.heap.size, 0, none⟩, 1, 1)]) := by
                  have := sllit (wg.alloc (.cells #[.int .u8 9] 5)) [(some ⟨wg.heap.size, 0, none⟩, 1, 1)]
                  rw [hz1] at this
                  exact this
                have hbase : wf.heap.size ≤ ((wg.alloc (.cells #[.int .u8 9] 5)).alloc (.cells #[.slice (some ⟨wg.heap.size, 0, none⟩) 1 1] 27)).heap.size := Nat.le_trans hgg.size hal.size
                have HSTEP : Hid (∀ (g5 c5 : Nat) (w5 : World), SOwn slE 27 w5 wf.heap.size (.slice (some ⟨g5, 0, none⟩) (NR + 1) c5) (NR + 1) (tsg ++ [(some ⟨wg.heap.size, 0, none⟩, 1, 1)]) → ((wg.alloc (.cells #[.int .u8 9] 5)).alloc (.cells #[.slice (some ⟨wg.heap.size, 0, none⟩) 1 1] 27)).grownBy w5 (Value.ownBlock (.slice ga NR gc)) → (Value.ownBlock (.slice ga NR gc) = some g5 ∨ g5 = ((wg.alloc (.cells #[.int .u8 9] 5)).alloc (.cells #[.slice (some ⟨wg.heap.size, 0, none⟩) 1 1] 27)).heap.size) → Reads w5 (some ⟨g5, 0, none⟩) (tsg ++ [(some ⟨wg.heap.size, 0, none⟩, 1, 1)]) (RR ++ [[9]]) ∧ wf.grownBy w5 none) := fun g5 c5 w5 ho5 hg5 hgg5 => by
                  have hn := nine_reads (v := (ga, NR, gc)) 9 (by decide) HQ1.out HQ2.out HLR.out HGG.out.size ho5 hg5 hgg5
                  exact ⟨hn.1, gb_trans HGG.out hn.2 (fun k hk => .inl (HQ1.out.block k hk).1)⟩
                clear q1 q2 q3 q4 hgg hal e4 HCQ hz1
                unfold slV
                go_wp2_with (at_builtin; refine wpList_append_g slET rfl (.tmp 175) (.tmp 177) rfl wf.heap.size (.slice ga NR gc) NR tsg rfl HSO.out ⟨wg.heap.size + 1, 0, none⟩ [(some ⟨wg.heap.size, 0, none⟩, 1, 1)] 1 1 rfl rfl HLIT.out (by decide) (by omega) (by unfold maxLen; omega) hbase ?_; intro g5 c5 w5 ho5 hg5 hgg5; have HW5 := HSTEP.out g5 c5 w5 ho5 hg5 hgg5; clear ho5 hg5 hgg5)
                have HR5 : Hid (Reads w5 (some ⟨g5, 0, none⟩) (tsg ++ [(some ⟨wg.heap.size, 0, none⟩, 1, 1)]) (RR ++ [[9]])) := HW5.1
                have hlst := l_same f1 (some ⟨g5, 0, none⟩) tsf (tsg ++ [(some ⟨wg.heap.size, 0, none⟩, 1, 1)]) (RR ++ [[9]]) (NR + 1) f3 c5 w5 (HRf.out.reads HW5.2) HR5.out (by rw [List.length_append, HNR.out]; rfl) (by omega)
                have HF5 : Hid (w.grownBy w5 none) := HFf.out.trans HW5.2
                clear HW5 HSTEP HSO HLIT hbase
                refine hlst.mono ?_
                rintro e w6 ⟨rfl, hg6⟩
                have HF6 : Hid (w.grownBy w6 none) := HF5.out.trans hg6
                clear hlst hg6
                have haw := w_awake w6 (HT.out.grown HF6.out)
                have HFx : Hid (w.grownBy w6 none) := HF6.out

                go_wp2_with fail
                refine haw.mono ?_
                rintro e wz ⟨rfl, hgz⟩
                have HFz : Hid (w.grownBy wz none) := HFx.out.trans hgz
                clear haw hgz
                go_wp2
                go_ret
                exact ⟨rfl, HFz.out⟩
              · have HRK : Hid (¬ RR = kept) := hRk
                have HRE : Hid (RR = recs) := hR.elim (fun h => absurd h hRk) (fun h => h.2)
                clear hR hRk
                have hqwq := l_sameLists v1 b tsR us RR kept NR M v3 cb wb (HRR.out.reads HGwb.out) (HK.out.reads HFwb.out) HNR.out HM.out (by omega)
                rw [decide_eq_false HRK.out] at hqwq
                go_wp2_with fail
                refine hqwq.mono ?_
                rintro e wq ⟨rfl, hgwq⟩
                have HGwq : Hid (wb.grownBy wq none) := HGwb.out.trans hgwq
                have HFwq : Hid (w.grownBy wq none) := HFwb.out.trans hgwq
                clear hqwq hgwq
                have hqws := l_sameLists v1 a tsR ts RR recs NR N v3 c wq (HRR.out.reads HGwq.out) (HR.out.reads HFwq.out) HNR.out HN.out (by omega)
                rw [decide_eq_true HRE.out] at hqws
                go_wp2_with fail
                refine hqws.mono ?_
                rintro e ws ⟨rfl, hgws⟩
                have HGws : Hid (wb.grownBy ws none) := HGwq.out.trans hgws
                have HFws : Hid (w.grownBy ws none) := HFwq.out.trans hgws
                clear hqws hgws
                have hg9 : ws.grownBy (ws.alloc (.cells #[.int .u8 9] 5)) none := World.grownBy_alloc _ _ none
                have hrd9 : Rd (ws.alloc (.cells #[.int .u8 9] 5)) (some ⟨ws.heap.size, 0, none⟩) [9] := srd_rd (SOwn.rd (lit_own ws 9 (by decide))) (fun y hy => by simp at hy; subst hy; decide)
                have hap := vo_append (HVO.out.grown (HGws.out.trans hg9)) (some ⟨ws.heap.size, 0, none⟩) [9] 1 1 hrd9 rfl (by simp) (by decide)
                have HRO2 : Hid (RecsLo lo (ws.alloc (.cells #[.int .u8 9] 5)) (slV (v1, NR, v3)) mm RR) := HRO.out.keptK (Kept.of (HGws.out.trans hg9) (X := fun _ => False) (fun k hk => by cases hk)) (fun _ _ _ h => h)
                clear hg9 hrd9
                go_wp2_with fail
                refine hap.mono ?_
                rintro e wd ⟨rfl, hvp, hkd⟩
                have HKD : Hid (Kept (ws.alloc (.cells #[.int .u8 9] 5)) wd (fun k => k < lo)) := hkd
                have hsy2 := vp_sync hvp
                clear hap hvp hkd
                go_wp2_with fail
                refine hsy2.mono ?_
                rintro e we ⟨rfl, hvd, hke⟩
                have HRO3 : Hid (RecsLo lo we (slV (v1, NR, v3)) mm RR) := HRO2.out.keptK (HKD.out.trans hke (fun k hk hx => hx.elim id (fun h => by omega))) (fun k h1 _ h2 => by omega)
                have hop2 := vd_open hvd (by rw [List.length_append, HNR.out]; show NR + 1 ≤ _; omega)
                clear hsy2 hvd hke
                go_wp2_with fail
                refine hop2.mono ?_
                rintro e wf ⟨pf, vf, mf, lof, rfl, hrf, hgf, hff⟩
                have HLS : Hid (∀ r ∈ RR ++ [[9]], r.length ≤ 65536) := by
                  show ∀ r ∈ _, _
                  intro r hr
                  rcases List.mem_append.1 hr with hr | hr
                  · exact HLR.out r hr
                  · simp at hr; subst hr; decide
                obtain ⟨tsf, hRf, hlf⟩ := hrf.inn HLS.out
                obtain ⟨f1, f2, f3⟩ := vf
                have hf2 : NR + 1 = f2 := by have h := hlf; rw [List.length_append, HNR.out] at h; exact h
                subst hf2
                have HRf : Hid (RecsIn wf f1 tsf (RR ++ [[9]])) := hRf
                have HRO4 : Hid (RecsLo lo wf (slV (v1, NR, v3)) mm RR) := HRO3.out.keptK (Kept.of hgf (X := fun _ => False) (fun k hk => by cases hk)) (fun _ _ _ h => h)
                obtain ⟨tsq, hRq, _⟩ := HRO4.out.inn HLR.out
                have HCQ := l_copyLists v1 tsq RR NR v3 wf wf hRq (World.grownBy.refl _ _) HNR.out (by omega)
                have HFf : Hid (w.grownBy wf none) := hff
                clear hop2 hrf hRf hlf hgf hff hRq
                unfold slV
                go_wp2_with fail
                refine HCQ.mono ?_
                rintro e wg ⟨vg, rfl, hlog2, hgg⟩
                obtain ⟨tsg, q1, q2, q3, q4⟩ := hlog2
                obtain ⟨ga, gn, gc⟩ := vg
                obtain ⟨_, _, e4⟩ := sownSl q1
                have e5 : NR = gn := by unfold slV at e4; injection e4 with _ e4 _; exact e4.symm
                subst e5
                have HGG : Hid (wf.grownBy wg none) := hgg
                have HQ1 : Hid (SOwn slE 27 wg wf.heap.size (slV (ga, NR, gc)) NR tsg) := q1
                have HQ2 : Hid (RecsAt wg wf.heap.size (slV (ga, NR, gc)).ownBlock tsg RR) := q2
                have hz1 : (wg.alloc (.cells #[.int .u8 9] 5)).heap.size = wg.heap.size + 1 := Array.size_push _
                have hal : wg.grownBy ((wg.alloc (.cells #[.int .u8 9] 5)).alloc (.cells #[.slice (some ⟨wg.heap.size, 0, none⟩) 1 1] 27)) none := (World.grownBy_alloc wg _ none).trans (World.grownBy_alloc _ _ none)
                have HSO : Hid (SOwn slE 27 ((wg.alloc (.cells #[.int .u8 9] 5)).alloc (.cells #[.slice (some ⟨wg.heap.size, 0, none⟩) 1 1] 27)) wf.heap.size (.slice ga NR gc) NR tsg) := SOwn.kept (row := none) q1 hal (own_none _)
                have HLIT : Hid (SRd slE ((wg.alloc (.cells #[.int .u8 9] 5)).alloc (.cells #[.slice (some ⟨wg.heap.size, 0, none⟩) 1 1] 27)) (some ⟨wg.heap.size + 1, 0, none⟩) [(some ⟨wg.heap.size, 0, none⟩, 1, 1)]) := by
                  have := sllit (wg.alloc (.cells #[.int .u8 9] 5)) [(some ⟨wg.heap.size, 0, none⟩, 1, 1)]
                  rw [hz1] at this
                  exact this
                have hbase : wf.heap.size ≤ ((wg.alloc (.cells #[.int .u8 9] 5)).alloc (.cells #[.slice (some ⟨wg.heap.size, 0, none⟩) 1 1] 27)).heap.size := Nat.le_trans hgg.size hal.size
                have HSTEP : Hid (∀ (g5 c5 : Nat) (w5 : World), SOwn slE 27 w5 wf.heap.size (.slice (some ⟨g5, 0, none⟩) (NR + 1) c5) (NR + 1) (tsg ++ [(some ⟨wg.heap.size, 0, none⟩, 1, 1)]) → ((wg.alloc (.cells #[.int .u8 9] 5)).alloc (.cells #[.slice (some ⟨wg.heap.size, 0, none⟩) 1 1] 27)).grownBy w5 (Value.ownBlock (.slice ga NR gc)) → (Value.ownBlock (.slice ga NR gc) = some g5 ∨ g5 = ((wg.alloc (.cells #[.int .u8 9] 5)).alloc (.cells #[.slice (some ⟨wg.heap.size, 0, none⟩) 1 1] 27)).heap.size) → Reads w5 (some ⟨g5, 0, none⟩) (tsg ++ [(some ⟨wg.heap.size, 0, none⟩, 1, 1)]) (RR ++ [[9]]) ∧ wf.grownBy w5 none) := fun g5 c5 w5 ho5 hg5 hgg5 => by
                  have hn := nine_reads (v := (ga, NR, gc)) 9 (by decide) HQ1.out HQ2.out HLR.out HGG.out.size ho5 hg5 hgg5
                  exact ⟨hn.1, gb_trans HGG.out hn.2 (fun k hk => .inl (HQ1.out.block k hk).1)⟩
                clear q1 q2 q3 q4 hgg hal e4 HCQ hz1
                unfold slV
                go_wp2_with (at_builtin; refine wpList_append_g slET rfl (.tmp 175) (.tmp 177) rfl wf.heap.size (.slice ga NR gc) NR tsg rfl HSO.out ⟨wg.heap.size + 1, 0, none⟩ [(some ⟨wg.heap.size, 0, none⟩, 1, 1)] 1 1 rfl rfl HLIT.out (by decide) (by omega) (by unfold maxLen; omega) hbase ?_; intro g5 c5 w5 ho5 hg5 hgg5; have HW5 := HSTEP.out g5 c5 w5 ho5 hg5 hgg5; clear ho5 hg5 hgg5)
                have HR5 : Hid (Reads w5 (some ⟨g5, 0, none⟩) (tsg ++ [(some ⟨wg.heap.size, 0, none⟩, 1, 1)]) (RR ++ [[9]])) := HW5.1
                have hlst := l_same f1 (some ⟨g5, 0, none⟩) tsf (tsg ++ [(some ⟨wg.heap.size, 0, none⟩, 1, 1)]) (RR ++ [[9]]) (NR + 1) f3 c5 w5 (HRf.out.reads HW5.2) HR5.out (by rw [List.length_append, HNR.out]; rfl) (by omega)
                have HF5 : Hid (w.grownBy w5 none) := HFf.out.trans HW5.2
                clear HW5 HSTEP HSO HLIT hbase
                refine hlst.mono ?_
                rintro e w6 ⟨rfl, hg6⟩
                have HF6 : Hid (w.grownBy w6 none) := HF5.out.trans hg6
                clear hlst hg6
                have haw := w_awake w6 (HT.out.grown HF6.out)
                have HFx : Hid (w.grownBy w6 none) := HF6.out

                go_wp2_with fail
                refine haw.mono ?_
                rintro e wz ⟨rfl, hgz⟩
                have HFz : Hid (w.grownBy wz none) := HFx.out.trans hgz
                clear haw hgz
                go_wp2
                go_ret
                exact ⟨rfl, HFz.out⟩
end Go.Proofs.YtbhffjeoakalbaaGreatDoor
