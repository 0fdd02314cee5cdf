/- WalFolders: the walk. -/
import Derived.Test.YtekejnjaiccnbaaGreatDoorNk
namespace Go.Proofs.YtekejnjaiccnbaaGreatDoor
open Go.RowKit Go.Maps Go.Sort
set_option linter.unusedVariables false
set_option maxRecDepth 20000

set_option maxHeartbeats 16000000 in
theorem w_folders (a : Option Addr) (ts : List Sl) (recs : List (List Int)) (N c : Nat) (ba : Option Addr) (bts : List Sl) (brecs : List (List Int)) (M bc : Nat) (name : ByteArray) (w : World) (ht : Tab w) (hr : RecsIn w a ts recs) (hN : recs.length = N) (hb : RecsIn w ba bts brecs) (hM : brecs.length = M) (hNM : N + M ≤ 1048573) (hnm : name.size ≤ 1048576) :
    Calls Tryz.prog 7 #[.slice a N c, .slice ba M bc, .string name] w fun e w' => e = .returned (.bool true) ∧ w.grownBy w' none := by
  have HT : Hid (Tab w) := ht
  have HR : Hid (RecsIn w a ts recs) := hr
  have HB : Hid (RecsIn w ba bts brecs) := hb
  have HN : Hid (recs.length = N) := hN
  have HM : Hid (brecs.length = M) := hM
  clear ht hr hb hN hM
  go_enter Tryz.func7, Tryz.ntmps7
  go_wp2_with fail
  refine (v_new w).mono ?_
  rintro e w1 ⟨d, mb, B0, rfl, hd1, hg1, hl1⟩
  have hDe1 : De w w1 d mb 0 x0 dirX none [] (fun k => B0 k ∧ k < w1.heap.size) := ⟨DS.bound hd1, log0 dirX, x0_calm, hg1, fun k hk => hl1 k hk.1, fun k hk => hk.2, HT.out⟩
  have HO1 := s_open hDe1 dirX_ok (by decide) (by decide) (by decide)
  clear hd1 hg1 hl1 hDe1
  go_wp2_with fail
  refine HO1.mono ?_
  rintro e w2 ⟨p, v0, m0, lo0, A0, rfl, hSe2, hro2, _, _, _⟩
  obtain ⟨ts2, _, _, _, hnil2⟩ := hro2
  rw [hnil2 rfl]
  have HO2 := fo_open hSe2
  clear HO1 hSe2 hnil2
  go_wp2_with fail
  refine HO2.mono ?_
  rintro e w3 ⟨q, v3, rfl, hfo⟩
  have HFO : Hid (FoAt w w3 d mb p q [] []) := hfo
  clear HO2 hfo
  obtain ⟨v3a, v3n, v3c⟩ := v3
  unfold slV
  go_wp2_with fail
  go_loopw [14] (fun t14 wr => ∃ i : Nat, i ≤ N + M ∧ t14 = .int .i64 i ∧ FoAt w wr d mb p q (recs.take i) (brecs.take i) ∧ ∀ r ∈ recs.take i, r.length ≤ 500) (fun t14 _ => N + M - (intOf t14).toNat)
  case atStart => exact ⟨0, Nat.zero_le _, rfl, HFO.out, fun r hr => by simp at hr⟩
  case round =>
    obtain ⟨i, hi, rfl, hfo, hsh⟩ := hrel
    have HW : Hid (FoAt w wr d mb p q (recs.take i) (brecs.take i)) := hfo
    have HSH : Hid (∀ r ∈ recs.take i, r.length ≤ 500) := hsh
    have HLE : Hid (∀ j, (recs.take j).length ≤ N ∧ (brecs.take i).length ≤ M ∧ (recs.take i).length ≤ N ∧ (i < N → (recs.take i).length < N) ∧ (i < M → (brecs.take i).length < M)) := fun j => by
      have h1 := HN.out
      have h2 := HM.out
      rw [List.length_take, List.length_take, List.length_take]
      omega
    clear hsh HFO
    by_cases h1 : i < N
    · have hx1 : (i : Int) < (N : Int) := by omega
      obtain ⟨b1, o1, t1, r1, rfl, hcl1, hri1, hl1, hrd1, hnil1, hlen1⟩ := HR.out.get (i := i) (by rw [HN.out]; exact h1)
      obtain ⟨ta1, tn1, tc1⟩ := t1
      dsimp only at hcl1 hl1 hrd1 hnil1
      have c1 := hcl1 wr HW.out.from_
      have HRD1 : Hid (Rd w ta1 r1) := hrd1
      have HL1 : Hid (tn1 = r1.length) := hl1
      have HNIL1 : Hid (ta1 = none → tc1 = 0) := hnil1
      have HTA : Hid (recs.take (i + 1) = recs.take i ++ [r1]) := by show _ = _; rw [List.take_add_one, hri1]; rfl
      clear hri1 hnil1 hrd1 hcl1 hfo
      by_cases hbig1 : 500 < tn1
      · have hbb1 : (500 : Int) < (tn1 : Int) := by omega
        clear hl1
        have haw := w_awake wr (HT.out.grown HW.out.from_)
        have HFq : Hid (w.grownBy wr none) := HW.out.from_
        go_wp2_with fail
        refine haw.mono ?_
        rintro e w9 ⟨rfl, hg9⟩
        have HF9 : Hid (w.grownBy w9 none) := HFq.out.trans hg9
        clear haw hg9
        go_wp2
        go_ret
        exact ⟨rfl, HF9.out⟩
      · have hbb1 : ¬ (500 : Int) < (tn1 : Int) := by omega
        have HC1 : Hid (Calls Tryz.prog 18 #[.slice ta1 tn1 tc1] wr fun e w' => ∃ g c, e = .returned (.slice (some ⟨g, 0, none⟩) tn1 c) ∧ Own w' wr.heap.size g tn1 c r1 ∧ wr.grownBy w' none) := by
          show Calls _ _ _ _ _
          rw [hl1]
          exact copy_any ta1 r1 tc1 wr (HRD1.out.grown HW.out.from_ (by simp)) HNIL1.out (by omega)
        have HSH2 : Hid (∀ r ∈ recs.take (i + 1), r.length ≤ 500) := by
          show ∀ r ∈ _, _
          rw [HTA.out]
          intro r hr
          rcases List.mem_append.1 hr with h | h
          · exact HSH.out r h
          · simp only [List.mem_singleton] at h
            subst h
            omega
        clear hl1
        go_wp2_with fail
        refine HC1.out.mono ?_
        rintro e w5 ⟨g5, c5, rfl, hown5, hg5⟩
        have HA1 : Hid (Calls Tryz.prog 17 #[.pointer (some ⟨p, 0, none⟩), .slice (some ⟨g5, 0, none⟩) tn1 c5] w5 fun e w' => e = .returned (.int .i64 0) ∧ FoAt w w' d mb p q (recs.take i ++ [r1]) (brecs.take i)) := fo_appendX (HW.out.grown hg5) (some ⟨g5, 0, none⟩) r1 tn1 c5 hown5.rd HL1.out.symm (by simp) (by omega) (by have := HLE.out i; omega)
        clear hown5 hg5 HC1
        go_wp2_with fail
        refine HA1.out.mono ?_
        rintro e w6 ⟨rfl, h6⟩
        rw [← HTA.out] at h6
        have HW6 : Hid (FoAt w w6 d mb p q (recs.take (i + 1)) (brecs.take i)) := h6
        clear h6 HA1 c1
        by_cases h2 : i < M
        · have hx2 : (i : Int) < (M : Int) := by omega
          obtain ⟨b2, o2, t2, r2, rfl, hcl2, hri2, hl2, hrd2, hnil2, hlen2⟩ := HB.out.get (i := i) (by rw [HM.out]; exact h2)
          obtain ⟨ta2, tn2, tc2⟩ := t2
          dsimp only at hcl2 hl2 hrd2 hnil2
          have c2 := hcl2 w6 HW6.out.from_
          have HRD2 : Hid (Rd w ta2 r2) := hrd2
          have HL2 : Hid (tn2 = r2.length) := hl2
          have HNIL2 : Hid (ta2 = none → tc2 = 0) := hnil2
          have HTB : Hid (brecs.take (i + 1) = brecs.take i ++ [r2]) := by show _ = _; rw [List.take_add_one, hri2]; rfl
          clear hri2 hnil2 hrd2 hcl2
          by_cases hbig2 : 500 < tn2
          · have hbb2 : (500 : Int) < (tn2 : Int) := by omega
            clear hl2
            have haw := w_awake w6 (HT.out.grown HW6.out.from_)
            have HFq : Hid (w.grownBy w6 none) := HW6.out.from_
            go_wp2_with fail
            refine haw.mono ?_
            rintro e w9 ⟨rfl, hg9⟩
            have HF9 : Hid (w.grownBy w9 none) := HFq.out.trans hg9
            clear haw hg9
            go_wp2
            go_ret
            exact ⟨rfl, HF9.out⟩
          · have hbb2 : ¬ (500 : Int) < (tn2 : Int) := by omega
            have HC2 : Hid (Calls Tryz.prog 18 #[.slice ta2 tn2 tc2] w6 fun e w' => ∃ g c, e = .returned (.slice (some ⟨g, 0, none⟩) tn2 c) ∧ Own w' w6.heap.size g tn2 c r2 ∧ w6.grownBy w' none) := by
              show Calls _ _ _ _ _
              rw [hl2]
              exact copy_any ta2 r2 tc2 w6 (HRD2.out.grown HW6.out.from_ (by simp)) HNIL2.out (by omega)
            clear hl2
            go_wp2_with fail
            refine HC2.out.mono ?_
            rintro e w7 ⟨g7, c7, rfl, hown7, hg7⟩
            have HA2 : Hid (Calls Tryz.prog 17 #[.pointer (some ⟨q, 0, none⟩), .slice (some ⟨g7, 0, none⟩) tn2 c7] w7 fun e w' => e = .returned (.int .i64 0) ∧ FoAt w w' d mb p q (recs.take (i + 1)) (brecs.take i ++ [r2])) := fo_appendY (HW6.out.grown hg7) (some ⟨g7, 0, none⟩) r2 tn2 c7 hown7.rd HL2.out.symm (by simp) (by omega) (by have := HLE.out (i + 1); omega)
            clear hown7 hg7 HC2
            go_wp2_with fail
            refine HA2.out.mono ?_
            rintro e w8 ⟨rfl, h8⟩
            rw [← HTB.out] at h8
            have HW8 : Hid (FoAt w w8 d mb p q (recs.take (i + 1)) (brecs.take (i + 1))) := h8
            clear h8 HA2
            go_wp2
            go_roundw
            case rel => exact ⟨i + 1, by omega, by go_num, HW8.out, HSH2.out⟩
            case measure => simp [intOf]; omega
        · have hx2 : ¬ (i : Int) < (M : Int) := by omega
          have HTB : Hid (brecs.take (i + 1) = brecs.take i) := by show _ = _; rw [List.take_of_length_le (by rw [HM.out]; omega), List.take_of_length_le (by rw [HM.out]; omega)]
          have HW8 : Hid (FoAt w w6 d mb p q (recs.take (i + 1)) (brecs.take (i + 1))) := by show FoAt _ _ _ _ _ _ _ _; rw [HTB.out]; exact HW6.out
          go_wp2
          go_roundw
          case rel => exact ⟨i + 1, by omega, by go_num, HW8.out, HSH2.out⟩
          case measure => simp [intOf]; omega
    · have hx1 : ¬ (i : Int) < (N : Int) := by omega
      have eA : recs.take i = recs := List.take_of_length_le (by rw [HN.out]; omega)
      have eA2 : recs.take (i + 1) = recs := List.take_of_length_le (by rw [HN.out]; omega)
      by_cases h2 : i < M
      · have hx2 : (i : Int) < (M : Int) := by omega
        have HW6 : Hid (FoAt w wr d mb p q (recs.take (i + 1)) (brecs.take i)) := by show FoAt _ _ _ _ _ _ _ _; rw [eA2, ← eA]; exact hfo
        have HSH2 : Hid (∀ r ∈ recs.take (i + 1), r.length ≤ 500) := by show ∀ r ∈ _, _; rw [eA2, ← eA]; exact HSH.out
        clear hfo eA eA2
        obtain ⟨b2, o2, t2, r2, rfl, hcl2, hri2, hl2, hrd2, hnil2, hlen2⟩ := HB.out.get (i := i) (by rw [HM.out]; exact h2)
        obtain ⟨ta2, tn2, tc2⟩ := t2
        dsimp only at hcl2 hl2 hrd2 hnil2
        have c2 := hcl2 wr HW6.out.from_
        have HRD2 : Hid (Rd w ta2 r2) := hrd2
        have HL2 : Hid (tn2 = r2.length) := hl2
        have HNIL2 : Hid (ta2 = none → tc2 = 0) := hnil2
        have HTB : Hid (brecs.take (i + 1) = brecs.take i ++ [r2]) := by show _ = _; rw [List.take_add_one, hri2]; rfl
        clear hri2 hnil2 hrd2 hcl2
        by_cases hbig2 : 500 < tn2
        · have hbb2 : (500 : Int) < (tn2 : Int) := by omega
          clear hl2
          have haw := w_awake wr (HT.out.grown HW6.out.from_)
          have HFq : Hid (w.grownBy wr none) := HW6.out.from_
          go_wp2_with fail
          refine haw.mono ?_
          rintro e w9 ⟨rfl, hg9⟩
          have HF9 : Hid (w.grownBy w9 none) := HFq.out.trans hg9
          clear haw hg9
          go_wp2
          go_ret
          exact ⟨rfl, HF9.out⟩
        · have hbb2 : ¬ (500 : Int) < (tn2 : Int) := by omega
          have HC2 : Hid (Calls Tryz.prog 18 #[.slice ta2 tn2 tc2] wr fun e w' => ∃ g c, e = .returned (.slice (some ⟨g, 0, none⟩) tn2 c) ∧ Own w' wr.heap.size g tn2 c r2 ∧ wr.grownBy w' none) := by
            show Calls _ _ _ _ _
            rw [hl2]
            exact copy_any ta2 r2 tc2 wr (HRD2.out.grown HW6.out.from_ (by simp)) HNIL2.out (by omega)
          clear hl2
          go_wp2_with fail
          refine HC2.out.mono ?_
          rintro e w7 ⟨g7, c7, rfl, hown7, hg7⟩
          have HA2 : Hid (Calls Tryz.prog 17 #[.pointer (some ⟨q, 0, none⟩), .slice (some ⟨g7, 0, none⟩) tn2 c7] w7 fun e w' => e = .returned (.int .i64 0) ∧ FoAt w w' d mb p q (recs.take (i + 1)) (brecs.take i ++ [r2])) := fo_appendY (HW6.out.grown hg7) (some ⟨g7, 0, none⟩) r2 tn2 c7 hown7.rd HL2.out.symm (by simp) (by omega) (by have := HLE.out (i + 1); omega)
          clear hown7 hg7 HC2
          go_wp2_with fail
          refine HA2.out.mono ?_
          rintro e w8 ⟨rfl, h8⟩
          rw [← HTB.out] at h8
          have HW8 : Hid (FoAt w w8 d mb p q (recs.take (i + 1)) (brecs.take (i + 1))) := h8
          clear h8 HA2
          go_wp2
          go_roundw
          case rel => exact ⟨i + 1, by omega, by go_num, HW8.out, HSH2.out⟩
          case measure => simp [intOf]; omega
      · have hx2 : ¬ (i : Int) < (M : Int) := by omega
        have eB : brecs.take i = brecs := List.take_of_length_le (by rw [HM.out]; omega)
        rw [eA, eB] at hfo
        have HF1 : Hid (FoAt w wr d mb p q recs brecs) := hfo
        have HS1 : Hid (∀ r ∈ recs, r.length ≤ 500) := by show ∀ r ∈ _, _; rw [← eA]; exact HSH.out
        have HCL := l_copyLists a ts recs N c w wr HR.out hfo.from_ HN.out (by omega)
        clear hfo eA eA2 eB HW HSH
        go_wp2_with fail
        refine HCL.mono ?_
        rintro e w4 ⟨v4, rfl, hlo4, hg4⟩
        have hkeep : ∃ ts4, KeepIs w4 v4.1 ts4 recs ∧ recs.length = v4.2.1 := by
          obtain ⟨ts4, k1, k2, k3, k4⟩ := hlo4
          obtain ⟨va, vn, vc⟩ := v4
          obtain ⟨_, _, e4⟩ := sownSl k1
          have e5 : vn = N := by unfold slV at e4; injection e4
          subst e5
          refine ⟨ts4, ⟨SOwn.rd k1, k2.len, fun j t r ht hr => ?_⟩, HN.out⟩
          have := k2.get j t r ht hr
          exact ⟨this.1, this.2.2.2.1, this.2.2.1, by have := HS1.out r (List.mem_of_getElem? hr); omega⟩
        obtain ⟨ts4, hk4, hkl⟩ := hkeep
        obtain ⟨va, vn, vc⟩ := v4
        have hvn : N = vn := HN.out.symm.trans hkl
        subst hvn
        have HCU := fo_cut HF1.out va N vc ts4 w4 hg4 hk4 HN.out (by rw [HN.out, HM.out]; omega) HS1.out
        clear HCL hlo4 hg4 hk4 hkl HF1
        unfold slV
        go_wp2_with fail
        refine HCU.mono ?_
        rintro e w5 ⟨c5, rfl, n5, x5, K5, Ls5, Lt5, B5, hDe5, hr5, hlg5, hs5, hn5, hl5, ht5⟩
        have hRlen : ∀ r ∈ cpRecs K5 ++ recsOf Ls5, r.length ≤ 65536 := by rw [hr5]; intro r hr; have := HS1.out r hr; omega
        have hSlen : ∀ r ∈ cpRecs none ++ recsOf Lt5, r.length ≤ 65536 := recs_short hlg5
        have HRL : Hid (∀ r ∈ cpRecs K5 ++ recsOf Ls5, r.length ≤ 65536) := hRlen
        have HSL : Hid (∀ r ∈ cpRecs none ++ recsOf Lt5, r.length ≤ 65536) := hSlen
        have HR5 : Hid (cpRecs K5 ++ recsOf Ls5 = recs) := hr5
        have HS5 : Hid (cpRecs none ++ recsOf Lt5 = brecs) := hs5
        have HLG : Hid (Log x5.V dirY none Lt5) := hlg5
        have hop := s_open hDe5 dirX_ok (by rw [HN.out, HM.out] at hn5; omega) (by rw [hr5, HN.out]; omega) (by rw [HN.out] at hl5; omega)
        clear HCU hDe5 hr5 hlg5 hs5 hRlen hSlen
        go_wp2_with fail
        refine hop.mono ?_
        rintro e w6 ⟨p6, v6, m6, lo6, A6, rfl, hSe6, hro6, hg6, _, _⟩
        obtain ⟨ts6, hR6, hl6⟩ := hro6.reads HRL.out
        rw [HR5.out] at hR6 hl6
        obtain ⟨u1, u2, u3⟩ := v6
        have hu : N = u2 := HN.out.symm.trans hl6
        subst hu
        have HR6 : Hid (Reads w6 u1 ts6 recs) := hR6.1
        have hDe6 : De w w6 d mb n5 x5 dirY none Lt5 B5 := ⟨hSe6.at_.disk, HLG.out, hSe6.calm, hSe6.from_, fun k hk => hSe6.low k (.inr hk), hSe6.at_.ltB, hSe6.tab⟩
        have hop2 := s_open hDe6 dirY_ok (by rw [HN.out, HM.out] at hn5; omega) (by rw [HS5.out, HM.out]; omega) (by rw [HM.out] at ht5; omega)
        clear hop hSe6 hro6 hR6 hl6 hg6 hDe6
        go_wp2_with fail
        refine hop2.mono ?_
        rintro e w7 ⟨p7, v7, m7, lo7, A7, rfl, hSe7, hro7, hg7, _, _⟩
        obtain ⟨ts7, hR7, hl7⟩ := hro7.reads HSL.out
        rw [HS5.out] at hR7 hl7
        obtain ⟨y1, y2, y3⟩ := v7
        have hy : M = y2 := HM.out.symm.trans hl7
        subst hy
        have HR7 : Hid (Reads w7 y1 ts7 brecs) := hR7.1
        have HR67 : Hid (Reads w7 u1 ts6 recs) := HR6.out.grown hg7
        have HF7 : Hid (w.grownBy w7 none) := hSe7.from_
        clear hop2 hSe7 hro7 hR7 hl7 hg7 HR6
        go_wp2_with fail
        refine (v_new w7).mono ?_
        rintro e w8 ⟨d8, mb8, B8, rfl, hd8, hg8, hl8⟩
        have HG8 : Hid (w7.grownBy w8 none) := hg8
        have HO8 : ∃ cc : Int, (Calls Tryz.prog 13 #[.pointer (some ⟨d8, 0, none⟩), .string name] w8 fun e w' => ∃ v1 v2, e = .returned (.tuple #[v1, v2, .int .i64 cc]) ∧ w8.grownBy w' none) ∧ (cc == 71) = !(dirB name) := by
          cases hdn : dirB name with
          | true =>
            have hDe8 : De w7 w8 d8 mb8 0 x0 name none [] (fun k => B8 k ∧ k < w8.heap.size) := ⟨DS.bound hd8, log0 name, x0_calm, hg8, fun k hk => hl8 k hk.1, fun k hk => hk.2, HT.out.grown HF7.out⟩
            refine ⟨0, (s_open hDe8 hdn (by decide) (by decide) (by decide)).mono ?_, rfl⟩
            rintro e w' ⟨p9, v9, m9, lo9, A9, rfl, _, _, h9, _, _⟩
            exact ⟨_, _, rfl, h9⟩
          | false =>
            refine ⟨71, (w_openNot d8 name w8 hnm hdn).mono ?_, rfl⟩
            rintro e w' ⟨rfl, h9⟩
            exact ⟨_, _, rfl, h9⟩
        obtain ⟨cc, HO9, hcc⟩ := HO8
        clear hd8 hg8 hl8
        go_wp2_with fail
        refine HO9.mono ?_
        rintro e w9 ⟨z1, z2, rfl, hg9⟩
        have HG9 : Hid (w7.grownBy w9 none) := HG8.out.trans hg9
        clear HO9 hg9
        have HCC : Hid ((cc == 71) = !(dirB name)) := hcc
        have hq1 := l_same u1 a ts6 ts recs N u3 c w9 (HR67.out.grown HG9.out) (HR.out.reads (HF7.out.trans HG9.out)) HN.out (by omega)
        have HF9 : Hid (w.grownBy w9 none) := HF7.out.trans HG9.out
        have hend : ∀ wz, w9.grownBy wz none → (Calls Tryz.prog 22 #[.slice y1 M y3, .slice ba M bc] wz fun e w' => e = .returned (.bool true) ∧ wz.grownBy w' none) := fun wz hz => l_same y1 ba ts7 bts brecs M y3 bc wz ((HR7.out.grown HG9.out).grown hz) (HB.out.reads (HF9.out.trans hz)) HM.out (by omega)
        have HEND : Hid (∀ wz, w9.grownBy wz none → (Calls Tryz.prog 22 #[.slice y1 M y3, .slice ba M bc] wz fun e w' => e = .returned (.bool true) ∧ wz.grownBy w' none)) := hend
        clear hend hcc HR67 HR7
        by_cases hsz : 32 < name.size
        · have hs1 : (32 : Int) < (name.size : Int) := by omega
          have e1 : dirB name = false := by unfold dirB; rw [decide_eq_false (by omega)]; simp
          have e2 : (cc == 71) = true := by rw [HCC.out, e1]; rfl
          go_wp2_with fail
          refine hq1.mono ?_
          rintro e wa ⟨rfl, hga⟩
          have hq2 := HEND.out wa hga
          have HFa : Hid (w.grownBy wa none) := HF9.out.trans hga
          clear hq1 hga
          go_wp2_with fail
          refine hq2.mono ?_
          rintro e wb ⟨rfl, hgb⟩
          have HFb : Hid (w.grownBy wb none) := HFa.out.trans hgb
          have haw := w_awake wb (HT.out.grown HFb.out)
          clear hq2 hgb
          go_wp2_with fail
          refine haw.mono ?_
          rintro e wc ⟨rfl, hgc⟩
          have HFc : Hid (w.grownBy wc none) := HFb.out.trans hgc
          clear haw hgc
          go_wp2
          go_ret
          exact ⟨rfl, HFc.out⟩
        · have hs1 : decide ((32 : Int) < (name.size : Int)) = false := by simp; omega
          have hnme := r_name name (by omega) w9
          have e1 : dirB name = nameB name := by unfold dirB; rw [decide_eq_true (by omega)]; simp
          cases hnb : nameB name with
          | true =>
            rw [hnb] at hnme
            have e2 : (cc == 71) = false := by rw [HCC.out, e1, hnb]; rfl
            clear hnb e1
            go_wp2_with fail
            refine hnme.mono ?_
            rintro e _ ⟨rfl, rfl⟩
            clear hnme
            go_wp2_with fail
            refine hq1.mono ?_
            rintro e wa ⟨rfl, hga⟩
            have hq2 := HEND.out wa hga
            have HFa : Hid (w.grownBy wa none) := HF9.out.trans hga
            clear hq1 hga
            go_wp2_with fail
            refine hq2.mono ?_
            rintro e wb ⟨rfl, hgb⟩
            have HFb : Hid (w.grownBy wb none) := HFa.out.trans hgb
            have haw := w_awake wb (HT.out.grown HFb.out)
            clear hq2 hgb
            go_wp2_with fail
            refine haw.mono ?_
            rintro e wc ⟨rfl, hgc⟩
            have HFc : Hid (w.grownBy wc none) := HFb.out.trans hgc
            clear haw hgc
            go_wp2
            go_ret
            exact ⟨rfl, HFc.out⟩
          | false =>
            rw [hnb] at hnme
            have e2 : (cc == 71) = true := by rw [HCC.out, e1, hnb]; rfl
            clear hnb e1
            go_wp2_with fail
            refine hnme.mono ?_
            rintro e _ ⟨rfl, rfl⟩
            clear hnme
            go_wp2_with fail
            refine hq1.mono ?_
            rintro e wa ⟨rfl, hga⟩
            have hq2 := HEND.out wa hga
            have HFa : Hid (w.grownBy wa none) := HF9.out.trans hga
            clear hq1 hga
            go_wp2_with fail
            refine hq2.mono ?_
            rintro e wb ⟨rfl, hgb⟩
            have HFb : Hid (w.grownBy wb none) := HFa.out.trans hgb
            have haw := w_awake wb (HT.out.grown HFb.out)
            clear hq2 hgb
            go_wp2_with fail
            refine haw.mono ?_
            rintro e wc ⟨rfl, hgc⟩
            have HFc : Hid (w.grownBy wc none) := HFb.out.trans hgc
            clear haw hgc
            go_wp2
            go_ret
            exact ⟨rfl, HFc.out⟩
end Go.Proofs.YtekejnjaiccnbaaGreatDoor
