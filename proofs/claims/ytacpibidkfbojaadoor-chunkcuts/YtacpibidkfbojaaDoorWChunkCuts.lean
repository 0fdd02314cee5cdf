/- No beginning of points' bytes but the whole is read, nor the bytes with any behind them. -/
import Derived.Test.YtacpibidkfbojaaDoorKwalk
namespace Go.Proofs.YtacpibidkfbojaaDoor
open Go.ChangeShapes Go.WideShapes Go.ChangeAt Go.RowKit
set_option linter.unusedVariables false

theorem Rd.take {w : World} {a : Option Addr} {zs : List Int} (h : Rd w a zs) (k : Nat) : Rd w a (zs.take k) := by
  obtain ⟨h1, h2⟩ := h
  refine ⟨?_, fun z hz => h2 z (List.mem_of_mem_take hz)⟩
  rcases h1 with rfl | ⟨b, off, rfl, hc⟩
  · exact .inl (by simp)
  · refine .inr ⟨b, off, rfl, fun i hi => ?_⟩
    rw [List.length_take] at hi
    rw [hc i (by omega)]
    simp [List.getD, show i < k by omega]
theorem encB_pos {ps : List Pt} (h : encC ps = 0) : 0 < (encB ps).length := by
  unfold encB
  rw [if_pos h, pack_len]
  have := encP_min ps
  omega
theorem cut_ans {ps : List Pt} (hv : ∀ q ∈ ps, okV q.2) (h : encC ps = 0) (k : Nat) (hk : k < (encB ps).length) {c : Int} {qs : List Pt} (hd : DecAns ((encB ps).take k) c qs) : c = 52 := by
  have e : encB ps = pack (encP ps) := by unfold encB; rw [if_pos h]
  obtain ⟨h1, h2⟩ := encC_zero.1 h
  have hn : decR ((encB ps).take k) = none := dec_cut h2 hv h1 (x := (encB ps).take k) (y := (encB ps).drop k) (by rw [List.take_append_drop, e]) (by
    intro e'
    have := congrArg List.length e'
    simp at this
    omega)
  unfold DecAns at hd
  rw [hn] at hd
  exact hd.1
theorem more_ans {ps : List Pt} (hv : ∀ q ∈ ps, okV q.2) (h : encC ps = 0) {y : List Int} {c : Int} {qs : List Pt} (hd : DecAns (encB ps ++ y) c qs) : (y.length = 0 ∧ c = 0) ∨ (0 < y.length ∧ c = 52) := by
  have e : encB ps = pack (encP ps) := by unfold encB; rw [if_pos h]
  obtain ⟨h1, h2⟩ := encC_zero.1 h
  cases y with
  | nil =>
    rw [List.append_nil] at hd
    unfold DecAns at hd
    rw [dec_encB hv h] at hd
    exact .inl ⟨rfl, hd.1⟩
  | cons z r =>
    have hn : decR (encB ps ++ z :: r) = none := by rw [e]; exact dec_past h2 hv h1 (by simp)
    unfold DecAns at hd
    rw [hn] at hd
    exact .inr ⟨by simp, hd.1⟩
set_option maxRecDepth 100000 in
set_option maxHeartbeats 4000000 in
theorem chunkCuts_walk (a0 : Option Addr) (z0 : List Pnt) (cap0 : Nat) (a1 : Option Addr) (z1 : List Int) (cap1 : Nat) (W : World) (r0 : SRd pntE W a0 z0) (n0 : a0 = none → cap0 = 0) (l0 : z0.length ≤ 8796093021952) (hv : ∀ q ∈ z0, okV q.2)
    (r1 : Rd W a1 z1) (n1 : a1 = none → cap1 = 0) (l1 : z1.length ≤ 140737488351232) (hB : Bf W) :
    Calls Tryd.prog 7 #[.slice a0 z0.length cap0, .slice a1 z1.length cap1] W fun e w' => e = .returned (.bool true) ∧ Below W.heap.size W w' := by
  obtain ⟨cc, ecc⟩ : ∃ cc, cc = encC z0 := ⟨_, rfl⟩
  obtain ⟨bb, ebb⟩ : ∃ bb, bb = encB z0 := ⟨_, rfl⟩
  have HBY : Hid (∀ z ∈ bb, 0 ≤ z ∧ z ≤ 255) := by show ∀ z ∈ bb, _; rw [ebb]; exact encB_byte _
  have HPOS : Hid (cc = 0 → 0 < bb.length) := by intro h; rw [ebb]; exact encB_pos (ecc.symm.trans h)
  have HCUT : Hid (cc = 0 → ∀ k, k < bb.length → ∀ c qs, DecAns (bb.take k) c qs → c = 52) := by
    intro h k hk c qs hd
    rw [ebb] at hk hd
    exact cut_ans hv (ecc.symm.trans h) k hk hd
  have HMORE : Hid (cc = 0 → ∀ c qs, DecAns (bb ++ z1) c qs → (z1.length = 0 ∧ c = 0) ∨ (0 < z1.length ∧ c = 52)) := by
    intro h c qs hd
    rw [ebb] at hd
    exact more_ans hv (ecc.symm.trans h) hd
  have HCopy : Hid (Calls Tryd.prog 13 #[.slice a0 z0.length cap0] W fun e w' => ∃ g c, e = .returned (.slice (some ⟨g, 0, none⟩) z0.length c) ∧ POwn w' W.heap.size g z0.length c z0 ∧ W.grownBy w' none) := pcopy a0 z0 _ cap0 W r0 rfl n0 (by omega)
  have HF : Hid (∀ (g c : Nat) (w : World), W.grownBy w none → SRd pntE w (some ⟨g, 0, none⟩) z0 → Calls Tryd.prog 11 #[.slice (some ⟨g, 0, none⟩) z0.length c] w fun e w' => ∃ v n c, e = .returned (.tuple #[.slice v n c, .int .i64 cc]) ∧ BO w' w.heap.size v n c bb ∧ w.grownBy w' none) := by
    intro g c w hg hr
    refine (k_enc _ z0 _ c w hr rfl (by omega) hv (hB.grown hg (by simp))).mono ?_
    rintro e w' ⟨v, n, c', rfl, hn, ho, hg'⟩
    rw [← ecc]
    rw [← ebb] at ho hn
    exact ⟨v, n, c', rfl, ho, hg'⟩
  have HAw : Hid (∀ w, W.grownBy w none → Calls Tryd.prog 16 #[] w fun e w' => e = .returned (.bool true) ∧ w.grownBy w' none) := fun w hg => awake_chunk w (hB.grown hg (by simp))
  have HD : Hid (∀ (a : Option Addr) (zs : List Int) (L c : Nat) (w : World), W.grownBy w none → Rd w a zs → zs.length = L → L ≤ 140737488355000 → Calls Tryd.prog 19 #[.slice a L c] w fun e w' => ∃ v n c' qs d, e = .returned (.tuple #[.slice v n c', .int .i64 d]) ∧ w.grownBy w' none ∧ DecAns zs d qs) := by
    intro a zs L c w hg hr hL hz
    refine (k_dec a zs L c w hr hL (by omega) (hB.grown hg (by simp))).mono ?_
    rintro e w' ⟨v, n, c', ps, d, rfl, hn, ho, hg', hd⟩
    exact ⟨v, n, c', ps, d, rfl, hg', hd⟩
  have HR1 : Hid (Rd W a1 z1) := r1
  have HN1 : Hid (a1 = none → cap1 = 0) := n1
  obtain ⟨L, eL⟩ : ∃ L, L = z0.length := ⟨_, rfl⟩
  rw [← eL] at HCopy HF l0 ⊢
  obtain ⟨M, eM⟩ : ∃ M, M = z1.length := ⟨_, rfl⟩
  have HM : Hid (z1.length = M) := eM.symm
  rw [← eM] at HMORE l1 ⊢
  clear r0 n0 eL hB hv ecc ebb r1 n1 eM
  go_enter Tryd.func7, Tryd.ntmps7
  go_wp2_with fail
  refine HCopy.out.mono ?_
  rintro e w1 ⟨g1, c1, rfl, ho1, hg1⟩
  have HO1 : Hid (POwn w1 W.heap.size g1 L c1 z0) := ho1
  have HG1 : Hid (W.grownBy w1 none) := hg1
  clear ho1 hg1 HCopy
  go_wp2_with fail
  refine (HF.out g1 c1 w1 HG1.out HO1.out.rd).mono ?_
  rintro e w2 ⟨v1, m1, k1, rfl, lo1, hg2⟩
  have HLO1 : Hid (BO w2 w1.heap.size v1 m1 k1 bb) := lo1
  have HG2 : Hid (W.grownBy w2 none) := HG1.out.trans hg2
  clear lo1 hg2 HF HO1
  by_cases hcc : cc = 0
  · subst hcc
    by_cases h3 : m1 ≤ 300
    · have q3 : decide ((300 : Int) < (m1 : Int)) = false := by simp; omega
      obtain ⟨g, rfl, hkc⟩ : ∃ g, v1 = some ⟨g, 0, none⟩ ∧ m1 ≤ k1 := by
        have hp := HPOS.out rfl
        have hl := HLO1.out.len
        obtain ⟨g, cap, e, _, _, h1, h2⟩ := SOwn.some HLO1.out (by intro e; simp only [Value.slice.injEq] at e; omega)
        simp only [Value.slice.injEq] at e
        obtain ⟨rfl, _, rfl⟩ := e
        exact ⟨g, rfl, h1⟩
      have hk0 : (k1 : Int) ≤ 9223372036854775807 := by
        have h := HLO1.out.2
        rcases h with ⟨h', h0⟩ | ⟨g', cap, cur, h', _, _, h3, h4, _⟩
        · simp at h'
        · simp only [Value.slice.injEq] at h'
          obtain ⟨_, _, rfl⟩ := h'
          unfold maxLen at h4
          omega
      clear HPOS
      go_wp2
      go_loopw [7] (fun i wr => ∃ k : Nat, k ≤ m1 ∧ i = .int .i64 k ∧ w2.grownBy wr none) (fun i _ => m1 - (intOf i).toNat)
      case atStart => exact ⟨0, Nat.zero_le _, rfl, World.grownBy.refl _ _⟩
      case round =>
        obtain ⟨k, hk, rfl, hgr⟩ := hrel
        have HGR : Hid (w2.grownBy wr none) := hgr
        have HGW : Hid (W.grownBy wr none) := HG2.out.trans hgr
        clear hgr
        by_cases hlt : k < m1
        · have hi : (k : Int) < (m1 : Int) := by omega
          have hki : (k : Int) ≤ (k1 : Int) := by omega
          have HRk : Hid (Rd wr (some ⟨g, 0, none⟩) (bb.take k)) := ((HLO1.out.kept HGR.out).rd HBY.out).take k
          have HLk : Hid ((bb.take k).length = k) := by have hl := HLO1.out.len; show _ = _; rw [List.length_take]; omega
          have HCk : Hid (Calls Tryd.prog 21 #[.slice (some ⟨g, 0, none⟩) k k1] wr fun e w' => ∃ g' c, e = .returned (.slice (some ⟨g', 0, none⟩) k c) ∧ Own w' wr.heap.size g' k c (bb.take k) ∧ wr.grownBy w' none) := by
            have h := copy_any (some ⟨g, 0, none⟩) (bb.take k) k1 wr HRk.out (by simp) (by rw [HLk.out]; omega)
            rw [HLk.out] at h
            exact h
          have HC52 : Hid (∀ c qs, DecAns (bb.take k) c qs → c = 52) := HCUT.out (by trivial) k (by have hl := HLO1.out.len; omega)
          go_wp2_with fail
          refine HCk.out.mono ?_
          rintro e w3 ⟨g3, c3, rfl, ho3, hg3⟩
          have HO3 : Hid (Own w3 wr.heap.size g3 k c3 (bb.take k)) := ho3
          have HG3 : Hid (w2.grownBy w3 none) := HGR.out.trans hg3
          have HGW3 : Hid (W.grownBy w3 none) := HGW.out.trans hg3
          clear ho3 hg3 HCk
          go_wp2_with fail
          refine (HD.out (some ⟨g3, 0, none⟩) (bb.take k) k c3 w3 HGW3.out HO3.out.rd HLk.out (by omega)).mono ?_
          rintro e w4 ⟨v4, m4, c4, qs4, d4, rfl, hg4, hd4⟩
          obtain rfl := HC52.out _ _ hd4
          have HG4 : Hid (w2.grownBy w4 none) := HG3.out.trans hg4
          clear hg4 hd4 HC52
          go_wp2
          go_roundw
          case rel => exact ⟨k + 1, by omega, by go_num, HG4.out⟩
          case measure => simp [intOf]; omega
        · obtain rfl : k = m1 := by omega
          have HRb : Hid (Rd wr (some ⟨g, 0, none⟩) bb) := (HLO1.out.kept HGR.out).rd HBY.out
          have HLb : Hid (bb.length = k) := HLO1.out.len
          have HCb : Hid (Calls Tryd.prog 21 #[.slice (some ⟨g, 0, none⟩) k k1] wr fun e w' => ∃ g' c, e = .returned (.slice (some ⟨g', 0, none⟩) k c) ∧ Own w' wr.heap.size g' k c bb ∧ wr.grownBy w' none) := by
            have h := copy_any (some ⟨g, 0, none⟩) bb k1 wr HRb.out (by simp) (by rw [HLb.out]; omega)
            rw [HLb.out] at h
            exact h
          have HMO : Hid (∀ c qs, DecAns (bb ++ z1) c qs → (M = 0 ∧ c = 0) ∨ (0 < M ∧ c = 52)) := HMORE.out (by trivial)
          clear HCUT HMORE
          go_wp2_with fail
          refine HCb.out.mono ?_
          rintro e w3 ⟨g3, c3, rfl, ho3, hg3⟩
          have HO3 : Hid (SOwn byteE 5 w3 wr.heap.size (.slice (some ⟨g3, 0, none⟩) k c3) k bb) := by
            show SOwn byteE 5 w3 wr.heap.size (.slice (some ⟨g3, 0, none⟩) k c3) k bb
            unfold SOwn
            rw [byteE_flat]
            exact ho3.1
          have HG3 : Hid (W.grownBy w3 none) := HGW.out.trans hg3
          have HS3 : Hid (wr.heap.size ≤ w3.heap.size) := hg3.size
          have HGE : Hid (W.heap.size ≤ g3) := Nat.le_trans HGW.out.size ho3.ge.1
          have HR13 : Hid (SRd byteE w3 a1 z1) := rd_srd (HR1.out.grown HG3.out (by simp))
          clear ho3 hg3 HCb HRb
          go_wp2_with (at_builtin; refine wpList_append_s byteET rfl (.tmp 44) (.tmp 45) rfl wr.heap.size (.slice (some ⟨g3, 0, none⟩) k c3) k bb rfl HO3.out a1 z1 M cap1 rfl HM.out HR13.out HN1.out (by omega) (by unfold maxLen; omega) HS3.out ?_; intro v4 w4 ho4 hg4 hn4)
          have HO4 : Hid (SOwn byteE 5 w4 wr.heap.size v4 (k + M) (bb ++ z1)) := ho4
          have HG4 : Hid (W.grownBy w4 none) := gb_trans HG3.out hg4 (fun i hi => .inl (by simp [Value.ownBlock] at hi; have := HGE.out; omega))
          obtain ⟨a4, c4, rfl⟩ := SOwn.form ho4
          have HR4 : Hid (Rd w4 a4 (bb ++ z1)) := sown_rd HO4.out (by
            intro z hz
            rcases List.mem_append.1 hz with h | h
            · exact HBY.out z h
            · exact HR1.out.2 z h)
          have HL4 : Hid ((bb ++ z1).length = k + M) := SOwn.len HO4.out
          clear ho4 hg4 hn4 HO3 HR13
          go_wp2_with fail
          refine (HD.out a4 (bb ++ z1) (k + M) c4 w4 HG4.out HR4.out HL4.out (by omega)).mono ?_
          rintro e w5 ⟨v5, m5, c5, qs5, d5, rfl, hg5, hd5⟩
          have HG5 : Hid (W.grownBy w5 none) := HG4.out.trans hg5
          rcases HMO.out _ _ hd5 with ⟨hM, rfl⟩ | ⟨hM, rfl⟩
          · subst hM
            clear hg5 hd5 HMO
            go_wp2_with fail
            refine (HAw.out w5 HG5.out).mono ?_
            rintro e w6 ⟨rfl, hg6⟩
            have HG6 : Hid (W.grownBy w6 none) := HG5.out.trans hg6
            clear hg6
            go_wp2
            go_ret
            exact ⟨rfl, gb_below HG6.out⟩
          · have qM : ((M : Int) == 0) = false := by simp; omega
            clear hg5 hd5 HMO
            go_wp2_with fail
            refine (HAw.out w5 HG5.out).mono ?_
            rintro e w6 ⟨rfl, hg6⟩
            have HG6 : Hid (W.grownBy w6 none) := HG5.out.trans hg6
            clear hg6
            go_wp2
            go_ret
            exact ⟨rfl, gb_below HG6.out⟩
    · have q3 : decide ((300 : Int) < (m1 : Int)) = true := by simp; omega
      go_wp2_with fail
      refine (HAw.out w2 HG2.out).mono ?_
      rintro e w3 ⟨rfl, hg3⟩
      have HG3 : Hid (W.grownBy w3 none) := HG2.out.trans hg3
      clear hg3
      go_wp2
      go_ret
      exact ⟨rfl, gb_below HG3.out⟩
  · have qc : (cc != 0) = true := by simpa using hcc
    go_wp2_with fail
    refine (HAw.out w2 HG2.out).mono ?_
    rintro e w3 ⟨rfl, hg3⟩
    have HG3 : Hid (W.grownBy w3 none) := HG2.out.trans hg3
    clear hg3
    go_wp2
    go_ret
    exact ⟨rfl, gb_below HG3.out⟩
end Go.Proofs.YtacpibidkfbojaaDoor
