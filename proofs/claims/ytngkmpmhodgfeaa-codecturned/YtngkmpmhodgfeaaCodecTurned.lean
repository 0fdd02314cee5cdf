/- A frame with one bit turned behind its length is not read as a record, and each beginning of it ends too early: for every slice of bytes and every place. -/
import Derived.Test.YtngkmpmhodgfeaaCturn
namespace Go.Proofs.Ytngkmpmhodgfeaa
open Go.ChangeShapes Go.WideShapes Go.ChangeAt Go.RowKit
set_option linter.unusedVariables false

theorem rd_take {w : World} {a : Option Addr} {zs : List Int} (h : Rd w a zs) (k : Nat) : Rd w a (zs.take k) := by
  refine ⟨?_, fun z hz => h.2 z (List.mem_of_mem_take hz)⟩
  rcases h.1 with rfl | ⟨b, off, rfl, hc⟩
  · left; simp
  · right
    refine ⟨b, off, rfl, fun i hi => ?_⟩
    have hi' : i < k ∧ i < zs.length := by simp at hi; omega
    rw [hc i hi'.2]
    simp [List.getD_eq_getElem?_getD, hi'.1]

theorem flip_byte (z : Int) (s : Nat) (h0 : 0 ≤ z) (h1 : z ≤ 255) (hs : s < 8) : (0 ≤ bits .xor .u8 z (2 ^ s) ∧ bits .xor .u8 z (2 ^ s) ≤ 255) ∧ bits .xor .u8 z (2 ^ s) ≠ z := by
  have key : ∀ (Z : Fin 256) (S : Fin 8), (Z.val ^^^ 2 ^ S.val) < 256 ∧ (Z.val ^^^ 2 ^ S.val) ≠ Z.val := by decide +kernel
  obtain ⟨Z, rfl⟩ := Int.eq_ofNat_of_zero_le h0
  have hZ : Z < 256 := by omega
  have e : (2 : Int) ^ s = ((2 ^ s : Nat) : Int) := by rw [Int.natCast_pow]; rfl
  have hp : 2 ^ s < 256 := by
    have : (2 : Nat) ^ s ≤ 2 ^ 7 := Nat.pow_le_pow_right (by decide) (by omega)
    omega
  rw [e, u8_xor_nat Z _ hZ hp]
  obtain ⟨k1, k2⟩ := key ⟨Z, hZ⟩ ⟨s, hs⟩
  simp only at k1 k2
  omega

theorem two_mod (s : Nat) (hs : s < 8) : (2 : Int) ^ s % 256 = 2 ^ s := by
  have key : ∀ S : Fin 8, (2 : Int) ^ S.val % 256 = 2 ^ S.val := by decide
  exact key ⟨s, hs⟩
set_option maxHeartbeats 2000000 in
theorem codecTurned_walk (a0 : Option Addr) (z0 : List Int) (cap0 : Nat) (y : Int) (W : World) (r0 : Rd W a0 z0) (n0 : a0 = none → cap0 = 0) (l0 : z0.length ≤ 140737488351232) (w1 : (Lit.int .i64 y).wf = true) :
    Calls Try.prog 7 #[.slice a0 z0.length cap0, .int .i64 y] W fun e w' => e = .returned (.bool true) ∧ Below W.heap.size W w' := by
  clear w1
  obtain ⟨F, hF⟩ : ∃ F, flist z0 = F := ⟨_, rfl⟩
  obtain ⟨cd, hcd⟩ : ∃ F, fcode z0 = F := ⟨_, rfl⟩
  have HK0 : Hid (Calls Try.prog 32 #[.slice a0 z0.length cap0] W fun e w' => ∃ g c, e = .returned (.slice (some ⟨g, 0, none⟩) z0.length c) ∧ Own w' W.heap.size g z0.length c z0 ∧ W.grownBy w' none) := copy_any a0 z0 cap0 W r0 n0 l0
  have HFr : Hid (flist z0 = F) := hF
  have HFc : Hid (fcode z0 = cd) := hcd
  by_cases hbig : 300 < z0.length
  · have HE : Hid (z0.length = z0.length) := rfl
    obtain ⟨L, hL⟩ : ∃ L, z0.length = L := ⟨_, rfl⟩
    have HL : Hid (z0.length = L) := hL
    rw [hL] at HK0 l0 hbig ⊢
    have hd : decide ((300 : Int) < (L : Int)) = true := by simp; omega
    clear hF hcd r0 n0 hL hbig
    go_enter Try.func7, Try.ntmps7
    go_wp2_with fail
    refine HK0.out.mono ?_
    rintro e w1 ⟨g1, c1, rfl, ho1, hg1⟩
    go_wp2_with fail
    refine (f_frame (some ⟨g1, 0, none⟩) z0 L c1 F cd w1 ho1.rd HL.out (by simp) (by omega) HFr.out HFc.out).mono ?_
    rintro e w2 ⟨vf, Nf, cf, rfl, hof, hg2⟩
    have hG2 := gb_trans hg1 hg2 (by simp)
    clear ho1 hg1 hg2 hof
    by_cases hc0 : cd = 0
    · subst hc0
      go_wp2_with fail
      refine (awake_any _).mono ?_
      rintro e w3 ⟨rfl, hg3⟩
      go_wp2
      go_ret
      exact ⟨rfl, gb_below (gb_trans hG2 hg3 (by simp))⟩
    · have hcb : (cd != 0) = true := by simpa using hc0
      clear hc0
      go_wp2_with fail
      refine (awake_any _).mono ?_
      rintro e w3 ⟨rfl, hg3⟩
      go_wp2
      go_ret
      exact ⟨rfl, gb_below (gb_trans hG2 hg3 (by simp))⟩
  · have hcd0 : cd = 0 := by rw [← hcd, fcode, if_neg (by omega)]
    subst hcd0
    have eF : F = frameR z0 := by rw [← hF, flist, if_neg (by omega)]
    have h4 : (four (sumR z0)).length = 4 := rfl
    have hh := enc_len z0.length (by omega)
    have hh1 := enc_len_pos z0.length
    obtain ⟨H, hH⟩ : ∃ H, (enc z0.length).length = H := ⟨_, rfl⟩
    have hFl : F.length = H + 4 + z0.length := by rw [eF, frameR]; simp [h4]; omega
    have HCut : Hid (∀ i, i < F.length → uframeR (F.take i) 0 = ([], 0, 20)) := fun i hi => by rw [eF] at hi ⊢; exact uframe_cut z0 (by omega) i hi
    have HTurn : Hid (∀ j u, 0 ≤ u ∧ u ≤ 255 → H ≤ j → j < F.length → u ≠ F.getD j 0 → ∃ r2 r1, uframeR (F.set j u) 0 = (r1, r2, 22)) := fun j u h1 h2 h3 h5 => by
      rw [eF] at h3 h5 ⊢; exact uframe_turned z0 r0.2 (by omega) j u h1 (by omega) h3 h5
    have HFb : Hid (∀ z ∈ F, 0 ≤ z ∧ z ≤ 255) := by
      rw [eF, frameR]
      intro z hz
      simp only [List.mem_append] at hz
      rcases hz with (h1 | h1) | h1
      · exact enc_byte _ z h1
      · exact four_byte _ (sumR_bd z0 r0.2) z h1
      · exact r0.2 z h1
    obtain ⟨L, hL⟩ : ∃ L, z0.length = L := ⟨_, rfl⟩
    have HL : Hid (z0.length = L) := hL
    rw [hL] at HK0 l0 hbig hFl ⊢
    have hd : decide ((300 : Int) < (L : Int)) = false := by simp; omega
    obtain ⟨M, hM⟩ : ∃ M, F.length = M := ⟨_, rfl⟩
    have HM : Hid (F.length = M) := hM
    rw [hM] at hFl HCut HTurn
    have hb1 : 1 ≤ H ∧ H ≤ 10 := by omega
    have hb2 : L ≤ 300 ∧ M ≤ 320 ∧ H + 4 ≤ M := by omega
    have HMe : Hid (M = H + 4 + L) := hFl
    clear hF hcd r0 n0 hL hbig eF h4 hh hh1 hH hM hFl
    go_enter Try.func7, Try.ntmps7
    go_wp2_with fail
    refine HK0.out.mono ?_
    rintro e w1 ⟨g1, c1, rfl, ho1, hg1⟩
    go_wp2_with fail
    refine (f_frame (some ⟨g1, 0, none⟩) z0 L c1 F 0 w1 ho1.rd HL.out (by simp) (by omega) HFr.out HFc.out).mono ?_
    rintro e w2 ⟨vf, Nf, cf, rfl, hof, hg2⟩
    have hNf : Nf = M := hof.1.symm.trans HM.out
    subst hNf
    have hG2 := gb_trans hg1 hg2 (by simp)
    have eH : (Nf : Int) - (L : Int) - 4 = (H : Int) := by have := HMe.out; omega
    have HeH : Hid ((Nf : Int) - (L : Int) - 4 = (H : Int)) := eH
    clear ho1 hg1 hg2 eH
    have hLM : (L : Int) + 5 ≤ (Nf : Int) := by have := HMe.out; omega
    go_wp2_with fail
    rw [HeH.out]
    refine (Low_any _ _).mono ?_
    rintro e w' ⟨r, rfl, hr0, hr1, rfl⟩
    have hpos : (0 : Int) < 8 * ((Nf : Int) - (H : Int)) := by omega
    have hq0 := Int.emod_nonneg r (show 8 * ((Nf : Int) - (H : Int)) ≠ 0 by omega)
    have hq1 := Int.emod_lt_of_pos r hpos
    go_wp2_with fail
    obtain ⟨K, hK⟩ : ∃ K : Nat, 8 * (H : Int) + r % (8 * ((Nf : Int) - (H : Int))) = (K : Int) := ⟨(8 * (H : Int) + r % (8 * ((Nf : Int) - (H : Int)))).toNat, by omega⟩
    have hKb : 8 * H ≤ K ∧ K < 8 * Nf := by omega
    rw [hK]
    clear hq0 hq1 hK hpos hr0 hr1
    have hcp := copy_any vf F cf w2 hof.2.1 hof.2.2.1 (by have := HM.out; omega)
    rw [HM.out] at hcp
    refine hcp.mono ?_
    rintro e w3 ⟨g3, c3, rfl, ho3, hg3⟩
    have ge3 := ho3.ge
    have hW2 := hG2.size
    have hG3 := gb_trans hG2 hg3 (by simp)
    have hof3 := hof.kept hg3 (by simp)
    have hcell := ho3.cell (K / 8) (by omega)
    have hfr := ho3.1.frozenAt (K / 8)
    have hby := ho3.rd.byte (K / 8)
    obtain ⟨z, ez⟩ : ∃ z, z = F.getD (K / 8) 0 := ⟨_, rfl⟩
    rw [← ez] at hcell hby
    have hfl := flip_byte z (K % 8) hby.1 hby.2 (by omega)
    have HFl : Hid (_ ∧ _) := hfl
    obtain ⟨t2, t1, hT⟩ := HTurn.out (K / 8) (bits .xor .u8 z (2 ^ (K % 8))) hfl.1 (by omega) (by omega) (by rw [← ez]; exact hfl.2)
    have HT : Hid (uframeR (F.set (K / 8) (bits .xor .u8 z (2 ^ (K % 8)))) 0 = (t1, t2, 22)) := hT
    have HO3 : Hid (Own w3 w2.heap.size g3 Nf c3 F) := ho3
    have HG3 : Hid (W.grownBy w3 none) := hG3
    have HOF : Hid (Out w1 w3 vf Nf cf F) := hof3
    have HG23 : Hid (w2.grownBy w3 none) := hg3
    have HOF2 : Hid (Out w1 w2 vf Nf cf F) := hof
    have hKi : (K : Int) / 8 < (Nf : Int) := by omega
    clear hcp hT hfl ez ho3 hg3 hG3 hof3 hof hG2 HTurn HeH
    have HcK : Hid (K % 8 < 8) := Nat.mod_lt _ (by decide)
    go_wp2
    go_region
    go_wp2_with fail
    rw [two_mod (K % 8) HcK.out]
    have ho4 := (HO3.out.set (K / 8) _ HFl.out.1).drew
    have hg24 := gb_drew (gb_trans HG23.out (gb_set (p := ⟨g3, K / 8, none⟩) (u := .int .u8 (bits .xor .u8 z (2 ^ (K % 8)))) rfl) (fun j hj => .inl (by simp at hj; omega)))
    have hg34 := gb_drew (gb_trans HG3.out (gb_set (p := ⟨g3, K / 8, none⟩) (u := .int .u8 (bits .xor .u8 z (2 ^ (K % 8)))) rfl) (fun j hj => .inl (by simp at hj; omega)))
    refine (f_unframe (some ⟨g3, 0, none⟩) _ Nf c3 0 t1 t2 22 _ ho4.rd ho4.len ho4.cap.1 (by omega) HT.out).mono ?_
    rintro e w5 ⟨v5, N5, c5, rfl, ho5, hg5⟩
    have HG5 : Hid (W.grownBy w5 none) := gb_trans hg34 hg5 (by simp)
    have hO5 : Out w1 w5 vf Nf cf F := (HOF2.out.kept hg24 (by simp)).kept hg5 (by simp)
    obtain ⟨b, off, rfl, hcc⟩ := hO5.2.1.at (by have := HM.out; omega)
    have hcf := hO5.2.2.2.1
    have HR5 : Hid (Rd w5 (some ⟨b, off, none⟩) F) := hO5.2.1
    clear hO5 hcc ho5 ho4 hg24 hg34 hg5 HOF HOF2 HG3 HG23 HO3 hcell hfr hby HFl HT hKi
    go_wp2_with fail
    have HGB : Hid (w5.grownBy w5 none) := gb_drewN w5 0
    go_loopw [13] (fun i wr => ∃ k : Nat, k ≤ Nf ∧ i = .int .i64 k ∧ w5.grownBy wr none) (fun i _ => Nf - (intOf i).toNat)
    case atStart => exact ⟨0, Nat.zero_le _, rfl, HGB.out⟩
    case round =>
      obtain ⟨k, hk, rfl, hgr⟩ := hrel
      have HGR : Hid (w5.grownBy wr none) := hgr
      clear hgr
      by_cases hlt : k < Nf
      · have hi : (k : Int) < (Nf : Int) := by omega
        have hR := rd_take (HR5.out.grown HGR.out (by simp)) k
        have hcp := copy_any (some ⟨b, off, none⟩) (F.take k) cf wr hR (by simp) (by simp; omega)
        have hkl : (F.take k).length = k := by have := HM.out; simp; omega
        rw [hkl] at hcp
        have HCP : Hid (Calls Try.prog 32 #[.slice (some ⟨b, off, none⟩) k cf] wr _) := hcp
        clear hcp hR
        go_wp2_with fail
        refine HCP.out.mono ?_
        rintro e w6 ⟨g6, c6, rfl, ho6, hg6⟩
        go_wp2_with fail
        refine (f_unframe (some ⟨g6, 0, none⟩) _ k c6 0 [] 0 20 _ ho6.rd ho6.len ho6.cap.1 (by omega) (HCut.out k hlt)).mono ?_
        rintro e w7 ⟨v7, N7, c7, rfl, ho7, hg7⟩
        have HG7 : Hid (w5.grownBy w7 none) := gb_trans (gb_trans HGR.out hg6 (by simp)) hg7 (by simp)
        clear ho6 hg6 ho7 hg7
        go_wp2
        go_roundw
        case rel => exact ⟨k + 1, by omega, by go_num, HG7.out⟩
        case measure => simp [intOf]; omega
      · go_wp2_with fail
        refine (awake_any _).mono ?_
        rintro e w8 ⟨rfl, hg8⟩
        go_wp2
        go_ret
        exact ⟨rfl, gb_below (gb_trans (gb_trans HG5.out HGR.out (by simp)) hg8 (by simp))⟩

set_option maxRecDepth 100000 in
theorem codecTurned_lifted (os : Os) (started : os.Started) (H : Type) (enc : TypeId × Value → H) :
    ReturnsInHanded {} Try.checked os 7 .any (Rows.codecTurnedSpec.pre6 enc Try.prog Try.f7 Rows.codecTurnedRow.domain false) (Rows.codecTurnedSpec.post enc Try.prog Try.f7 false true false false) := by
  refine returnsInHanded_of_change_sized (C := Try.checked) own started (by kernel_rfl) Try.func7
    (ChangeSpec.witness6 (enc := enc) (C := Try.checked) false ⟨#[], #[.slice none 0 0, .int .i64 0], []⟩ 8 (by kernel_rfl) (by kernel_rfl) (by kernel_rfl) (by kernel_rfl)) ?_
  intro W base args ds gs before hval0 hW hcnd hsz0 _
  have hsz : (DataW.weightsEach Try.prog (Try.f7.params.toList ++ Rows.codecTurnedSpec.plain.varTypes Try.prog) (ds ++ gs)).all (· ≤ reachBytes) = true := hsz0
  clear hsz0
  have hval : ∀ (j : Nat) t v, Try.f7.params[j]? = some t → args[j]? = some v → Value.okWide Try.prog W .any base t v := hval0
  have hW' := hW
  obtain ⟨p, q, hA0, hV, rfl, hfz, hnd⟩ := hW
  have hA : DataW.TrodAll enc Try.prog W 0 (fun _ => true) true Try.f7.params.toList args.toList ds p := hA0
  rw [Try.params7] at hA hval hsz
  obtain ⟨v0, vs0, d0, ds0, p0, q0, hargs, rfl, rfl, h0, r0⟩ := trodAll_cons hA
  obtain ⟨v1, vs1, d1, ds1, p1, q1, rfl, rfl, rfl, h1, r1⟩ := trodAll_cons r0
  obtain ⟨rfl, rfl, rfl⟩ := trodAll_nil r1
  obtain rfl : args = #[v0, v1] := by cases args; simp_all
  obtain ⟨rfl, rfl⟩ := trodVars_none hV
  obtain ⟨a0, len0, cap0, rfl⟩ := okWide_slice Try.underlying22 (hval 0 22 v0 rfl rfl)
  have k0 := h0
  have lt0 : ∀ x ∈ p0, x.block < W.heap.size := by obtain ⟨m, hm⟩ := k0; exact DataW.trod_lt m _ _ _ hm
  obtain ⟨z0, e0, rd0, nl0, le0⟩ := open_bytes k0 hsz (j := 0) rfl rfl
  subst e0
  obtain ⟨a1, rfl, rfl, rfl, w1⟩ := open_int Try.underlying3 (hval 1 3 v1 rfl rfl) h1
  clear hA0 hval0
  refine (codecTurned_walk a0 z0 cap0 a1 W rd0 nl0 le0 w1).mono fun e W' ⟨he, bel⟩ => ?_
  subst he
  exact ⟨_, rfl, _, _, _, [], _, [], hW', trodAll_mk1 (shut_bool Try.underlying4 _), (trodAll_cons_mk (Below.trod laidOut (by kernel_rfl) (of_decide_eq_true (by kernel_rfl)) k0 bel lt0) (trodAll_cons_mk (shut_int Try.underlying3 w1) trodAll_mk0)), rfl, bel.frame _, fun h => by cases h⟩

theorem codecTurned_over : Rows.codecTurnedRow.holds Try.pinned (OpenSpec.ofChange Rows.codecTurnedSpec) :=
  OpenClaim.holds_of_wide 7 Try.f7 rfl rfl rfl rfl rfl rfl rfl ⟨rfl, rfl, rfl, rfl, rfl⟩ rfl rfl rfl rfl rfl (by kernel_rfl) Try.func7 (by kernel_rfl)
    (of_decide_eq_true (by kernel_rfl)) (by unfold Func.isWrapper; first | (rw [if_pos (by decide +kernel)]; kernel_rfl) | (rw [if_neg (by decide +kernel)]; exact ⟨rfl, rfl⟩))
    (fun os started H enc _ => codecTurned_lifted os started H enc)

theorem codecTurned_holds : Rows.CodecTurnedSaid := codecTurned_over
#print axioms codecTurned_holds
end Go.Proofs.Ytngkmpmhodgfeaa
