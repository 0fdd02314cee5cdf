/- ObjKeys: the walk. -/
import Derived.Test.YtlmddmfoodejmaaWkc
namespace Go.Proofs.Ytlmddmfoodejmaa
open Go.RowKit Go.Maps
set_option linter.unusedVariables false
set_option maxRecDepth 20000

set_option maxHeartbeats 16000000 in
theorem objKeys_walk (a : Option Addr) (ks : List ByteArray) (L c : Nat) (b : Option Addr) (zs : List Int) (M cap : Nat) (pre : ByteArray) (W : World) (hr : SRd strE W a ks) (hss : ∀ s ∈ ks, (s.size : Int) ≤ 9223372036854775807) (hL : ks.length = L) (hL2 : L ≤ 140737488351232) (hz : Rd W b zs) (hnil : b = none → cap = 0) (hM : zs.length = M) (hM2 : M ≤ 140737488351232) (hpre : pre.size ≤ 140737488351232) :
    Calls Try.prog 5 #[.slice a L c, .slice b M cap, .string pre] W fun e w' => e = .returned (.bool true) ∧ Below W.heap.size W w' := by
  have HAW : Hid (∀ w, Calls Try.prog 9 #[] w fun e w' => e = .returned (.bool true) ∧ w.grownBy w' none) := o_awake
  have HA0 := st_new W
  have HR : Hid (SRd strE W a ks) := hr
  have HSS : Hid (∀ s ∈ ks, (s.size : Int) ≤ 9223372036854775807) := hss
  have HL : Hid (ks.length = L) := hL
  have HZ : Hid (Rd W b zs) := hz
  have HM : Hid (zs.length = M) := hM
  have HNIL : Hid (b = none → cap = 0) := hnil
  clear hr hss hL hz hM hnil
  go_enter Try.func5, Try.ntmps5
  go_wp2_with fail
  refine HA0.mono ?_
  rintro e w1 ⟨d, mb, B, rfl, hd, hW, hlo, hlt⟩
  have HA1 := ks_new W hd hW hlo hlt
  clear HA0 hd hW hlo hlt
  go_wp2_with fail
  refine HA1.mono ?_
  rintro e w2 ⟨p, rfl, hS⟩
  have HS : Hid (KsG W w2 d mb p O0 [] (.slice none 0 0) 0 0) := hS
  clear HA1 hS
  by_cases hM1 : 1000 < M
  · have q1 : decide ((1000 : Int) < (M : Int)) = true := by simp; omega
    have q2 : decide (1000 < M) = true := by simp; omega
    go_wp2_with fail
    refine (HAW.out _).mono ?_
    rintro e w3 ⟨rfl, hg⟩
    have HG : Hid (W.grownBy w3 none) := HS.out.from_.trans hg
    clear hg
    go_wp2
    go_ret
    exact ⟨rfl, gb_below HG.out⟩
  · have q1 : decide ((1000 : Int) < (M : Int)) = false := by simp; omega
    have q2 : decide (1000 < M) = false := by simp; omega
    by_cases hL1 : 50 < L
    · have q3 : decide ((50 : Int) < (L : Int)) = true := by simp; omega
      have q4 : decide (50 < L) = true := by simp; omega
      go_wp2_with fail
      refine (HAW.out _).mono ?_
      rintro e w3 ⟨rfl, hg⟩
      have HG : Hid (W.grownBy w3 none) := HS.out.from_.trans hg
      clear hg
      go_wp2
      go_ret
      exact ⟨rfl, gb_below HG.out⟩
    · have q3 : decide ((50 : Int) < (L : Int)) = false := by simp; omega
      have q4 : decide (50 < L) = false := by simp; omega
      go_wp2
      go_loopw [9, 10] (fun v i wr => ∃ k tn : Nat, k ≤ L ∧ tn ≤ k ∧ i = .int .i64 k ∧ Hid (KsG W wr d mb p (stO ks zs k) (stT ks k) v tn k)) (fun _ i _ => L - (intOf i).toNat)
      case atStart => exact ⟨0, 0, Nat.zero_le _, Nat.le_refl _, rfl, HS⟩
      case round =>
        obtain ⟨k, tn, hk, htn, rfl, HI⟩ := hrel
        by_cases hlt : k < L
        · have hi : (k : Int) < (L : Int) := by omega
          obtain ⟨s, ex⟩ : ∃ s, ks[k]? = some s := ⟨_, List.getElem?_eq_getElem (by have := HL.out; omega)⟩
          obtain ⟨ba, off, rfl, hcc⟩ := HR.out.at (by have := HL.out; omega)
          have HCELL : Hid (∀ w', W.grownBy w' none → w'.cell? ⟨ba, off + k, none⟩ = some (.string s)) := fun w' hg => by
            have h := hcc k s 0 (.string s) ex rfl
            have h' : W.cell? ⟨ba, off + k, none⟩ = some (.string s) := by simpa [strE] using h
            exact hg.cell h' (by simp)
          have HEX : Hid (ks[k]? = some s) := ex
          have HSZ : Hid ((s.size : Int) ≤ 9223372036854775807) := HSS.out s (List.mem_of_getElem? ex)
          have HOK : Hid (KeysOk ks zs k) := keysOk ks zs k (by have := HL.out; omega)
          obtain ⟨y, ey⟩ : ∃ y : Int, (k : Int) % 256 = y := ⟨_, rfl⟩
          have ey2 : IntKind.u8.wrap (k : Int) = y := by rw [IntKind.wrap_u8]; exact ey
          have hy : 0 ≤ y ∧ y ≤ 255 := by omega
          have HEY : Hid ((k : Int) % 256 = y) := ey
          obtain ⟨a3, c3, e3⟩ := sown_sliceT HI.out.own
          subst e3
          have HCP : Hid (∀ w1, wr.grownBy w1 none → Calls Try.prog 11 #[.slice b M cap] w1 fun e w' => ∃ g c, e = .returned (.slice (some ⟨g, 0, none⟩) M c) ∧ Own w' w1.heap.size g M c zs ∧ w1.grownBy w' none) := fun w1 hg => by
            have := copy_any b zs cap w1 (HZ.out.grown (HI.out.from_.trans hg) (by simp)) HNIL.out (by have := HM.out; omega)
            rw [HM.out] at this
            exact this
          have a0 := HCELL.out wr HI.out.from_
          have HYB : Hid (∀ z ∈ zs ++ [y], 0 ≤ z ∧ z ≤ 255) := by
            intro z hz
            rcases List.mem_append.1 hz with h | h
            · exact HZ.out.2 z h
            · rw [List.mem_singleton] at h; subst h; exact hy
          have HYL : Hid (∀ z ∈ [y], 0 ≤ z ∧ z ≤ 255) := by
            intro z h
            rw [List.mem_singleton] at h; subst h; exact hy
          have HGEN : Hid (genO (stO ks zs k s) ≤ 50) := by show _ ≤ _; have := HOK.out.gen s; omega
          clear hcc ex ey
          cases hkb : keyB s with
          | true =>
            have HKB : Hid (keyB s = true) := hkb
            clear hkb
            go_upto_region 8 with fail
            go_region_held3 (fun V => V.cell? ⟨ba, off + k, none⟩ = some (.string s)) (go_keep) (first
              | (go_at_call 11; refine (HCP.out _ (gd wr)).mono ?_; rintro e w3 ⟨gq, cq, rfl, ho, hg3⟩; have HO : Hid (Own w3 wr.heap.size gq M cq zs) := ho; have HG3 : Hid (wr.grownBy w3 none) := (gd wr).trans hg3; have a1 := HCELL.out w3 (HI.out.from_.trans HG3.out); clear ho hg3)
              | (go_at_call 11; refine (HCP.out _ ((gd wr).trans (World.grownBy_alloc wr.drew _ none))).mono ?_; rintro e w3 ⟨gq, cq, rfl, ho, hg3⟩; have HO : Hid (Own w3 wr.heap.size gq M cq zs) := ho.base (Nat.le_trans (Nat.le_succ _) (Nat.le_of_eq (Array.size_push _).symm)); have HLIT : Hid (Rd w3 (some ⟨wr.heap.size, 0, none⟩) [y]) := (rd_lit wr.drew [y] HYL.out).grown hg3 (by simp); have HG3 : Hid (wr.grownBy w3 none) := ((gd wr).trans (World.grownBy_alloc wr.drew _ none)).trans hg3; have a1 := HCELL.out w3 (HI.out.from_.trans HG3.out); clear ho hg3)
              | (refine step_append_b rfl (.tmp 61) (.tmp 64) rfl wr.heap.size (.slice (some ⟨gq, 0, none⟩) M cq) M zs (by simp [Act.eval]) (own_sown (HO.out.kept (World.grownBy_alloc w3 _ none) (by simp))) ⟨w3.heap.size, 0, none⟩ [y] 1 1 (by simp [Act.eval]) rfl (rd_srd (rd_lit w3 [y] HYL.out)) (by omega) (by unfold maxLen; omega) (Nat.le_trans HG3.out.size (by simp)) ?_; intro v4 w4 ho4 hg4 hb4; obtain ⟨a4, c4, e4⟩ := sown_sliceB ho4; subst e4; have HRD : Hid (Rd w4 a4 (zs ++ [y])) := srd_rd ho4.rd HYB.out; have HNC : Hid (a4 = none → c4 = 0) := sown_cap ho4; have HK4 : Hid (KsG W w4 d mb p (stO ks zs k) (stT ks k) (.slice a3 tn c3) tn k) := HI.out.grown (gb_trans (HG3.out.trans (World.grownBy_alloc w3 _ none)) hg4 (fun x hx => .inl (by cases hx; exact HO.out.ge.1))); have a2 := HCELL.out w4 HK4.out.from_; clear ho4 hg4 hb4)
              | (refine step_append_b rfl (.tmp 61) (.tmp 64) rfl wr.heap.size (.slice (some ⟨gq, 0, none⟩) M cq) M zs (by simp [Act.eval]) (own_sown HO.out) ⟨wr.heap.size, 0, none⟩ [y] 1 1 (by simp [Act.eval]) rfl (rd_srd HLIT.out) (by omega) (by unfold maxLen; omega) HG3.out.size ?_; intro v4 w4 ho4 hg4 hb4; obtain ⟨a4, c4, e4⟩ := sown_sliceB ho4; subst e4; have HRD : Hid (Rd w4 a4 (zs ++ [y])) := srd_rd ho4.rd HYB.out; have HNC : Hid (a4 = none → c4 = 0) := sown_cap ho4; have HK4 : Hid (KsG W w4 d mb p (stO ks zs k) (stT ks k) (.slice a3 tn c3) tn k) := HI.out.grown (gb_trans HG3.out hg4 (fun x hx => .inl (by cases hx; exact HO.out.ge.1))); have a2 := HCELL.out w4 HK4.out.from_; clear ho4 hg4 hb4)
              | (go_at_call 10; refine (ks_put HK4.out s a4 (M + 1) c4 (zs ++ [y]) HKB.out (by omega) (by have := HGEN.out; omega) HRD.out (by have := HM.out; simp; omega) HNC.out (by omega)).mono ?_; rintro e w5 ⟨⟨G5, rfl⟩, hK5⟩; have HK5 : Hid (KsG W w5 d mb p (stO ks zs (k + 1)) (stT ks k) (.slice a3 tn c3) tn (k + 1)) := (by rw [stO_yes HEX.out HKB.out, HEY.out]; exact hK5); have a5 := HCELL.out w5 hK5.from_; clear hK5))
            all_goals
              have HKEY := r_key s HSZ.out w5
              rw [HKB.out] at HKEY
              clear HCP HGEN
              go_wp2_with fail
              refine HKEY.mono ?_
              rintro e w6 ⟨rfl, rfl⟩
              have HIN := l_in a3 (stT ks k) tn c3 s w5 HK5.out.own.rd HK5.out.own.len (by omega)
              clear HKEY
              go_wp2_with fail
              refine HIN.mono ?_
              rintro e w6 ⟨bb, rfl, hbb, rfl⟩
              cases bb with
              | true =>
                have HIM : Hid (KsG W w5 d mb p (stO ks zs (k + 1)) (stT ks (k + 1)) (.slice a3 tn c3) tn (k + 1)) := by
                  show KsG _ _ _ _ _ _ _ _ _ _
                  rw [stT_old HEX.out (.inr (hbb.1 rfl))]
                  exact HK5.out
                clear HIN hbb HK5
                go_wp2
                go_roundw
                case rel => exact ⟨k + 1, tn, by omega, by omega, by go_num, HIM⟩
                case measure => simp [intOf]; omega
              | false =>
                have HNI : Hid (¬ s ∈ stT ks k) := fun h => by have := hbb.2 h; cases this
                clear HIN hbb
                go_wp2_with (at_builtin; refine wpList_append_g strET rfl (.tmp 88) (.tmp 93) rfl W.heap.size (.slice a3 tn c3) tn (stT ks k) rfl (SOwn.kept HK5.out.own (World.grownBy_alloc w5 _ none) (by cases a3 <;> simp [Value.ownBlock])) ⟨w5.heap.size, 0, none⟩ [s] 1 1 rfl rfl (slit w5 [s]) (by decide) (by omega) (by unfold maxLen; omega) (Nat.le_trans HK5.out.from_.size (by simp)) ?_; intro g7 c7 w7 ho7 hg7 hgg7)
                have HIM : Hid (KsG W w7 d mb p (stO ks zs (k + 1)) (stT ks (k + 1)) (.slice (some ⟨g7, 0, none⟩) (tn + 1) c7) (tn + 1) (k + 1)) := by
                  show KsG _ _ _ _ _ _ _ _ _ _
                  rw [stT_new HEX.out HKB.out HNI.out]
                  exact ks_app (HK5.out.grown (World.grownBy_alloc w5 _ none)) ho7 hg7 hgg7
                clear ho7 hg7 hgg7 HK5
                exact ⟨⟨k + 1, tn + 1, by omega, by omega, by go_num, HIM⟩, by simp [intOf]; omega⟩
          | false =>
            have HKB : Hid (keyB s = false) := hkb
            clear hkb
            go_upto_region 8 with fail
            go_region_held3 (fun V => V.cell? ⟨ba, off + k, none⟩ = some (.string s)) (go_keep) (first
              | (go_at_call 11; refine (HCP.out _ (gd wr)).mono ?_; rintro e w3 ⟨gq, cq, rfl, ho, hg3⟩; have HO : Hid (Own w3 wr.heap.size gq M cq zs) := ho; have HG3 : Hid (wr.grownBy w3 none) := (gd wr).trans hg3; have a1 := HCELL.out w3 (HI.out.from_.trans HG3.out); clear ho hg3)
              | (go_at_call 11; refine (HCP.out _ ((gd wr).trans (World.grownBy_alloc wr.drew _ none))).mono ?_; rintro e w3 ⟨gq, cq, rfl, ho, hg3⟩; have HO : Hid (Own w3 wr.heap.size gq M cq zs) := ho.base (Nat.le_trans (Nat.le_succ _) (Nat.le_of_eq (Array.size_push _).symm)); have HLIT : Hid (Rd w3 (some ⟨wr.heap.size, 0, none⟩) [y]) := (rd_lit wr.drew [y] HYL.out).grown hg3 (by simp); have HG3 : Hid (wr.grownBy w3 none) := ((gd wr).trans (World.grownBy_alloc wr.drew _ none)).trans hg3; have a1 := HCELL.out w3 (HI.out.from_.trans HG3.out); clear ho hg3)
              | (refine step_append_b rfl (.tmp 61) (.tmp 64) rfl wr.heap.size (.slice (some ⟨gq, 0, none⟩) M cq) M zs (by simp [Act.eval]) (own_sown (HO.out.kept (World.grownBy_alloc w3 _ none) (by simp))) ⟨w3.heap.size, 0, none⟩ [y] 1 1 (by simp [Act.eval]) rfl (rd_srd (rd_lit w3 [y] HYL.out)) (by omega) (by unfold maxLen; omega) (Nat.le_trans HG3.out.size (by simp)) ?_; intro v4 w4 ho4 hg4 hb4; obtain ⟨a4, c4, e4⟩ := sown_sliceB ho4; subst e4; have HRD : Hid (Rd w4 a4 (zs ++ [y])) := srd_rd ho4.rd HYB.out; have HNC : Hid (a4 = none → c4 = 0) := sown_cap ho4; have HK4 : Hid (KsG W w4 d mb p (stO ks zs k) (stT ks k) (.slice a3 tn c3) tn k) := HI.out.grown (gb_trans (HG3.out.trans (World.grownBy_alloc w3 _ none)) hg4 (fun x hx => .inl (by cases hx; exact HO.out.ge.1))); have a2 := HCELL.out w4 HK4.out.from_; clear ho4 hg4 hb4)
              | (refine step_append_b rfl (.tmp 61) (.tmp 64) rfl wr.heap.size (.slice (some ⟨gq, 0, none⟩) M cq) M zs (by simp [Act.eval]) (own_sown HO.out) ⟨wr.heap.size, 0, none⟩ [y] 1 1 (by simp [Act.eval]) rfl (rd_srd HLIT.out) (by omega) (by unfold maxLen; omega) HG3.out.size ?_; intro v4 w4 ho4 hg4 hb4; obtain ⟨a4, c4, e4⟩ := sown_sliceB ho4; subst e4; have HRD : Hid (Rd w4 a4 (zs ++ [y])) := srd_rd ho4.rd HYB.out; have HNC : Hid (a4 = none → c4 = 0) := sown_cap ho4; have HK4 : Hid (KsG W w4 d mb p (stO ks zs k) (stT ks k) (.slice a3 tn c3) tn k) := HI.out.grown (gb_trans HG3.out hg4 (fun x hx => .inl (by cases hx; exact HO.out.ge.1))); have a2 := HCELL.out w4 HK4.out.from_; clear ho4 hg4 hb4)
              | (go_at_call 10; refine (o_putNot s p a4 (M + 1) c4 _ HKB.out HSZ.out).mono ?_; rintro e w5 ⟨rfl, hg5⟩; have HK5 : Hid (KsG W w5 d mb p (stO ks zs (k + 1)) (stT ks (k + 1)) (.slice a3 tn c3) tn (k + 1)) := (by rw [stO_no HEX.out HKB.out, stT_old HEX.out (.inl HKB.out)]; exact (HK4.out.grown hg5).more); have a5 := HCELL.out w5 HK5.out.from_; clear hg5))
            all_goals
              have HKEY := r_key s HSZ.out w5
              rw [HKB.out] at HKEY
              clear HCP HGEN
              go_wp2_with fail
              refine HKEY.mono ?_
              rintro e w6 ⟨rfl, rfl⟩
              clear HKEY
              go_wp2
              go_roundw
              case rel => exact ⟨k + 1, tn, by omega, by omega, by go_num, HK5⟩
              case measure => simp [intOf]; omega
        · have hkk : k = L := by omega
          have hi : ¬ (k : Int) < (L : Int) := by omega
          obtain ⟨a3, c3, e3⟩ := sown_sliceT HI.out.own
          subst e3
          obtain ⟨O, hO⟩ : ∃ O, O = stO ks zs L := ⟨_, rfl⟩
          obtain ⟨T, hT⟩ : ∃ T, T = stT ks L := ⟨_, rfl⟩
          have HOK : Hid (KeysOk ks zs L) := keysOk ks zs L (by rw [HL.out]; omega)
          have HK0 : Hid (KsG W wr d mb p O T (.slice a3 tn c3) tn L) := by
            show KsG _ _ _ _ _ _ _ _ _ _
            rw [hO, hT, ← hkk]
            exact HI.out
          have HOE : Hid (O = stO ks zs L) := hO
          have HTE : Hid (T = stT ks L) := hT
          have htn50 : tn ≤ 50 := by omega
          have HTN : Hid (T.length = tn) := HK0.out.own.len
          have HLST := ks_list HK0.out (by omega) pre (by omega)
          clear HI hkk hk htn hO hT HS
          go_wp2_with fail
          refine HLST.mono ?_
          rintro e wz ⟨al, cl, all, rfl, hra, hko, hgz⟩
          have HKO : Hid (KeysOf O pre all) := hko
          have HRA : Hid (SRd strE wz al all) := hra
          have HKZ : Hid (KsG W wz d mb p O T (.slice a3 tn c3) tn L) := HK0.out.grown hgz
          have HCNT : Hid (cntP pre T = all.length) := by
            show _ = _
            rw [HTE.out]
            exact cnt_all HOK.out (by rw [← HOE.out]; exact hko)
          obtain ⟨AN, hAN⟩ : ∃ AN, AN = all.length := ⟨_, rfl⟩
          have HAN : Hid (all.length = AN) := hAN.symm
          have hAN50 : AN ≤ 50 := by
            have h1 := HCNT.out
            have h2 := cntP_le pre T
            rw [HTN.out] at h2
            omega
          rw [← hAN]
          clear HLST hra hko hgz hAN HK0
          go_wp2
          go_loopw [14, 15] (fun v i wr => ∃ k m : Nat, k ≤ tn ∧ m ≤ k ∧ v = .int .i64 m ∧ i = .int .i64 k ∧ Hid (m = cntP pre (T.take k)) ∧ Hid (wz.grownBy wr none)) (fun _ i _ => tn - (intOf i).toNat)
          case atStart => exact ⟨0, 0, Nat.zero_le _, Nat.zero_le _, rfl, rfl, rfl, World.grownBy.refl _ _⟩
          case round =>
            obtain ⟨k2, m, hk2, hm, rfl, rfl, HM2, HGW⟩ := hrel
            by_cases hlt2 : k2 < tn
            · have hi2 : (k2 : Int) < (tn : Int) := by omega
              obtain ⟨t, ex⟩ : ∃ t, T[k2]? = some t := ⟨_, List.getElem?_eq_getElem (by have := HTN.out; omega)⟩
              have HTM : Hid (t ∈ T) := List.mem_of_getElem? ex
              have hso := SOwn.kept HKZ.out.own HGW.out (by cases a3 <;> simp [Value.ownBlock])
              obtain ⟨ba, off, ea, hcc⟩ := hso.rd.at (by have := HTN.out; omega)
              subst ea
              have HCT : Hid (∀ w', wz.grownBy w' none → w'.cell? ⟨ba, off + k2, none⟩ = some (.string t)) := fun w' hg => by
                obtain ⟨ba', off', ea', hcc'⟩ := (SOwn.rd (SOwn.kept HKZ.out.own hg (by simp [Value.ownBlock]))).at (by have := HTN.out; omega)
                cases ea'
                have h := hcc' k2 t 0 (.string t) ex rfl
                simpa [strE] using h
              have HNX : Hid (cntP pre (T.take (k2 + 1)) = cntP pre (T.take k2) + if Lib.hasPrefix t.data.toList pre.data.toList = true then 1 else 0) := cntP_next pre ex
              have a0 := HCT.out wr HGW.out
              clear hcc ex hso
              by_cases hp : Lib.hasPrefix t.data.toList pre.data.toList = true
              · have hpz : pre.size ≤ t.size := by
                  have h1 := hp
                  unfold Lib.hasPrefix at h1
                  have h2 := List.IsPrefix.length_le (List.isPrefixOf_iff_prefix.1 h1)
                  have h3 : pre.data.toList.length = pre.size := Array.length_toList
                  have h4 : t.data.toList.length = t.size := Array.length_toList
                  omega
                have q6 : decide ((pre.size : Int) ≤ (t.size : Int)) = true := by simp; omega
                have q6' : decide (pre.size ≤ t.size) = true := by simp; omega
                have hsl : ∀ w, (Instr.slice 9 (.string t) none (some (.int .i64 (pre.size : Int))) none).run Try.prog w = .ok (.string pre) w := fun w => by
                  rw [run_slice_string_h w 9 t Try.underlying9 .i64 (pre.size : Int) (by omega) (by omega), ext_pre t pre hpz hp]
                have HMN : Hid (m + 1 = cntP pre (T.take (k2 + 1))) := by show _ = _; rw [HNX.out, if_pos hp, ← HM2.out]
                have HALLM : Hid (t ∈ all) := by
                  refine (HKO.out.2.2 t).2 ⟨?_, hp⟩
                  rw [HOE.out]
                  exact (HOK.out.mem t).1 (by rw [← HTE.out]; exact HTM.out)
                have HIN := l_in al all AN cl t wr (HRA.out.grown HGW.out (by simp)) HAN.out (by omega)
                have HGI : Hid (wz.grownBy wr none) := HGW
                clear hp
                go_wp2_with fail
                refine HIN.mono ?_
                rintro e w3 ⟨bb, rfl, hbb, rfl⟩
                obtain rfl : bb = true := hbb.2 HALLM.out
                clear HIN hbb
                go_wp2
                go_loopw [16, 17] (fun v i wr => ∃ k l : Nat, k ≤ L ∧ l ≤ k ∧ v = .int .i64 l ∧ i = .int .i64 k ∧ Hid (l = lastN ks t k) ∧ Hid (wz.grownBy wr none)) (fun _ i _ => L - (intOf i).toNat)
                case atStart => exact ⟨0, 0, Nat.zero_le _, Nat.zero_le _, rfl, rfl, rfl, HGI⟩
                case round =>
                  obtain ⟨k3, l3, hk3, hl3, rfl, rfl, HL3, HG3⟩ := hrel
                  by_cases hlt3 : k3 < L
                  · have hi3 : (k3 : Int) < (L : Int) := by omega
                    obtain ⟨s3, ex3⟩ : ∃ s, ks[k3]? = some s := ⟨_, List.getElem?_eq_getElem (by have := HL.out; omega)⟩
                    obtain ⟨bk, ok, ek, hck⟩ := (HR.out.grown (HKZ.out.from_.trans HG3.out) (by simp)).at (by have := HL.out; omega)
                    subst ek
                    have kc : wr.cell? ⟨bk, ok + k3, none⟩ = some (.string s3) := by
                      have h := hck k3 s3 0 (.string s3) ex3 rfl
                      simpa [strE] using h
                    have tc := HCT.out wr HG3.out
                    have HEX3 : Hid (ks[k3]? = some s3) := ex3
                    clear hck ex3
                    by_cases he : s3 = t
                    · subst he
                      have HLL : Hid (k3 = lastN ks s3 (k3 + 1)) := (lastN_yes HEX3.out).symm
                      go_wp2_with fail
                      go_quiet (fail)
                      have HGD : Hid (wz.grownBy (wr.drewN nq) none) := HG3.out.trans (gb_drewN _ _)
                      go_wp2
                      go_roundw
                      case rel => exact ⟨k3 + 1, k3, by omega, by omega, rfl, by go_num, HLL, HGD⟩
                      case measure => simp [intOf]; omega
                    · have q5 : (s3.toList == t.toList) = false := by rw [str_eq]; simpa using he
                      have HLL : Hid (l3 = lastN ks t (k3 + 1)) := by
                        show _ = _
                        rw [lastN_no (fun e => by rw [HEX3.out] at e; exact he (Option.some.inj e))]
                        exact HL3.out
                      clear he
                      go_wp2_with fail
                      go_quiet (fail)
                      have HGD : Hid (wz.grownBy (wr.drewN nq) none) := HG3.out.trans (gb_drewN _ _)
                      go_wp2
                      go_roundw
                      case rel => exact ⟨k3 + 1, l3, by omega, by omega, rfl, by go_num, HLL, HGD⟩
                      case measure => simp [intOf]; omega
                  · have hi3 : ¬ (k3 : Int) < (L : Int) := by omega
                    have HLE : Hid (l3 = lastN ks t L) := by
                      show _ = _
                      rw [HL3.out]
                      congr 1
                      omega
                    obtain ⟨q, hq⟩ : ∃ q, O t = some q := by
                      have h1 := HTM.out
                      rw [HTE.out] at h1
                      have h2 := (HOK.out.mem t).1 h1
                      rw [← HOE.out] at h2
                      cases ho : O t with
                      | none => rw [ho] at h2; cases h2
                      | some q => exact ⟨q, rfl⟩
                    have hdat := HOK.out.data t q (by rw [← HOE.out]; exact hq)
                    have hkt : keyB t = true := HOK.out.key t (by rw [← HOE.out, hq]; rfl)
                    obtain ⟨y3, ey3⟩ : ∃ y : Int, (l3 : Int) % 256 = y := ⟨_, rfl⟩
                    have ey4 : IntKind.u8.wrap (l3 : Int) = y3 := by rw [IntKind.wrap_u8]; exact ey3
                    have hy3 : 0 ≤ y3 ∧ y3 ≤ 255 := by omega
                    have hq2 : q.2 = zs ++ [y3] := by rw [hdat.2, ← HLE.out, ey3]
                    have hq2l : q.2.length = M + 1 := by rw [hq2, List.length_append, HM.out]; rfl
                    have HGET := ks_get (HKZ.out.grown HG3.out) t hkt q hq hdat.1
                    rw [hq2l, hq2] at HGET
                    have HYB : Hid (∀ z ∈ [y3], 0 ≤ z ∧ z ≤ 255) := by
                      intro z h
                      rw [List.mem_singleton] at h; subst h; exact hy3
                    have HBB : Hid (∀ z ∈ zs ++ [y3], 0 ≤ z ∧ z ≤ 255) := by
                      intro z hz
                      rcases List.mem_append.1 hz with h | h
                      · exact HZ.out.2 z h
                      · rw [List.mem_singleton] at h; subst h; exact hy3
                    have tc := HCT.out wr HG3.out
                    clear hdat hkt hq hq2 hq2l ey3 HL3 hlt3
                    go_wp2_with fail
                    refine HGET.mono ?_
                    rintro e w4 ⟨vx, cx, rfl, hrx, hg4⟩
                    have HRX : Hid (Rd w4 vx (zs ++ [y3])) := hrx
                    have HG4 : Hid (wz.grownBy w4 none) := HG3.out.trans hg4
                    have HCP := copy_any b zs cap w4 (HZ.out.grown (HKZ.out.from_.trans HG4.out) (by simp)) HNIL.out (by have := HM.out; omega)
                    rw [HM.out] at HCP
                    clear HGET hrx hg4
                    go_wp2_with fail
                    refine HCP.mono ?_
                    rintro e w5 ⟨gq, cq, rfl, ho5, hg5⟩
                    have HO5 : Hid (Own w5 w4.heap.size gq M cq zs) := ho5
                    have HG5 : Hid (w4.grownBy w5 none) := hg5
                    have HX5 : Hid (∀ x, vx = some x → x.block < w4.heap.size) := fun x hx => rd_lt (hx ▸ HRX.out) (by simp)
                    clear HCP ho5 hg5
                    go_wp2_with (at_builtin; refine wpList_append_sg byteET rfl (.tmp 163) (.tmp 166) rfl w4.heap.size (.slice (some ⟨gq, 0, none⟩) M cq) M zs rfl (own_sown (HO5.out.kept (World.grownBy_alloc w5 _ none) (by simp))) (some ⟨w5.heap.size, 0, none⟩) [y3] 1 1 rfl rfl (rd_srd (rd_lit w5 [y3] HYB.out)) (by simp) (by omega) (by unfold maxLen; omega) (Nat.le_trans HG5.out.size (by simp)) ?_; intro v6 w6 ho6 hg6; obtain ⟨a6, c6, e6⟩ := sown_sliceB ho6; subst e6; have HR6 : Hid (Rd w6 a6 (zs ++ [y3])) := srd_rd ho6.rd HBB.out; have HG6 : Hid (w4.grownBy w6 none) := gb_trans (HG5.out.trans (World.grownBy_alloc w5 _ none)) hg6 (fun x hx => .inl (by cases hx; exact HO5.out.ge.1)); clear ho6 hg6)
                    have HB6 := same_any vx a6 (zs ++ [y3]) (zs ++ [y3]) (M + 1) (M + 1) cx c6 w6 (HRX.out.grown HG6.out (by simp)) HR6.out (by rw [List.length_append, HM.out]; rfl) (by rw [List.length_append, HM.out]; rfl) (by omega)
                    rw [show decide (zs ++ [y3] = zs ++ [y3]) = true from decide_eq_true rfl] at HB6
                    refine HB6.mono ?_
                    rintro e w7 ⟨rfl, hg7⟩
                    have HG7 : Hid (wz.grownBy w7 none) := (HG4.out.trans HG6.out).trans hg7
                    clear HB6 hg7
                    go_wp2
                    go_roundw
                    case rel => exact ⟨k2 + 1, m + 1, by omega, by omega, by go_num, by go_num, HMN, HG7⟩
                    case measure => simp [intOf]; omega
              · by_cases hsz : pre.size ≤ t.size
                · have q6 : decide ((pre.size : Int) ≤ (t.size : Int)) = true := by simp; omega
                  have q6' : decide (pre.size ≤ t.size) = true := by simp; omega
                  have hsl : ∀ w, (Instr.slice 9 (.string t) none (some (.int .i64 (pre.size : Int))) none).run Try.prog w = .ok (.string (t.extract 0 (pre.size : Int).toNat)) w := fun w => run_slice_string_h w 9 t Try.underlying9 .i64 (pre.size : Int) (by omega) (by omega)
                  have hne : t.extract 0 (pre.size : Int).toNat ≠ pre := fun e => hp (pre_ext t pre hsz e)
                  generalize t.extract 0 (pre.size : Int).toNat = u at hsl hne
                  have q7 : (u.toList == pre.toList) = false := by rw [str_eq]; simpa using hne
                  have HMN : Hid (m = cntP pre (T.take (k2 + 1))) := by show _ = _; rw [HNX.out, if_neg hp, Nat.add_zero]; exact HM2.out
                  have HGI : Hid (wz.grownBy wr none) := HGW
                  clear hp hne
                  go_wp2
                  go_loopw [16, 17] (fun v i wr => ∃ k l : Nat, k ≤ L ∧ l ≤ k ∧ v = .int .i64 l ∧ i = .int .i64 k ∧ Hid (l = lastN ks t k) ∧ Hid (wz.grownBy wr none)) (fun _ i _ => L - (intOf i).toNat)
                  case atStart => exact ⟨0, 0, Nat.zero_le _, Nat.zero_le _, rfl, rfl, rfl, HGI⟩
                  case round =>
                    obtain ⟨k3, l3, hk3, hl3, rfl, rfl, HL3, HG3⟩ := hrel
                    by_cases hlt3 : k3 < L
                    · have hi3 : (k3 : Int) < (L : Int) := by omega
                      obtain ⟨s3, ex3⟩ : ∃ s, ks[k3]? = some s := ⟨_, List.getElem?_eq_getElem (by have := HL.out; omega)⟩
                      obtain ⟨bk, ok, ek, hck⟩ := (HR.out.grown (HKZ.out.from_.trans HG3.out) (by simp)).at (by have := HL.out; omega)
                      subst ek
                      have kc : wr.cell? ⟨bk, ok + k3, none⟩ = some (.string s3) := by
                        have h := hck k3 s3 0 (.string s3) ex3 rfl
                        simpa [strE] using h
                      have tc := HCT.out wr HG3.out
                      have HEX3 : Hid (ks[k3]? = some s3) := ex3
                      clear hck ex3
                      by_cases he : s3 = t
                      · subst he
                        have HLL : Hid (k3 = lastN ks s3 (k3 + 1)) := (lastN_yes HEX3.out).symm
                        go_wp2_with fail
                        go_quiet (fail)
                        have HGD : Hid (wz.grownBy (wr.drewN nq) none) := HG3.out.trans (gb_drewN _ _)
                        go_wp2
                        go_roundw
                        case rel => exact ⟨k3 + 1, k3, by omega, by omega, rfl, by go_num, HLL, HGD⟩
                        case measure => simp [intOf]; omega
                      · have q5 : (s3.toList == t.toList) = false := by rw [str_eq]; simpa using he
                        have HLL : Hid (l3 = lastN ks t (k3 + 1)) := by
                          show _ = _
                          rw [lastN_no (fun e => by rw [HEX3.out] at e; exact he (Option.some.inj e))]
                          exact HL3.out
                        clear he
                        go_wp2_with fail
                        go_quiet (fail)
                        have HGD : Hid (wz.grownBy (wr.drewN nq) none) := HG3.out.trans (gb_drewN _ _)
                        go_wp2
                        go_roundw
                        case rel => exact ⟨k3 + 1, l3, by omega, by omega, rfl, by go_num, HLL, HGD⟩
                        case measure => simp [intOf]; omega
                    · have hi3 : ¬ (k3 : Int) < (L : Int) := by omega
                      have HLE : Hid (l3 = lastN ks t L) := by
                        show _ = _
                        rw [HL3.out]
                        congr 1
                        omega
                      obtain ⟨q, hq⟩ : ∃ q, O t = some q := by
                        have h1 := HTM.out
                        rw [HTE.out] at h1
                        have h2 := (HOK.out.mem t).1 h1
                        rw [← HOE.out] at h2
                        cases ho : O t with
                        | none => rw [ho] at h2; cases h2
                        | some q => exact ⟨q, rfl⟩
                      have hdat := HOK.out.data t q (by rw [← HOE.out]; exact hq)
                      have hkt : keyB t = true := HOK.out.key t (by rw [← HOE.out, hq]; rfl)
                      obtain ⟨y3, ey3⟩ : ∃ y : Int, (l3 : Int) % 256 = y := ⟨_, rfl⟩
                      have ey4 : IntKind.u8.wrap (l3 : Int) = y3 := by rw [IntKind.wrap_u8]; exact ey3
                      have hy3 : 0 ≤ y3 ∧ y3 ≤ 255 := by omega
                      have hq2 : q.2 = zs ++ [y3] := by rw [hdat.2, ← HLE.out, ey3]
                      have hq2l : q.2.length = M + 1 := by rw [hq2, List.length_append, HM.out]; rfl
                      have HGET := ks_get (HKZ.out.grown HG3.out) t hkt q hq hdat.1
                      rw [hq2l, hq2] at HGET
                      have HYB : Hid (∀ z ∈ [y3], 0 ≤ z ∧ z ≤ 255) := by
                        intro z h
                        rw [List.mem_singleton] at h; subst h; exact hy3
                      have HBB : Hid (∀ z ∈ zs ++ [y3], 0 ≤ z ∧ z ≤ 255) := by
                        intro z hz
                        rcases List.mem_append.1 hz with h | h
                        · exact HZ.out.2 z h
                        · rw [List.mem_singleton] at h; subst h; exact hy3
                      have tc := HCT.out wr HG3.out
                      clear hdat hkt hq hq2 hq2l ey3 HL3 hlt3
                      go_wp2_with fail
                      refine HGET.mono ?_
                      rintro e w4 ⟨vx, cx, rfl, hrx, hg4⟩
                      have HRX : Hid (Rd w4 vx (zs ++ [y3])) := hrx
                      have HG4 : Hid (wz.grownBy w4 none) := HG3.out.trans hg4
                      have HCP := copy_any b zs cap w4 (HZ.out.grown (HKZ.out.from_.trans HG4.out) (by simp)) HNIL.out (by have := HM.out; omega)
                      rw [HM.out] at HCP
                      clear HGET hrx hg4
                      go_wp2_with fail
                      refine HCP.mono ?_
                      rintro e w5 ⟨gq, cq, rfl, ho5, hg5⟩
                      have HO5 : Hid (Own w5 w4.heap.size gq M cq zs) := ho5
                      have HG5 : Hid (w4.grownBy w5 none) := hg5
                      have HX5 : Hid (∀ x, vx = some x → x.block < w4.heap.size) := fun x hx => rd_lt (hx ▸ HRX.out) (by simp)
                      clear HCP ho5 hg5
                      go_wp2_with (at_builtin; refine wpList_append_sg byteET rfl (.tmp 163) (.tmp 166) rfl w4.heap.size (.slice (some ⟨gq, 0, none⟩) M cq) M zs rfl (own_sown (HO5.out.kept (World.grownBy_alloc w5 _ none) (by simp))) (some ⟨w5.heap.size, 0, none⟩) [y3] 1 1 rfl rfl (rd_srd (rd_lit w5 [y3] HYB.out)) (by simp) (by omega) (by unfold maxLen; omega) (Nat.le_trans HG5.out.size (by simp)) ?_; intro v6 w6 ho6 hg6; obtain ⟨a6, c6, e6⟩ := sown_sliceB ho6; subst e6; have HR6 : Hid (Rd w6 a6 (zs ++ [y3])) := srd_rd ho6.rd HBB.out; have HG6 : Hid (w4.grownBy w6 none) := gb_trans (HG5.out.trans (World.grownBy_alloc w5 _ none)) hg6 (fun x hx => .inl (by cases hx; exact HO5.out.ge.1)); clear ho6 hg6)
                      have HB6 := same_any vx a6 (zs ++ [y3]) (zs ++ [y3]) (M + 1) (M + 1) cx c6 w6 (HRX.out.grown HG6.out (by simp)) HR6.out (by rw [List.length_append, HM.out]; rfl) (by rw [List.length_append, HM.out]; rfl) (by omega)
                      rw [show decide (zs ++ [y3] = zs ++ [y3]) = true from decide_eq_true rfl] at HB6
                      refine HB6.mono ?_
                      rintro e w7 ⟨rfl, hg7⟩
                      have HG7 : Hid (wz.grownBy w7 none) := (HG4.out.trans HG6.out).trans hg7
                      clear HB6 hg7
                      go_wp2
                      go_roundw
                      case rel => exact ⟨k2 + 1, m, by omega, by omega, rfl, by go_num, HMN, HG7⟩
                      case measure => simp [intOf]; omega
                · have q6 : decide ((pre.size : Int) ≤ (t.size : Int)) = false := by simp; omega
                  have q6' : decide (pre.size ≤ t.size) = false := by simp; omega
                  have HMN : Hid (m = cntP pre (T.take (k2 + 1))) := by show _ = _; rw [HNX.out, if_neg hp, Nat.add_zero]; exact HM2.out
                  have HGI : Hid (wz.grownBy wr none) := HGW
                  clear hp
                  go_wp2
                  go_loopw [16, 17] (fun v i wr => ∃ k l : Nat, k ≤ L ∧ l ≤ k ∧ v = .int .i64 l ∧ i = .int .i64 k ∧ Hid (l = lastN ks t k) ∧ Hid (wz.grownBy wr none)) (fun _ i _ => L - (intOf i).toNat)
                  case atStart => exact ⟨0, 0, Nat.zero_le _, Nat.zero_le _, rfl, rfl, rfl, HGI⟩
                  case round =>
                    obtain ⟨k3, l3, hk3, hl3, rfl, rfl, HL3, HG3⟩ := hrel
                    by_cases hlt3 : k3 < L
                    · have hi3 : (k3 : Int) < (L : Int) := by omega
                      obtain ⟨s3, ex3⟩ : ∃ s, ks[k3]? = some s := ⟨_, List.getElem?_eq_getElem (by have := HL.out; omega)⟩
                      obtain ⟨bk, ok, ek, hck⟩ := (HR.out.grown (HKZ.out.from_.trans HG3.out) (by simp)).at (by have := HL.out; omega)
                      subst ek
                      have kc : wr.cell? ⟨bk, ok + k3, none⟩ = some (.string s3) := by
                        have h := hck k3 s3 0 (.string s3) ex3 rfl
                        simpa [strE] using h
                      have tc := HCT.out wr HG3.out
                      have HEX3 : Hid (ks[k3]? = some s3) := ex3
                      clear hck ex3
                      by_cases he : s3 = t
                      · subst he
                        have HLL : Hid (k3 = lastN ks s3 (k3 + 1)) := (lastN_yes HEX3.out).symm
                        go_wp2_with fail
                        go_quiet (fail)
                        have HGD : Hid (wz.grownBy (wr.drewN nq) none) := HG3.out.trans (gb_drewN _ _)
                        go_wp2
                        go_roundw
                        case rel => exact ⟨k3 + 1, k3, by omega, by omega, rfl, by go_num, HLL, HGD⟩
                        case measure => simp [intOf]; omega
                      · have q5 : (s3.toList == t.toList) = false := by rw [str_eq]; simpa using he
                        have HLL : Hid (l3 = lastN ks t (k3 + 1)) := by
                          show _ = _
                          rw [lastN_no (fun e => by rw [HEX3.out] at e; exact he (Option.some.inj e))]
                          exact HL3.out
                        clear he
                        go_wp2_with fail
                        go_quiet (fail)
                        have HGD : Hid (wz.grownBy (wr.drewN nq) none) := HG3.out.trans (gb_drewN _ _)
                        go_wp2
                        go_roundw
                        case rel => exact ⟨k3 + 1, l3, by omega, by omega, rfl, by go_num, HLL, HGD⟩
                        case measure => simp [intOf]; omega
                    · have hi3 : ¬ (k3 : Int) < (L : Int) := by omega
                      have HLE : Hid (l3 = lastN ks t L) := by
                        show _ = _
                        rw [HL3.out]
                        congr 1
                        omega
                      obtain ⟨q, hq⟩ : ∃ q, O t = some q := by
                        have h1 := HTM.out
                        rw [HTE.out] at h1
                        have h2 := (HOK.out.mem t).1 h1
                        rw [← HOE.out] at h2
                        cases ho : O t with
                        | none => rw [ho] at h2; cases h2
                        | some q => exact ⟨q, rfl⟩
                      have hdat := HOK.out.data t q (by rw [← HOE.out]; exact hq)
                      have hkt : keyB t = true := HOK.out.key t (by rw [← HOE.out, hq]; rfl)
                      obtain ⟨y3, ey3⟩ : ∃ y : Int, (l3 : Int) % 256 = y := ⟨_, rfl⟩
                      have ey4 : IntKind.u8.wrap (l3 : Int) = y3 := by rw [IntKind.wrap_u8]; exact ey3
                      have hy3 : 0 ≤ y3 ∧ y3 ≤ 255 := by omega
                      have hq2 : q.2 = zs ++ [y3] := by rw [hdat.2, ← HLE.out, ey3]
                      have hq2l : q.2.length = M + 1 := by rw [hq2, List.length_append, HM.out]; rfl
                      have HGET := ks_get (HKZ.out.grown HG3.out) t hkt q hq hdat.1
                      rw [hq2l, hq2] at HGET
                      have HYB : Hid (∀ z ∈ [y3], 0 ≤ z ∧ z ≤ 255) := by
                        intro z h
                        rw [List.mem_singleton] at h; subst h; exact hy3
                      have HBB : Hid (∀ z ∈ zs ++ [y3], 0 ≤ z ∧ z ≤ 255) := by
                        intro z hz
                        rcases List.mem_append.1 hz with h | h
                        · exact HZ.out.2 z h
                        · rw [List.mem_singleton] at h; subst h; exact hy3
                      have tc := HCT.out wr HG3.out
                      clear hdat hkt hq hq2 hq2l ey3 HL3 hlt3
                      go_wp2_with fail
                      refine HGET.mono ?_
                      rintro e w4 ⟨vx, cx, rfl, hrx, hg4⟩
                      have HRX : Hid (Rd w4 vx (zs ++ [y3])) := hrx
                      have HG4 : Hid (wz.grownBy w4 none) := HG3.out.trans hg4
                      have HCP := copy_any b zs cap w4 (HZ.out.grown (HKZ.out.from_.trans HG4.out) (by simp)) HNIL.out (by have := HM.out; omega)
                      rw [HM.out] at HCP
                      clear HGET hrx hg4
                      go_wp2_with fail
                      refine HCP.mono ?_
                      rintro e w5 ⟨gq, cq, rfl, ho5, hg5⟩
                      have HO5 : Hid (Own w5 w4.heap.size gq M cq zs) := ho5
                      have HG5 : Hid (w4.grownBy w5 none) := hg5
                      have HX5 : Hid (∀ x, vx = some x → x.block < w4.heap.size) := fun x hx => rd_lt (hx ▸ HRX.out) (by simp)
                      clear HCP ho5 hg5
                      go_wp2_with (at_builtin; refine wpList_append_sg byteET rfl (.tmp 163) (.tmp 166) rfl w4.heap.size (.slice (some ⟨gq, 0, none⟩) M cq) M zs rfl (own_sown (HO5.out.kept (World.grownBy_alloc w5 _ none) (by simp))) (some ⟨w5.heap.size, 0, none⟩) [y3] 1 1 rfl rfl (rd_srd (rd_lit w5 [y3] HYB.out)) (by simp) (by omega) (by unfold maxLen; omega) (Nat.le_trans HG5.out.size (by simp)) ?_; intro v6 w6 ho6 hg6; obtain ⟨a6, c6, e6⟩ := sown_sliceB ho6; subst e6; have HR6 : Hid (Rd w6 a6 (zs ++ [y3])) := srd_rd ho6.rd HBB.out; have HG6 : Hid (w4.grownBy w6 none) := gb_trans (HG5.out.trans (World.grownBy_alloc w5 _ none)) hg6 (fun x hx => .inl (by cases hx; exact HO5.out.ge.1)); clear ho6 hg6)
                      have HB6 := same_any vx a6 (zs ++ [y3]) (zs ++ [y3]) (M + 1) (M + 1) cx c6 w6 (HRX.out.grown HG6.out (by simp)) HR6.out (by rw [List.length_append, HM.out]; rfl) (by rw [List.length_append, HM.out]; rfl) (by omega)
                      rw [show decide (zs ++ [y3] = zs ++ [y3]) = true from decide_eq_true rfl] at HB6
                      refine HB6.mono ?_
                      rintro e w7 ⟨rfl, hg7⟩
                      have HG7 : Hid (wz.grownBy w7 none) := (HG4.out.trans HG6.out).trans hg7
                      clear HB6 hg7
                      go_wp2
                      go_roundw
                      case rel => exact ⟨k2 + 1, m, by omega, by omega, rfl, by go_num, HMN, HG7⟩
                      case measure => simp [intOf]; omega
            · have hi2 : ¬ (k2 : Int) < (tn : Int) := by omega
              have HMA : Hid (m = AN) := by
                show _ = _
                rw [HM2.out, show T.take k2 = T by rw [show k2 = T.length by have := HTN.out; omega, List.take_length], HCNT.out, HAN.out]
              clear HM2
              go_wp2
              go_loopw [21] (fun i wr => ∃ j : Nat, 1 ≤ j ∧ i = .int .i64 j ∧ Hid (wz.grownBy wr none) ∧ j ≤ AN + 1) (fun i _ => AN + 1 - (intOf i).toNat)
              case atStart => exact ⟨1, Nat.le_refl _, rfl, HGW, by omega⟩
              case round =>
                obtain ⟨j, hj, rfl, HGJ, hjA⟩ := hrel
                by_cases hltj : j < AN
                · have hij : (j : Int) < (AN : Int) := by omega
                  obtain ⟨s1, ex1⟩ : ∃ s, all[j]? = some s := ⟨_, List.getElem?_eq_getElem (by have := HAN.out; omega)⟩
                  obtain ⟨s0, ex0⟩ : ∃ s, all[j - 1]? = some s := ⟨_, List.getElem?_eq_getElem (by have := HAN.out; omega)⟩
                  have hlt := lt_of_keys HKO.out hj ex1 ex0
                  obtain ⟨ba, off, ea, hcc⟩ := (HRA.out.grown HGJ.out (by simp)).at (by have := HAN.out; omega)
                  subst ea
                  have b1 : wr.cell? ⟨ba, off + j, none⟩ = some (.string s1) := by
                    have h := hcc j s1 0 (.string s1) ex1 rfl
                    simpa [strE] using h
                  have b0 : wr.cell? ⟨ba, off + (j - 1), none⟩ = some (.string s0) := by
                    have h := hcc (j - 1) s0 0 (.string s0) ex0 rfl
                    simpa [strE] using h
                  obtain ⟨i0, ei0⟩ : ∃ i0 : Nat, i0 = j - 1 := ⟨_, rfl⟩
                  have e0 : (j : Int) - 1 = (i0 : Int) := by omega
                  have hi0 : i0 < AN := by omega
                  rw [← ei0] at b0
                  have q8 : Op.bytesLess s1.toList s0.toList = false := by
                    rw [Go.Proofs.bytesLess_eq, ByteArray.toList_eq, ByteArray.toList_eq]
                    exact decide_eq_false (fun h => List.lt_irrefl _ (List.lt_trans h hlt))
                  have q9 : (s1.toList == s0.toList) = false := by
                    rw [str_eq]
                    exact decide_eq_false (fun h => by rw [h] at hlt; exact List.lt_irrefl _ hlt)
                  clear hcc ex1 ex0 ei0 hlt
                  go_wp2_with fail
                  go_quiet (fail)
                  have HGD : Hid (wz.grownBy (wr.drewN nq) none) := HGJ.out.trans (gb_drewN _ _)
                  go_wp2
                  go_roundw
                  case rel => exact ⟨j + 1, by omega, by go_num, HGD, by omega⟩
                  case measure => simp [intOf]; omega
                · have hij : ¬ (j : Int) < (AN : Int) := by omega
                  have HGA : Hid (W.grownBy wr none) := HKZ.out.from_.trans HGJ.out
                  have hmA := HMA.out
                  subst hmA
                  go_wp2_with fail
                  refine (HAW.out _).mono ?_
                  rintro e w3 ⟨rfl, hg⟩
                  have HG : Hid (W.grownBy w3 none) := HGA.out.trans hg
                  clear hg
                  go_wp2
                  go_ret
                  exact ⟨rfl, gb_below HG.out⟩
end Go.Proofs.Ytlmddmfoodejmaa
