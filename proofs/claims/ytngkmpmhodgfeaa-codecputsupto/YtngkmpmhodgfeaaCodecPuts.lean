/- Numbers, texts, sums and frames are laid into bytes as the document says: for every slice of bytes, number, signed number and text that together hold at most 1048576 values and letters. -/
import Derived.Deep.CondSized
import Derived.Test.YtngkmpmhodgfeaaCawake
import Derived.Test.YtngkmpmhodgfeaaBcap
namespace Go.Proofs.Ytngkmpmhodgfeaa
open Go.ChangeShapes Go.WideShapes Go.ChangeAt Go.RowKit
open Go.ChangeMaps (open_string shut_string)
set_option linter.unusedVariables false

set_option maxHeartbeats 2000000 in
theorem codecPuts_walk (a0 : Option Addr) (z0 : List Int) (cap0 : Nat) (v x : Int) (s : ByteArray) (W : World) (r0 : Rd W a0 z0) (n0 : a0 = none → cap0 = 0) (l0 : z0.length ≤ 140737488351232) (hsz : z0.length + s.size ≤ 140737488351232) (hv : 0 ≤ v ∧ v ≤ 18446744073709551615) (hx : -9223372036854775808 ≤ x ∧ x ≤ 9223372036854775807) :
    Calls Try.prog 3 #[.slice a0 z0.length cap0, .int .u64 v, .int .i64 x, .string s] W fun e w' => e = .returned (.bool true) ∧ Below W.heap.size W w' := by
  obtain ⟨S, hS⟩ : ∃ S, sumR z0 = S := ⟨_, rfl⟩
  obtain ⟨F, hF⟩ : ∃ F, flist z0 = F := ⟨_, rfl⟩
  obtain ⟨cd, hcd⟩ : ∃ F, fcode z0 = F := ⟨_, rfl⟩
  have HFL : Hid (F.length ≤ 140737488351300) := by
    show _ ≤ _
    rw [← hF, flist]
    split
    · simp
    · rw [frameR]
      have := enc_len z0.length (by omega)
      simp [four]; omega
  have HR : Hid (Rd W a0 z0) := r0
  have HN : Hid (a0 = none → cap0 = 0) := n0
  obtain ⟨L, hL⟩ : ∃ L, z0.length = L := ⟨_, rfl⟩
  have HL : Hid (z0.length = L) := hL
  have HLend : Hid (Calls Try.prog 9 #[.slice a0 z0.length cap0] W fun e w' => ∃ g c, e = .returned (.slice (some ⟨g, 0, none⟩) z0.length c) ∧ Own w' W.heap.size g (z0.length + 2) c (z0 ++ [201, 201]) ∧ W.grownBy w' none) := lend_any a0 z0 cap0 W r0 n0 l0
  have HKept : Hid (∀ base g c w, Rd w a0 z0 → Own w base g (z0.length + 2) c (z0 ++ [201, 201]) → Calls Try.prog 15 #[.slice (some ⟨g, 0, none⟩) z0.length c, .slice a0 z0.length cap0] w fun e w' => e = .returned (.bool true) ∧ w.grownBy w' (some g)) := fun base g c w h1 h2 => kept_any a0 z0 base g c cap0 w h1 h2 l0
  have HHead : Hid (∀ base g c w, Own w base g (z0.length + 2) c (z0 ++ [201, 201]) → Rd w (some ⟨g, 0, none⟩) z0) := fun base g c w h => h.headR (by simp)
  rw [hL] at HLend HKept HHead l0 hsz ⊢
  obtain ⟨P, hP⟩ : ∃ P, z0 ++ enc v.toNat = P := ⟨_, rfl⟩
  obtain ⟨Q, hQ⟩ : ∃ P, z0 ++ enc (zz x).toNat = P := ⟨_, rfl⟩
  obtain ⟨T, hT⟩ : ∃ P, z0 ++ enc s.size ++ sInts s = P := ⟨_, rfl⟩
  have HPL : Hid (P.length ≤ 140737488351250 ∧ Q.length ≤ 140737488351250 ∧ T.length ≤ 140737488351250) := by
    have h1 := enc_len v.toNat (by omega)
    have h2 := enc_len (zz x).toNat (by have := zz_bd x hx; omega)
    have h3 := enc_len s.size (by omega)
    have h4 := sInts_len s
    refine ⟨?_, ?_, ?_⟩
    · rw [← hP]; simp; omega
    · rw [← hQ]; simp; omega
    · rw [← hT]; simp; omega
  have HP : Hid (∀ a c w, Rd w a z0 → (a = none → c = 0) → (Calls Try.prog 10 #[.slice a L c, .int .u64 v] w fun e w' => ∃ g c N, e = .returned (.slice (some ⟨g, 0, none⟩) N c) ∧ Own w' w.heap.size g N c P ∧ w.grownBy w' none) ∧ (Calls Try.prog 17 #[.slice a L c, .int .u64 v] w fun e w' => ∃ g c N, e = .returned (.slice (some ⟨g, 0, none⟩) N c) ∧ Own w' w.heap.size g N c P ∧ w.grownBy w' none)) := fun a c w h1 h2 => by
    rw [← hP]; exact ⟨f_putuint a z0 L c v w h1 hL h2 (by omega) hv, rputuint a z0 L c v w h1 hL h2 (by omega) hv⟩
  have HQ : Hid (∀ a c w, Rd w a z0 → (a = none → c = 0) → (Calls Try.prog 11 #[.slice a L c, .int .i64 x] w fun e w' => ∃ g c N, e = .returned (.slice (some ⟨g, 0, none⟩) N c) ∧ Own w' w.heap.size g N c Q ∧ w.grownBy w' none) ∧ (Calls Try.prog 18 #[.slice a L c, .int .i64 x] w fun e w' => ∃ g c N, e = .returned (.slice (some ⟨g, 0, none⟩) N c) ∧ Own w' w.heap.size g N c Q ∧ w.grownBy w' none)) := fun a c w h1 h2 => by
    rw [← hQ]; exact ⟨f_putint a z0 L c x w h1 hL h2 (by omega) hx, rputint a z0 L c x w h1 hL h2 (by omega) hx⟩
  have HT : Hid (∀ a c w, Rd w a z0 → (a = none → c = 0) → (Calls Try.prog 12 #[.slice a L c, .string s] w fun e w' => ∃ g c N, e = .returned (.slice (some ⟨g, 0, none⟩) N c) ∧ Own w' w.heap.size g N c T ∧ w.grownBy w' none) ∧ (Calls Try.prog 19 #[.slice a L c, .string s] w fun e w' => ∃ g c N, e = .returned (.slice (some ⟨g, 0, none⟩) N c) ∧ Own w' w.heap.size g N c T ∧ w.grownBy w' none)) := fun a c w h1 h2 => by
    rw [← hT]; exact ⟨f_puttext a z0 L c s w h1 hL h2 (by omega), rputtext a z0 L c s w h1 hL h2 (by omega)⟩
  have HS : Hid (sumR z0 = S) := hS
  have HF : Hid (flist z0 = F) := hF
  have HC : Hid (fcode z0 = cd) := hcd
  have hz : (L : Int) ≤ 140737488355000 := by omega
  have hzn : L ≤ 140737488355000 := by omega
  clear hS hF hcd r0 n0 hL hP hQ hT hv hx hsz
  go_enter Try.func3, Try.ntmps3
  go_wp2_with fail
  refine HLend.out.mono ?_
  rintro e w1 ⟨gl, cl, rfl, hol, hg1⟩
  have gel := hol.ge
  clear HLend
  go_wp2_with fail
  refine (HP.out _ _ w1 (HHead.out _ _ _ _ hol) (by simp)).1.mono ?_
  rintro e w2 ⟨gp, cp, Np, rfl, hop, hg2⟩
  have gep := hop.ge
  have hol2 := hol.kept hg2 (by simp)
  go_wp2_with fail
  refine (HQ.out _ _ w2 (HHead.out _ _ _ _ hol2) (by simp)).1.mono ?_
  rintro e w3 ⟨gq, cq, Nq, rfl, hoq, hg3⟩
  have geq := hoq.ge
  have hol3 := hol2.kept hg3 (by simp)
  go_wp2_with fail
  refine (HT.out _ _ w3 (HHead.out _ _ _ _ hol3) (by simp)).1.mono ?_
  rintro e w4 ⟨gt, ct, Nt, rfl, hot, hg4⟩
  have get := hot.ge
  have hol4 := hol3.kept hg4 (by simp)
  go_wp2_with fail
  refine (f_sum (some ⟨gl, 0, none⟩) z0 L cl S w4 (HHead.out _ _ _ _ hol4) HL.out hz HS.out).mono ?_
  rintro e w5 ⟨rfl, hg5⟩
  have hol5 := hol4.kept hg5 (by simp)
  go_wp2_with fail
  refine (f_frame (some ⟨gl, 0, none⟩) z0 L cl F cd w5 (HHead.out _ _ _ _ hol5) HL.out (by simp) hzn HF.out HC.out).mono ?_
  rintro e w6 ⟨vf, Nf, cf, rfl, hof, hg6⟩
  have hol6 := hol5.kept hg6 (by simp)
  have h26 : w2.grownBy w6 none := gb_trans (gb_trans (gb_trans hg3 hg4 (by simp)) hg5 (by simp)) hg6 (by simp)
  have h36 : w3.grownBy w6 none := gb_trans (gb_trans hg4 hg5 (by simp)) hg6 (by simp)
  have h46 : w4.grownBy w6 none := gb_trans hg5 hg6 (by simp)
  have hop6 := hop.kept h26 (by simp)
  have hoq6 := hoq.kept h36 (by simp)
  have hot6 := hot.kept h46 (by simp)
  have s12 := hg2.size
  have s23 := hg3.size
  have s34 := hg4.size
  have s45 := hg5.size
  have s56 := hg6.size
  have hG6 : W.grownBy w6 none := gb_trans (gb_trans hg1 hg2 (by simp)) h26 (by simp)
  clear hol hol2 hol3 hol4 hol5 hop hoq hot hg1 hg2 hg3 hg4 hg5 hg6 h26 h36 h46
  go_wp2_with fail
  refine (HKept.out _ gl cl w6 (HR.out.grown hG6 (by simp)) hol6).mono ?_
  rintro e w7 ⟨rfl, hg7⟩
  have hG7 : W.grownBy w7 none := gb_trans hG6 hg7 (fun j hj => .inl (by simp at hj; omega))
  have hop7 := hop6.kept hg7 (by simp; omega)
  have hoq7 := hoq6.kept hg7 (by simp; omega)
  have hot7 := hot6.kept hg7 (by simp; omega)
  have hof7 := hof.kept hg7 (fun j hj => by simp at hj; omega)
  have s67 := hg7.size
  clear hol6 hG6 hg7 hop6 hoq6 hot6 hof HKept HHead
  go_wp2_with fail
  refine (HP.out a0 cap0 w7 (HR.out.grown hG7 (by simp)) HN.out).2.mono ?_
  rintro e w8 ⟨g8, c8, N8, rfl, ho8, hg8⟩
  have hop8 := hop7.kept hg8 (by simp)
  go_wp2_with fail
  refine (same_any (some ⟨gp, 0, none⟩) (some ⟨g8, 0, none⟩) P P Np N8 cp c8 w8 hop8.rd ho8.rd hop8.len ho8.len (by have := hop8.len; have := HPL.out; omega)).mono ?_
  rintro e w9 ⟨rfl, hg9⟩
  rw [show decide (P = P) = true by simp]
  have h79 : w7.grownBy w9 none := gb_trans hg8 hg9 (by simp)
  have s79 := h79.size
  have hG9 := gb_trans hG7 h79 (by simp)
  have hop9 := hop7.kept h79 (by simp)
  have hoq9 := hoq7.kept h79 (by simp)
  have hot9 := hot7.kept h79 (by simp)
  have hof9 := hof7.kept h79 (by simp)
  clear hop7 hoq7 hot7 hof7 hop8 ho8 hg8 hg9 h79 hG7
  go_wp2_with fail
  refine (HQ.out a0 cap0 w9 (HR.out.grown hG9 (by simp)) HN.out).2.mono ?_
  rintro e w10 ⟨g10, c10, N10, rfl, ho10, hg10⟩
  have hoq10 := hoq9.kept hg10 (by simp)
  go_wp2_with fail
  refine (same_any (some ⟨gq, 0, none⟩) (some ⟨g10, 0, none⟩) Q Q Nq N10 cq c10 w10 hoq10.rd ho10.rd hoq10.len ho10.len (by have := hoq10.len; have := HPL.out; omega)).mono ?_
  rintro e w11 ⟨rfl, hg11⟩
  rw [show decide (Q = Q) = true by simp]
  have h79 : w9.grownBy w11 none := gb_trans hg10 hg11 (by simp)
  have s911 := h79.size
  have hG11 := gb_trans hG9 h79 (by simp)
  have hop11 := hop9.kept h79 (by simp)
  have hoq11 := hoq9.kept h79 (by simp)
  have hot11 := hot9.kept h79 (by simp)
  have hof11 := hof9.kept h79 (by simp)
  clear hop9 hoq9 hot9 hof9 hoq10 ho10 hg10 hg11 h79 hG9
  go_wp2_with fail
  refine (HT.out a0 cap0 w11 (HR.out.grown hG11 (by simp)) HN.out).2.mono ?_
  rintro e w12 ⟨g12, c12, N12, rfl, ho12, hg12⟩
  have hot12 := hot11.kept hg12 (by simp)
  go_wp2_with fail
  refine (same_any (some ⟨gt, 0, none⟩) (some ⟨g12, 0, none⟩) T T Nt N12 ct c12 w12 hot12.rd ho12.rd hot12.len ho12.len (by have := hot12.len; have := HPL.out; omega)).mono ?_
  rintro e w13 ⟨rfl, hg13⟩
  rw [show decide (T = T) = true by simp]
  have h79 : w11.grownBy w13 none := gb_trans hg12 hg13 (by simp)
  have s1113 := h79.size
  have hG13 := gb_trans hG11 h79 (by simp)
  have hop13 := hop11.kept h79 (by simp)
  have hoq13 := hoq11.kept h79 (by simp)
  have hof13 := hof11.kept h79 (by simp)
  clear hop11 hoq11 hot11 hof11 hot12 ho12 hg12 hg13 h79 hG11
  go_wp2_with fail
  refine (rsum a0 z0 L cap0 S w13 (HR.out.grown hG13 (by simp)) HL.out (by omega) HS.out).mono ?_
  rintro e w' ⟨rfl, rfl⟩
  have hSS : (S != S) = false := by simp
  go_wp2_with fail
  refine (rframe a0 z0 L cap0 F cd w13 (HR.out.grown hG13 (by simp)) HL.out HN.out hzn HF.out HC.out).mono ?_
  rintro e w14 ⟨vg, Ng, cg, rfl, hog, hg14⟩
  have hop14 := hop13.kept hg14 (by simp)
  have hoq14 := hoq13.kept hg14 (by simp)
  have hof14 := hof13.kept hg14 (by simp)
  have hG14 := gb_trans hG13 hg14 (by simp)
  have hlenp := hop14.len
  have s13 := hG13.size
  have hnp : Np ≤ 140737488351300 := by have := HPL.out; omega
  clear hop13 hoq13 hof13 hg14
  go_wp2_with fail
  refine (spoil_any _ gp Np cp P w14 hop14 hnp).mono ?_
  rintro e w15 ⟨rfl, hg15⟩
  have hG15 : W.grownBy w15 none := gb_trans hG14 hg15 (fun j hj => .inl (by simp at hj; omega))
  have hoq15 := hoq14.kept hg15 (by simp; omega)
  have hof15 := hof14.kept hg15 (fun j hj => by simp at hj; omega)
  have hog15 := hog.kept hg15 (fun j hj => by simp at hj; omega)
  clear hop14 hoq14 hof14 hog hg15 hG14
  go_wp2_with fail
  refine (same_any vf vg F F Nf Ng cf cg w15 hof15.2.1 hog15.2.1 hof15.1 hog15.1 (by have := hof15.1; have := HFL.out; omega)).mono ?_
  rintro e w16 ⟨rfl, hg16⟩
  rw [show decide (F = F) = true by simp]
  have hoq16 := hoq15.kept hg16 (by simp)
  have hG16 := gb_trans hG15 hg16 (by simp)
  have hcc : (cd == cd) = true := by simp
  go_wp2_with fail
  refine (HQ.out a0 cap0 w16 (HR.out.grown hG16 (by simp)) HN.out).2.mono ?_
  rintro e w17 ⟨g17, c17, N17, rfl, ho17, hg17⟩
  have hoq17 := hoq16.kept hg17 (by simp)
  go_wp2_with fail
  refine (same_any (some ⟨gq, 0, none⟩) (some ⟨g17, 0, none⟩) Q Q Nq N17 cq c17 w17 hoq17.rd ho17.rd hoq17.len ho17.len (by have := hoq17.len; have := HPL.out; omega)).mono ?_
  rintro e w18 ⟨rfl, hg18⟩
  rw [show decide (Q = Q) = true by simp]
  have hG18 := gb_trans (gb_trans hG16 hg17 (by simp)) hg18 (by simp)
  clear hoq15 hof15 hog15 hoq16 hoq17 ho17 hG15 hG16 hg16 hg17 hg18
  go_wp2_with fail
  refine (awake_any _).mono ?_
  rintro e w19 ⟨rfl, hg19⟩
  go_wp2
  go_ret
  exact ⟨rfl, gb_below (gb_trans hG18 hg19 (by simp))⟩


set_option maxRecDepth 100000 in
theorem codecPuts_lifted (os : Os) (started : os.Started) (H : Type) (enc : TypeId × Value → H) (F : Stop.Interp) :
    ReturnsInHanded {} Try.checked os 3 .any ((Rows.OpenSpec.upto Rows.codecPutsSpec).pre6 enc Try.prog Try.f3 Rows.codecPutsUptoRow.domain false) (((Rows.OpenSpec.upto Rows.codecPutsSpec).at F).post enc Try.prog Try.f3 false true false false) := by
  refine returnsInHanded_of_cond_sized (C := Try.checked) (s := Rows.OpenSpec.upto Rows.codecPutsSpec) (k := Rows.uptoSmall) rfl own started (by kernel_rfl) Try.func3
    (OpenSpec.witness (enc := enc) (C := Try.checked) (s := Rows.OpenSpec.upto Rows.codecPutsSpec) (k := Rows.uptoSmall) rfl false ⟨#[], #[.slice none 0 0, .int .u64 0, .int .i64 0, .string ByteArray.empty], []⟩ 8 (by kernel_rfl) (by kernel_rfl) (by kernel_rfl) (x := ([.nil, .lit (.int .u64 0), .lit (.int .i64 0), .lit (.string [])], [], [])) (by kernel_rfl) rfl (by kernel_rfl)) ?_
  intro W base args ds gs before hval0 hW hcnd hk hsz0 _
  have hsz : (DataW.weightsEach Try.prog (Try.f3.params.toList ++ Rows.codecPutsSpec.plain.varTypes Try.prog) (ds ++ gs)).all (· ≤ reachBytes) = true := hsz0
  clear hsz0
  have hval : ∀ (j : Nat) t v, Try.f3.params[j]? = some t → args[j]? = some v → Value.okWide Try.prog W .any base t v := hval0
  have hW' := hW
  obtain ⟨p, q, hA0, hV, rfl, hfz, hnd⟩ := hW
  have hA : DataW.TrodAll enc Try.prog W 0 (fun _ => true) true Try.f3.params.toList args.toList ds p := hA0
  rw [Try.params3] at hA hval hsz
  obtain ⟨v0, vs0, d0, ds0, p0, q0, hargs, rfl, rfl, h0, r0⟩ := trodAll_cons hA
  obtain ⟨v1, vs1, d1, ds1, p1, q1, rfl, rfl, rfl, h1, r1⟩ := trodAll_cons r0
  obtain ⟨v2, vs2, d2, ds2, p2, q2, rfl, rfl, rfl, h2, r2⟩ := trodAll_cons r1
  obtain ⟨v3, vs3, d3, ds3, p3, q3, rfl, rfl, rfl, h3, r3⟩ := trodAll_cons r2
  obtain ⟨rfl, rfl, rfl⟩ := trodAll_nil r3
  obtain rfl : args = #[v0, v1, v2, v3] := by cases args; simp_all
  obtain ⟨rfl, rfl⟩ := trodVars_none hV
  obtain ⟨a0, len0, cap0, rfl⟩ := okWide_slice Try.underlying22 (hval 0 22 v0 rfl rfl)
  have k0 := h0
  have lt0 : ∀ x ∈ p0, x.block < W.heap.size := by obtain ⟨m, hm⟩ := k0; exact DataW.trod_lt m _ _ _ hm
  have bk0 := open_bulk k0
  obtain ⟨z0, e0, rd0, nl0, le0⟩ := open_bytes k0 hsz (j := 0) rfl rfl
  subst e0
  obtain ⟨a1, rfl, rfl, rfl, w1⟩ := open_int Try.underlying23 (hval 1 23 v1 rfl rfl) h1
  obtain ⟨a2, rfl, rfl, rfl, w2⟩ := open_int Try.underlying2 (hval 2 2 v2 rfl rfl) h2
  obtain ⟨a3, rfl, rfl, rfl, w3⟩ := open_string Try.underlying9 (hval 3 9 v3 rfl rfl) h3
  simp only [List.append_nil] at hk
  have hb : Rows.uptoBulkAll _ ≤ 1048576 := of_decide_eq_true hk
  simp only [Rows.uptoBulkAll, bulk_str] at hb
  clear hA0 hval0
  refine (codecPuts_walk a0 z0 cap0 a1 a2 a3 W rd0 nl0 le0 (by omega) (bounds_u64 w1) (bounds_i64 w2)).mono fun e W' ⟨he, bel⟩ => ?_
  subst he
  show ∃ v, Ending.returned (Value.bool true) = Ending.returned v ∧ Rows.codecPutsSpec.post enc Try.prog Try.f3 false true false false W _ v W'
  exact ⟨_, rfl, _, _, _, [], _, [], hW', trodAll_mk1 (shut_bool Try.underlying4 _), (trodAll_cons_mk (Below.trod laidOut (by kernel_rfl) (of_decide_eq_true (by kernel_rfl)) k0 bel lt0) (trodAll_cons_mk (shut_int Try.underlying23 w1) (trodAll_cons_mk (shut_int Try.underlying2 w2) (trodAll_cons_mk (shut_string Try.underlying9 w3) trodAll_mk0)))), rfl, bel.frame _, fun h => by cases h⟩

theorem codecPuts_over : Rows.codecPutsUptoRow.holds Try.pinned (Rows.OpenSpec.upto Rows.codecPutsSpec) :=
  OpenClaim.holds_of_cond 3 Try.f3 rfl rfl rfl rfl rfl rfl rfl ⟨rfl, rfl, rfl, rfl, rfl⟩ rfl rfl rfl rfl rfl (by kernel_rfl) Try.func3 (by kernel_rfl)
    (of_decide_eq_true (by kernel_rfl)) (by unfold Func.isWrapper; first | (rw [if_pos (by decide +kernel)]; kernel_rfl) | (rw [if_neg (by decide +kernel)]; exact ⟨rfl, rfl⟩))
    (fun os started H enc _ F => codecPuts_lifted os started H enc F)

theorem codecPuts_holds : Rows.CodecPutsUptoSaid := codecPuts_over
#print axioms codecPuts_holds
end Go.Proofs.Ytngkmpmhodgfeaa
