/- What was laid is read back, wherever it stands, with the place behind it: for every two slices of bytes around it, number, signed number, text and record that together hold at most 1048576 values and letters. -/
import Derived.Deep.CondSized
import Derived.Test.YtngkmpmhodgfeaaCround
import Derived.Test.YtngkmpmhodgfeaaBcap
namespace Go.Proofs.Ytngkmpmhodgfeaa
open Go.ChangeShapes Go.WideShapes Go.ChangeAt Go.RowKit
open Go.ChangeMaps (open_string shut_string)
set_option linter.unusedVariables false

theorem trivialHid_F {z F : List Int} (h : flist z = F) (hz : ∀ y ∈ z, 0 ≤ y ∧ y ≤ 255) : ∀ y ∈ F, 0 ≤ y ∧ y ≤ 255 := by
  rw [← h, flist]
  split
  · simp
  · rw [frameR]
    intro y hy
    simp only [List.mem_append] at hy
    rcases hy with (h1 | h1) | h1
    · exact enc_byte _ y h1
    · exact four_byte _ (sumR_bd z hz) y h1
    · exact hz y h1

set_option maxHeartbeats 2000000 in
theorem codecBack_walk (a0 : Option Addr) (z0 : List Int) (cap0 : Nat) (a1 : Option Addr) (z1 : List Int) (cap1 : Nat) (v x : Int) (s : ByteArray) (a5 : Option Addr) (z5 : List Int) (cap5 : Nat) (W : World)
    (r0 : Rd W a0 z0) (n0 : a0 = none → cap0 = 0) (r1 : Rd W a1 z1) (n1 : a1 = none → cap1 = 0) (r5 : Rd W a5 z5) (n5 : a5 = none → cap5 = 0)
    (hsz : z0.length + z1.length + s.size + z5.length ≤ 140737488351000) (hv : 0 ≤ v ∧ v ≤ 18446744073709551615) (hx : -9223372036854775808 ≤ x ∧ x ≤ 9223372036854775807) :
    Calls Try.prog 5 #[.slice a0 z0.length cap0, .slice a1 z1.length cap1, .int .u64 v, .int .i64 x, .string s, .slice a5 z5.length cap5] W fun e w' => e = .returned (.bool true) ∧ Below W.heap.size W w' := by
  have hzzb := zz_bd x hx
  have l1 := enc_len v.toNat (by omega)
  have l2 := enc_len (zz x).toNat (by omega)
  have l3 := enc_len s.size (by omega)
  have l4 := sInts_len s
  obtain ⟨B1, hB1⟩ : ∃ B, z0 ++ enc v.toNat = B := ⟨_, rfl⟩
  obtain ⟨B2, hB2⟩ : ∃ B, B1 ++ enc (zz x).toNat = B := ⟨_, rfl⟩
  obtain ⟨B, hB⟩ : ∃ B, B2 ++ enc s.size ++ sInts s = B := ⟨_, rfl⟩
  have b1 : B1.length = z0.length + (enc v.toNat).length := by rw [← hB1]; simp
  have b2 : B2.length = B1.length + (enc (zz x).toNat).length := by rw [← hB2]; simp
  have b3 : B.length = B2.length + (enc s.size).length + s.size := by rw [← hB]; simp; omega
  obtain ⟨F, hF⟩ : ∃ F, flist z5 = F := ⟨_, rfl⟩
  obtain ⟨cd, hcd⟩ : ∃ F, fcode z5 = F := ⟨_, rfl⟩
  have bF : F.length ≤ z5.length + 14 := by
    rw [← hF, flist]
    split
    · simp
    · rw [frameR]
      have := enc_len z5.length (by omega)
      simp [four]; omega
  obtain ⟨all, hall⟩ : ∃ A, B ++ F ++ z1 = A := ⟨_, rfl⟩
  have HU : Hid (uintR all z0.length = (v, (B1.length : Int), 0)) := by
    have h := uintR_at z0 (enc (zz x).toNat ++ (enc s.size ++ (sInts s ++ (F ++ z1)))) v.toNat (by omega) all (by rw [← hall, ← hB, ← hB2, ← hB1]; simp) z0.length rfl
    rw [show ((v.toNat : Nat) : Int) = v by omega] at h
    rw [show (uintR all z0.length = (v, (B1.length : Int), 0)) = (uintR all z0.length = (v, (z0.length : Int) + (enc v.toNat).length, 0)) by rw [b1]; simp]
    exact h
  have HI : Hid (intR all B1.length = (x, (B2.length : Int), 0)) := by
    have h := intR_at B1 (enc s.size ++ (sInts s ++ (F ++ z1))) x hx all (by rw [← hall, ← hB, ← hB2]; simp) B1.length rfl
    rw [show (intR all B1.length = (x, (B2.length : Int), 0)) = (intR all B1.length = (x, (B1.length : Int) + (enc (zz x).toNat).length, 0)) by rw [b2]; simp]
    exact h
  have HT : Hid (textR all B2.length = (s, (B.length : Int), 0)) := by
    have h := textR_at B2 (F ++ z1) s (by omega) all (by rw [← hall, ← hB]; simp) B2.length rfl
    rw [show (textR all B2.length = (s, (B.length : Int), 0)) = (textR all B2.length = (s, (B2.length : Int) + (enc s.size).length + s.size, 0)) by rw [b3]; simp]
    exact h
  have HUF : Hid (z5.length ≤ 65536 → uframeR all B.length = (z5, (B.length : Int) + F.length, 0)) := by
    intro h5
    have eF : F = frameR z5 := by rw [← hF, flist, if_neg (by omega)]
    have h := uframeR_at B z1 z5 h5 all (by rw [← hall, eF]; simp) B.length rfl
    rw [eF]; exact h
  have HCd : Hid ((65536 < z5.length → cd = 23 ∧ F.length = 0) ∧ (z5.length ≤ 65536 → cd = 0)) := by
    constructor
    · intro h
      rw [← hcd, ← hF, fcode, flist, if_pos h, if_pos h]
      exact ⟨rfl, rfl⟩
    · intro h
      rw [← hcd, fcode, if_neg (by omega)]
  have hlall : all.length = B.length + F.length + z1.length := by rw [← hall]; simp; omega
  have HR1 : Hid (Rd W a1 z1) := r1
  have HN1 : Hid (a1 = none → cap1 = 0) := n1
  have HR5 : Hid (Rd W a5 z5) := r5
  have HK0 : Hid (Calls Try.prog 32 #[.slice a0 z0.length cap0] W fun e w' => ∃ g c, e = .returned (.slice (some ⟨g, 0, none⟩) z0.length c) ∧ Own w' W.heap.size g z0.length c z0 ∧ W.grownBy w' none) := copy_any a0 z0 cap0 W r0 n0 (by omega)
  have HK5 : Hid (∀ w, Rd w a5 z5 → Calls Try.prog 32 #[.slice a5 z5.length cap5] w fun e w' => ∃ g c, e = .returned (.slice (some ⟨g, 0, none⟩) z5.length c) ∧ Own w' w.heap.size g z5.length c z5 ∧ w.grownBy w' none) := fun w h => copy_any a5 z5 cap5 w h n5 (by omega)
  have HP1 : Hid (∀ a c w, Rd w a z0 → (a = none → c = 0) → Calls Try.prog 10 #[.slice a z0.length c, .int .u64 v] w fun e w' => ∃ g c N, e = .returned (.slice (some ⟨g, 0, none⟩) N c) ∧ Own w' w.heap.size g N c B1 ∧ w.grownBy w' none) := fun a c w h1 h2 => by
    rw [← hB1]; exact f_putuint a z0 z0.length c v w h1 rfl h2 (by omega) hv
  have HP2 : Hid (∀ a L c w, Rd w a B1 → B1.length = L → (a = none → c = 0) → Calls Try.prog 11 #[.slice a L c, .int .i64 x] w fun e w' => ∃ g c N, e = .returned (.slice (some ⟨g, 0, none⟩) N c) ∧ Own w' w.heap.size g N c B2 ∧ w.grownBy w' none) := fun a L c w h1 hl h2 => by
    rw [← hB2]; exact f_putint a B1 L c x w h1 hl h2 (by omega) hx
  have HP3 : Hid (∀ a L c w, Rd w a B2 → B2.length = L → (a = none → c = 0) → Calls Try.prog 12 #[.slice a L c, .string s] w fun e w' => ∃ g c N, e = .returned (.slice (some ⟨g, 0, none⟩) N c) ∧ Own w' w.heap.size g N c B ∧ w.grownBy w' none) := fun a L c w h1 hl h2 => by
    rw [← hB]; exact f_puttext a B2 L c s w h1 hl h2 (by omega)
  have HFr : Hid (flist z5 = F) := hF
  have HFc : Hid (fcode z5 = cd) := hcd
  have HAll : Hid (B ++ F ++ z1 = all) := hall
  have HBl : Hid (B.length ≤ 140737488351100 ∧ F.length ≤ 140737488351100 ∧ B.length + F.length + z1.length ≤ 140737488351100 ∧ z5.length ≤ 140737488351000) := by
    refine ⟨?_, ?_, ?_, ?_⟩ <;> omega
  have HBF : Hid (∀ z ∈ F, 0 ≤ z ∧ z ≤ 255) := trivialHid_F hF r5.2
  obtain ⟨L0, e0⟩ : ∃ L, z0.length = L := ⟨_, rfl⟩
  obtain ⟨L1, e1⟩ : ∃ L, z1.length = L := ⟨_, rfl⟩
  obtain ⟨L5, e5⟩ : ∃ L, z5.length = L := ⟨_, rfl⟩
  obtain ⟨m1, en1⟩ : ∃ L, B1.length = L := ⟨_, rfl⟩
  obtain ⟨m2, en2⟩ : ∃ L, B2.length = L := ⟨_, rfl⟩
  obtain ⟨nB, enB⟩ : ∃ L, B.length = L := ⟨_, rfl⟩
  obtain ⟨nF, enF⟩ : ∃ L, F.length = L := ⟨_, rfl⟩
  have HE0 : Hid (z0.length = L0) := e0
  have HE1 : Hid (z1.length = L1) := e1
  have HE5 : Hid (z5.length = L5) := e5
  have HEB : Hid (B.length = nB) := enB
  have HEF : Hid (F.length = nF) := enF
  have HE1' : Hid (B1.length = m1) := en1
  have HE2' : Hid (B2.length = m2) := en2
  rw [e0] at HK0 HP1 HU ⊢
  rw [e1]
  rw [e5] at HK5 HUF HCd ⊢
  rw [en1] at HU HI
  rw [en2] at HI HT
  rw [enB] at HT HUF
  rw [enF] at HUF HCd
  rw [enB, enF, e1, e5] at HBl
  have hBl := HBl.out
  have hLall : all.length = nB + nF + L1 := by rw [hlall, enB, enF, e1]
  have HLA : Hid (all.length = nB + nF + L1) := hLall
  have h5b : L5 ≤ 140737488351000 := hBl.2.2.2
  clear hzzb l1 l2 l3 l4 hB1 hB2 hB b1 b2 b3 hF hcd bF hall hlall r0 n0 r1 n1 r5 n5 hsz hv hx e0 e1 e5 en1 en2 enB enF hLall
  go_enter Try.func5, Try.ntmps5
  go_wp2_with fail
  refine HK0.out.mono ?_
  rintro e w1 ⟨g1, c1, rfl, ho1, hg1⟩
  go_wp2_with fail
  refine (HP1.out _ _ w1 ho1.rd (by simp)).mono ?_
  rintro e w2 ⟨g2, c2, N2, rfl, ho2, hg2⟩
  go_wp2_with fail
  refine (HP2.out _ _ _ w2 ho2.rd ho2.len (by simp)).mono ?_
  rintro e w3 ⟨g3, c3, N3, rfl, ho3, hg3⟩
  go_wp2_with fail
  refine (HP3.out _ _ _ w3 ho3.rd ho3.len (by simp)).mono ?_
  rintro e w4 ⟨g4, c4, N4, rfl, ho4, hg4⟩
  have hN4 : N4 = nB := ho4.len.symm.trans HEB.out
  subst hN4
  have hG4 : W.grownBy w4 none := gb_trans (gb_trans (gb_trans hg1 hg2 (by simp)) hg3 (by simp)) hg4 (by simp)
  clear ho1 ho2 ho3 hg1 hg2 hg3 hg4 HK0 HP1 HP2 HP3
  go_wp2_with fail
  refine (HK5.out w4 (HR5.out.grown hG4 (by simp))).mono ?_
  rintro e w5 ⟨g5, c5, rfl, ho5, hg5⟩
  have ho45 := ho4.kept hg5 (by simp)
  have hG5 := gb_trans hG4 hg5 (by simp)
  clear ho4 hg5 hG4 HK5
  go_wp2_with fail
  refine (f_frame (some ⟨g5, 0, none⟩) z5 L5 c5 F cd w5 ho5.rd HE5.out (by simp) (by omega) HFr.out HFc.out).mono ?_
  rintro e w6 ⟨vf, Nf, cf, rfl, hof, hg6⟩
  have hNf : Nf = nF := hof.1.symm.trans HEF.out
  subst hNf
  have ho46 := ho45.kept hg6 (by simp)
  have hG6 := gb_trans hG5 hg6 (by simp)
  clear ho45 ho5 hg6 hG5
  go_wp2_with fail
  have hcp := copy_any (some ⟨g4, 0, none⟩) B c4 w6 ho46.rd (by simp) (by have := HEB.out; omega)
  rw [HEB.out] at hcp
  have hW6 := hG6.size
  refine hcp.mono ?_
  rintro e w7 ⟨g7, c7, rfl, ho7, hg7⟩
  have hof7 := hof.kept hg7 (by simp)
  have hG7 := gb_trans hG6 hg7 (by simp)
  have ge7 := ho7.ge
  clear hcp hg7 hG6 hof ho46
  go_wp2_with (first | (at_builtin; refine wpList_append_rd rfl (.tmp 44) (.tmp 45) rfl w6.heap.size g7 N4 c7 B rfl ho7 vf F Nf cf rfl HEF.out hof7.2.1 hof7.2.2.1 (by omega) ?_; intro g8 c8 w8 ho8 hg8; have hG8 : W.grownBy w8 none := gb_trans hG7 hg8 (fun j hj => .inl (by simp at hj; omega)); have ge8 := ho8.ge) | (at_builtin; refine wpList_append_rd rfl (.tmp 46) (.tmp 47) rfl w6.heap.size g8 (N4 + Nf) c8 (B ++ F) rfl ho8 a1 z1 L1 cap1 rfl HE1.out (HR1.out.grown hG8 (by simp)) HN1.out (by omega) ?_; intro g9 c9 w9 ho9 hg9))
  have hG9 : W.grownBy w9 none := gb_trans hG8 hg9 (fun j hj => .inl (by simp at hj; omega))
  rw [HAll.out] at ho9
  have hc9 := ho9.cap.1
  have HO9 : Hid (Own w9 w6.heap.size g9 (N4 + Nf + L1) c9 all) := ho9
  have hz9 : ((N4 + Nf + L1 : Nat) : Int) ≤ 140737488355000 := by omega
  have HZ9 : Hid (((N4 + Nf + L1 : Nat) : Int) ≤ 140737488355000) := hz9
  clear ho9 ho8 ho7 hof7 hg9 hG8 hG7 hg8 hz9
  go_wp2_with fail
  refine (f_uint (some ⟨g9, 0, none⟩) all _ c9 L0 v m1 0 w9 HO9.out.rd HLA.out HO9.out.cap.1 HZ9.out HU.out).mono ?_
  rintro e w10 ⟨rfl, hg10⟩
  have HO10 : Hid (Own w10 w6.heap.size g9 (N4 + Nf + L1) c9 all) := HO9.out.kept hg10 (by simp)
  have hG10 := gb_trans hG9 hg10 (by simp)
  clear hg10 hG9 HO9
  go_wp2_with fail
  refine (f_int (some ⟨g9, 0, none⟩) all _ c9 m1 x m2 0 w10 HO10.out.rd HLA.out HO10.out.cap.1 HZ9.out HI.out).mono ?_
  rintro e w11 ⟨rfl, hg11⟩
  have HO11 : Hid (Own w11 w6.heap.size g9 (N4 + Nf + L1) c9 all) := HO10.out.kept hg11 (by simp)
  have hG11 := gb_trans hG10 hg11 (by simp)
  clear hg11 hG10 HO10
  go_wp2_with fail
  refine (f_text (some ⟨g9, 0, none⟩) all _ c9 m2 s N4 0 w11 HO11.out.rd HLA.out hc9 HZ9.out HT.out).mono ?_
  rintro e w12 ⟨rfl, hg12⟩
  have HO12 : Hid (Own w12 w6.heap.size g9 (N4 + Nf + L1) c9 all) := HO11.out.kept hg12 (by simp)
  have hG12 := gb_trans hG11 hg12 (by simp)
  clear hg12 hG11 HO11
  by_cases hlong : 65536 < L5
  · have hcd := (HCd.out.1 hlong).1
    subst hcd
    have hnf : Nf = 0 := (HCd.out.1 hlong).2
    subst hnf
    go_wp2_with fail
    refine (awake_any _).mono ?_
    rintro e w13 ⟨rfl, hg13⟩
    go_wp2
    go_ret
    exact ⟨rfl, gb_below (gb_trans hG12 hg13 (by simp))⟩
  · have hcd := HCd.out.2 (by omega)
    subst hcd
    have hRl : L5 ≤ 140737488355328 := by omega
    go_wp2_with fail
    refine (f_unframe (some ⟨g9, 0, none⟩) all _ c9 N4 z5 _ 0 w12 HO12.out.rd HLA.out hc9 HZ9.out (HUF.out (by omega))).mono ?_
    rintro e w13 ⟨vr, Nr, cr, rfl, hor, hg13⟩
    have hNr : Nr = L5 := hor.1.symm.trans HE5.out
    subst hNr
    have hG13 := gb_trans hG12 hg13 (by simp)
    clear hg13 hG12 HO12
    go_wp2_with fail
    refine (same_any vr a5 z5 z5 Nr Nr cr cap5 w13 hor.2.1 (HR5.out.grown hG13 (by simp)) HE5.out HE5.out hRl).mono ?_
    rintro e w14 ⟨rfl, hg14⟩
    rw [show decide (z5 = z5) = true by simp]
    have hG14 := gb_trans hG13 hg14 (by simp)
    clear hg14 hG13 hor
    go_wp2_with fail
    refine (awake_any _).mono ?_
    rintro e w15 ⟨rfl, hg15⟩
    go_wp2
    go_ret
    exact ⟨rfl, gb_below (gb_trans hG14 hg15 (by simp))⟩


set_option maxRecDepth 100000 in
theorem codecBack_lifted (os : Os) (started : os.Started) (H : Type) (enc : TypeId × Value → H) (F : Stop.Interp) :
    ReturnsInHanded {} Try.checked os 5 .any ((Rows.OpenSpec.upto Rows.codecBackSpec).pre6 enc Try.prog Try.f5 Rows.codecBackUptoRow.domain false) (((Rows.OpenSpec.upto Rows.codecBackSpec).at F).post enc Try.prog Try.f5 false true false false) := by
  refine returnsInHanded_of_cond_sized (C := Try.checked) (s := Rows.OpenSpec.upto Rows.codecBackSpec) (k := Rows.uptoSmall) rfl own started (by kernel_rfl) Try.func5
    (OpenSpec.witness (enc := enc) (C := Try.checked) (s := Rows.OpenSpec.upto Rows.codecBackSpec) (k := Rows.uptoSmall) rfl false ⟨#[], #[.slice none 0 0, .slice none 0 0, .int .u64 0, .int .i64 0, .string ByteArray.empty, .slice none 0 0], []⟩ 8 (by kernel_rfl) (by kernel_rfl) (by kernel_rfl) (x := ([.nil, .nil, .lit (.int .u64 0), .lit (.int .i64 0), .lit (.string []), .nil], [], [])) (by kernel_rfl) rfl (by kernel_rfl)) ?_
  intro W base args ds gs before hval0 hW hcnd hk hsz0 _
  have hsz : (DataW.weightsEach Try.prog (Try.f5.params.toList ++ Rows.codecBackSpec.plain.varTypes Try.prog) (ds ++ gs)).all (· ≤ reachBytes) = true := hsz0
  clear hsz0
  have hval : ∀ (j : Nat) t v, Try.f5.params[j]? = some t → args[j]? = some v → Value.okWide Try.prog W .any base t v := hval0
  have hW' := hW
  obtain ⟨p, q, hA0, hV, rfl, hfz, hnd⟩ := hW
  have hA : DataW.TrodAll enc Try.prog W 0 (fun _ => true) true Try.f5.params.toList args.toList ds p := hA0
  rw [Try.params5] at hA hval hsz
  obtain ⟨v0, vs0, d0, ds0, p0, q0, hargs, rfl, rfl, h0, r0⟩ := trodAll_cons hA
  obtain ⟨v1, vs1, d1, ds1, p1, q1, rfl, rfl, rfl, h1, r1⟩ := trodAll_cons r0
  obtain ⟨v2, vs2, d2, ds2, p2, q2, rfl, rfl, rfl, h2, r2⟩ := trodAll_cons r1
  obtain ⟨v3, vs3, d3, ds3, p3, q3, rfl, rfl, rfl, h3, r3⟩ := trodAll_cons r2
  obtain ⟨v4, vs4, d4, ds4, p4, q4, rfl, rfl, rfl, h4, r4⟩ := trodAll_cons r3
  obtain ⟨v5, vs5, d5, ds5, p5, q5, rfl, rfl, rfl, h5, r5⟩ := trodAll_cons r4
  obtain ⟨rfl, rfl, rfl⟩ := trodAll_nil r5
  obtain rfl : args = #[v0, v1, v2, v3, v4, v5] := by cases args; simp_all
  obtain ⟨rfl, rfl⟩ := trodVars_none hV
  obtain ⟨a0, len0, cap0, rfl⟩ := okWide_slice Try.underlying22 (hval 0 22 v0 rfl rfl)
  have k0 := h0
  have lt0 : ∀ x ∈ p0, x.block < W.heap.size := by obtain ⟨m, hm⟩ := k0; exact DataW.trod_lt m _ _ _ hm
  have bk0 := open_bulk k0
  obtain ⟨z0, e0, rd0, nl0, le0⟩ := open_bytes k0 hsz (j := 0) rfl rfl
  subst e0
  obtain ⟨a1, len1, cap1, rfl⟩ := okWide_slice Try.underlying22 (hval 1 22 v1 rfl rfl)
  have k1 := h1
  have lt1 : ∀ x ∈ p1, x.block < W.heap.size := by obtain ⟨m, hm⟩ := k1; exact DataW.trod_lt m _ _ _ hm
  have bk1 := open_bulk k1
  obtain ⟨z1, e1, rd1, nl1, le1⟩ := open_bytes k1 hsz (j := 1) rfl rfl
  subst e1
  obtain ⟨a2, rfl, rfl, rfl, w2⟩ := open_int Try.underlying23 (hval 2 23 v2 rfl rfl) h2
  obtain ⟨a3, rfl, rfl, rfl, w3⟩ := open_int Try.underlying2 (hval 3 2 v3 rfl rfl) h3
  obtain ⟨a4, rfl, rfl, rfl, w4⟩ := open_string Try.underlying9 (hval 4 9 v4 rfl rfl) h4
  obtain ⟨a5, len5, cap5, rfl⟩ := okWide_slice Try.underlying22 (hval 5 22 v5 rfl rfl)
  have k5 := h5
  have lt5 : ∀ x ∈ p5, x.block < W.heap.size := by obtain ⟨m, hm⟩ := k5; exact DataW.trod_lt m _ _ _ hm
  have bk5 := open_bulk k5
  obtain ⟨z5, e5, rd5, nl5, le5⟩ := open_bytes k5 hsz (j := 5) rfl rfl
  subst e5
  simp only [List.append_nil] at hk
  have hb : Rows.uptoBulkAll _ ≤ 1048576 := of_decide_eq_true hk
  simp only [Rows.uptoBulkAll, bulk_str] at hb
  clear hA0 hval0
  refine (codecBack_walk a0 z0 cap0 a1 z1 cap1 a2 a3 a4 a5 z5 cap5 W rd0 nl0 rd1 nl1 rd5 nl5 (by omega) (bounds_u64 w2) (bounds_i64 w3)).mono fun e W' ⟨he, bel⟩ => ?_
  subst he
  show ∃ v, Ending.returned (Value.bool true) = Ending.returned v ∧ Rows.codecBackSpec.post enc Try.prog Try.f5 false true false false W _ v W'
  exact ⟨_, rfl, _, _, _, [], _, [], hW', trodAll_mk1 (shut_bool Try.underlying4 _), (trodAll_cons_mk (Below.trod laidOut (by kernel_rfl) (of_decide_eq_true (by kernel_rfl)) k0 bel lt0) (trodAll_cons_mk (Below.trod laidOut (by kernel_rfl) (of_decide_eq_true (by kernel_rfl)) k1 bel lt1) (trodAll_cons_mk (shut_int Try.underlying23 w2) (trodAll_cons_mk (shut_int Try.underlying2 w3) (trodAll_cons_mk (shut_string Try.underlying9 w4) (trodAll_cons_mk (Below.trod laidOut (by kernel_rfl) (of_decide_eq_true (by kernel_rfl)) k5 bel lt5) trodAll_mk0)))))), rfl, bel.frame _, fun h => by cases h⟩

theorem codecBack_over : Rows.codecBackUptoRow.holds Try.pinned (Rows.OpenSpec.upto Rows.codecBackSpec) :=
  OpenClaim.holds_of_cond 5 Try.f5 rfl rfl rfl rfl rfl rfl rfl ⟨rfl, rfl, rfl, rfl, rfl⟩ rfl rfl rfl rfl rfl (by kernel_rfl) Try.func5 (by kernel_rfl)
    (of_decide_eq_true (by kernel_rfl)) (by unfold Func.isWrapper; first | (rw [if_pos (by decide +kernel)]; kernel_rfl) | (rw [if_neg (by decide +kernel)]; exact ⟨rfl, rfl⟩))
    (fun os started H enc _ F => codecBack_lifted os started H enc F)

theorem codecBack_holds : Rows.CodecBackUptoSaid := codecBack_over
#print axioms codecBack_holds
end Go.Proofs.Ytngkmpmhodgfeaa
