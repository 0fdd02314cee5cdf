/- Several texts in one: Wa, Wb. -/
import Derived.Test.YtboamjhlaehoaaaGreatNd
import Derived.Deep.RegionHeld3
import Derived.Test.YtboamjhlaehoaaaGreatMo
/- Rings: the document's Encode. -/
namespace Go.Proofs.YtboamjhlaehoaaaGreat
open Go.RowKit
set_option linter.unusedVariables false
set_option maxRecDepth 20000

/-- One more number behind bytes. -/
theorem put_ok {a : Option Addr} {zs : List Int} {L cap : Nat} {v : Int} {w : World} (hr : Rd w a zs) (hL : zs.length = L) (hnil : a = none → cap = 0) (hz : L ≤ 140737488355000) (hv : 0 ≤ v ∧ v ≤ 18446744073709551615) :
    Calls Tryz.prog 52 #[.slice a L cap, .int .u64 v] w fun e w' => ∃ g c M, e = .returned (.slice (some ⟨g, 0, none⟩) M c) ∧ Hid (Rd w' (some ⟨g, 0, none⟩) (zs ++ enc v.toNat) ∧ (zs ++ enc v.toNat).length = M) ∧ w.grownBy w' none := by
  refine (rputuint a zs L cap v w hr hL hnil hz hv).mono ?_
  rintro e w' ⟨g, c, M, rfl, ho, hg⟩
  exact ⟨g, c, M, rfl, ⟨ho.rd, ho.len⟩, hg⟩
/-- Where Encode stands: the numbers laid so far. -/
def EnAt (w wr : World) (vs : List Int) (t : Value) : Prop := ∃ g c M, t = .slice (some ⟨g, 0, none⟩) M c ∧ Rd wr (some ⟨g, 0, none⟩) (encAll vs) ∧ (encAll vs).length = M ∧ w.grownBy wr none
theorem encAll_two (xs : List Int) (v : Int) : encAll (xs ++ [v]) = encAll xs ++ enc v.toNat := by simp [encAll]
set_option maxHeartbeats 16000000 in
theorem r_encode (E : Int) (ms : List Mem) (raw : List MRow) (a : Option Addr) (L c : Nat) (w : World) (hx : MsRd w a ms raw) (hL : ms.length = L) (hE : 0 ≤ E ∧ E ≤ 18446744073709551615) (ht : wfT ms) (hz : L ≤ 3518437208800) (hz2 : ∀ s ∈ ms, s.2.2.length ≤ 35184372088832) :
    Calls Tryz.prog 29 #[.agg #[.int .u64 E, .slice a L c]] w fun e w' => w.grownBy w' none ∧ ((ringOk ms = true ∧ ∃ g c' M, e = .returned (.tuple #[.slice (some ⟨g, 0, none⟩) M c', .int .i64 0]) ∧ Rd w' (some ⟨g, 0, none⟩) (encAll (nrs E L ms)) ∧ (encAll (nrs E L ms)).length = M) ∨ (ringOk ms = false ∧ e = .returned (.tuple #[.slice none 0 0, .int .i64 130]))) := by
  have HX : Hid (MsRd w a ms raw) := hx
  have HL : Hid (ms.length = L) := hL
  have gA := World.grownBy_alloc w (.cells #[.int .u64 E, .slice a L c] 25) none
  have HG : Hid (w.grownBy (w.alloc (.cells #[.int .u64 E, .slice a L c] 25)) none) := gA
  have HBr : Hid ((w.alloc (.cells #[.int .u64 E, .slice a L c] 25)).heap[w.heap.size]? = some (.cells #[.int .u64 E, .slice a L c] 25 (0, 0))) := heap_alloc_new w _
  have CK := r_check E ms raw a L c (w.alloc (.cells #[.int .u64 E, .slice a L c] 25)) (hx.grown gA) hL hz hz2
  obtain ⟨B, eB⟩ : ∃ B, w.heap.size = B := ⟨_, rfl⟩
  rw [eB] at HBr
  have EB : Hid (w.heap.size = B) := eB
  obtain ⟨x0, x1⟩ := cell2 HBr.out
  cases ho : ringOk ms with
  | false =>
    have hck : chkC ms = 130 := by unfold chkC; rw [ho]; rfl
    rw [hck] at CK
    clear hx hL hz hz2 gA eB ho hck hE ht
    go_enter Tryz.func29, Tryz.ntmps29
    go_wp2_with fail
    refine CK.mono ?_
    rintro e u1 ⟨rfl, g9⟩
    have HG1 : Hid (w.grownBy u1 none) := HG.out.trans g9
    clear g9
    go_wp2
    go_ret2
    exact ⟨HG1.out, .inr ⟨trivial, rfl⟩⟩
  | true =>
    have hck : chkC ms = 0 := by unfold chkC; rw [ho]; rfl
    rw [hck] at CK
    have hl16 := (ok_small ho).1
    have HMO : Hid (∀ m ∈ ms, (0 ≤ m.1 ∧ m.1 < 16) ∧ (1 ≤ m.2.1 ∧ m.2.1 ≤ 3) ∧ (1 ≤ m.2.2.length ∧ m.2.2.length ≤ 64)) := fun m hm => memOk_of ho hm
    have HWF : Hid (wfT ms) := ht
    have HE : Hid (0 ≤ E ∧ E ≤ 18446744073709551615) := hE
    clear hx hL hz2 gA eB ho hck hE ht
    go_enter Tryz.func29, Tryz.ntmps29
    go_wp2_with fail
    try rw [EB.out]
    generalize w.alloc (.cells #[.int .u64 E, .slice a L c] 25) = W at *
    refine CK.mono ?_
    clear CK x0 x1
    rintro e V ⟨rfl, g9⟩
    have HGV : Hid (w.grownBy V none) := HG.out.trans g9
    have HBV : Hid (V.heap[B]? = some (.cells #[.int .u64 E, .slice a L c] 25 (0, 0))) := by show _ = _; rw [g9.block B (Array.getElem?_eq_some_iff.1 HBr.out).1 (by simp)]; exact HBr.out
    clear g9 HBr HG
    obtain ⟨x0, x1⟩ := cell2 HBV.out
    have HDR : Hid (V.grownBy V.drew none) := gb_drew (World.grownBy.refl _ _)
    have hLw : IntKind.u64.wrap (L : Int) = (L : Int) := by rw [IntKind.wrap_u64]; omega
    have HP : Hid (∀ u (a9 : Option Addr) (M9 c9 : Nat) (v : Int) (zs : List Int), Hid (V.grownBy u none) → Hid (Rd u a9 zs ∧ zs.length = M9 ∧ M9 ≤ 1000 ∧ (a9 = none → c9 = 0)) → Hid (0 ≤ v ∧ v ≤ 18446744073709551615) → Calls Tryz.prog 52 #[.slice a9 M9 c9, .int .u64 v] u fun e w' => ∃ g' c' M', e = .returned (.slice (some ⟨g', 0, none⟩) M' c') ∧ Hid (Rd w' (some ⟨g', 0, none⟩) (zs ++ enc v.toNat) ∧ (zs ++ enc v.toNat).length = M' ∧ M' ≤ M9 + 10 ∧ (some (⟨g', 0, none⟩ : Addr) = none → c' = 0)) ∧ Hid (V.grownBy w' none) ∧ w'.cell? ⟨B, 0, none⟩ = some (.int .u64 E) ∧ w'.cell? ⟨B, 1, none⟩ = some (.slice a L c)) := fun u a9 M9 c9 v zs h hq hv => by
      refine (put_ok hq.out.1 hq.out.2.1 hq.out.2.2.2 (by have := hq.out.2.2.1; omega) hv.out).mono ?_
      rintro e w' ⟨g8, c8, M, rfl, h1, h2⟩
      have gg := h.out.trans h2
      have h4 := enc_len v.toNat (by have := hv.out; omega)
      have h5 := h1.out.2
      rw [List.length_append] at h5
      have h6 := hq.out.2.1
      exact ⟨_, _, M, rfl, ⟨h1.out.1, h1.out.2, by omega, by simp⟩, gg, gg.cell x0 (by simp), gg.cell x1 (by simp)⟩
    have HQ0 : Hid (∀ u : World, Hid (Rd u none [] ∧ ([] : List Int).length = 0 ∧ 0 ≤ 1000 ∧ ((none : Option Addr) = none → 0 = 0))) := fun u => ⟨⟨.inl rfl, by simp⟩, rfl, by omega, fun _ => rfl⟩
    have HVE : Hid (0 ≤ E ∧ E ≤ 18446744073709551615) := HE.out
    have HVL : Hid (0 ≤ (L : Int) ∧ (L : Int) ≤ 18446744073709551615) := by show _ ∧ _; omega
    go_upto_region 4 with fail
    go_region_held3 (fun u => Hid (V.grownBy u none) ∧ u.cell? ⟨B, 0, none⟩ = some (.int .u64 E) ∧ u.cell? ⟨B, 1, none⟩ = some (.slice a L c)) (first | exact ⟨HDR, x0, x1⟩ | (refine ⟨?_, ?_, ?_⟩ <;> assumption)) (first | (go_at_call 52; refine (HP.out _ (some ⟨g1, 0, none⟩) M1 c1 (L : Int) _ ?h1 ⟨r1.out.1, r1.out.2.1, by have := r1.out.2.2.1; omega, r1.out.2.2.2⟩ HVL).mono ?_; (case h1 => assumption); rintro e z2 ⟨g2, c2, M2, rfl, r2, s2', i2', j2'⟩) | (go_at_call 52; refine (HP.out _ none 0 0 E [] ?h1 ⟨⟨.inl rfl, by simp⟩, rfl, by omega, fun _ => rfl⟩ HVE).mono ?_; (case h1 => exact HDR); rintro e z1 ⟨g1, c1, M1, rfl, r1, s1', i1', j1'⟩))
    have HS0 : Hid (Rd z2 (some ⟨g2, 0, none⟩) (encAll (nrs E L (ms.take 0))) ∧ (encAll (nrs E L (ms.take 0))).length = M2 ∧ M2 ≤ 20) := by
      have e1 : ([] ++ enc E.toNat) ++ enc ((L : Int)).toNat = encAll (nrs E L (ms.take 0)) := by simp [encAll, nrs]
      have h1 := r2.out
      rw [e1] at h1
      exact ⟨h1.1, h1.2.1, by have := h1.2.2.1; have := r1.out.2.2.1; omega⟩
    have HGz : Hid (w.grownBy z2 none) := HGV.out.trans s2'.out
    have HBz : Hid (z2.heap[B]? = some (.cells #[.int .u64 E, .slice a L c] 25 (0, 0))) := by show _ = _; rw [s2'.out.block B (Array.getElem?_eq_some_iff.1 HBV.out).1 (by simp)]; exact HBV.out
    clear r1 r2 s1' s2' i1' i2' j1' j2' HP HQ0 HVE HVL HDR x0 x1 hLw HBV HGV
    go_wp2
    go_loopw [5, 6] (fun t5 t6 wr => ∃ (i g c' M : Nat), i ≤ L ∧ t6 = .int .i64 i ∧ t5 = .slice (some ⟨g, 0, none⟩) M c' ∧ Rd wr (some ⟨g, 0, none⟩) (encAll (nrs E L (ms.take i))) ∧ (encAll (nrs E L (ms.take i))).length = M ∧ M ≤ 20 + 670 * i ∧ w.grownBy wr none ∧ wr.heap[B]? = some (.cells #[.int .u64 E, .slice a L c] 25 (0, 0))) (fun _ t6 _ => L - (intOf t6).toNat)
    case atStart => exact ⟨0, g2, c2, M2, Nat.zero_le _, rfl, rfl, HS0.out.1, HS0.out.2.1, by have := HS0.out.2.2; omega, HGz.out, HBz.out⟩
    case round =>
      clear HS0 HGz HBz
      obtain ⟨i, g, c', M, hi, rfl, rfl, hrd, hlen, hM, hg, hb⟩ := hrel
      have HRD : Hid (Rd wr (some ⟨g, 0, none⟩) (encAll (nrs E L (ms.take i))) ∧ (encAll (nrs E L (ms.take i))).length = M) := ⟨hrd, hlen⟩
      have HG : Hid (w.grownBy wr none) := hg
      have HB : Hid (wr.heap[B]? = some (.cells #[.int .u64 E, .slice a L c] 25 (0, 0))) := hb
      obtain ⟨x0, x1⟩ := cell2 hb
      clear hrd hlen hg hb
      by_cases hlt : i < L
      · have hki : (i : Int) < (L : Int) := by omega
        have hl := HL.out
        have hX := HX.out.grown HG.out
        obtain ⟨⟨i1, s1, t1⟩, ex⟩ : ∃ x, ms[i]? = some x := ⟨_, List.getElem?_eq_getElem (by omega)⟩
        obtain ⟨ba, off, ta, tc, rfl, a0, a1, a2, rt, _⟩ := hX.cells ex
        have hmo := HMO.out _ (List.mem_of_getElem? ex)
        have hwf := HWF.out _ (List.mem_of_getElem? ex)
        simp only at a0 a1 a2 rt hmo hwf
        have HTK : Hid (nrs E L (ms.take (i + 1)) = nrs E L (ms.take i) ++ [i1, s1, (t1.length : Int)] ++ t1) := nrs_take ex
        have HRT : Hid (SRd wordE wr ta t1) := rt
        have HWT : Hid (∀ t ∈ t1, 0 ≤ t ∧ t < 4294967296) := hwf
        obtain ⟨n1, en1⟩ : ∃ n1, t1.length = n1 := ⟨_, rfl⟩
        have EN : Hid (t1.length = n1) := en1
        rw [en1] at a2 hmo HTK
        generalize nrs E L (ms.take i) = P0 at HRD HTK
        obtain ⟨Bm, eBm⟩ : ∃ Bm, wr.heap.size = Bm := ⟨_, rfl⟩
        have EBm : Hid (wr.heap.size = Bm) := eBm
        have gU := World.grownBy_alloc wr (.cells #[.int .i64 i1, .int .i64 s1, .slice ta n1 tc] 61) none
        have hU : (wr.alloc (.cells #[.int .i64 i1, .int .i64 s1, .slice ta n1 tc] 61)).heap[Bm]? = some (.cells #[.int .i64 i1, .int .i64 s1, .slice ta n1 tc] 61 (0, 0)) := by rw [← eBm]; exact heap_alloc_new wr _
        have HGU : Hid (wr.grownBy (wr.alloc (.cells #[.int .i64 i1, .int .i64 s1, .slice ta n1 tc] 61)) none) := gU
        have HU : Hid ((wr.alloc (.cells #[.int .i64 i1, .int .i64 s1, .slice ta n1 tc] 61)).heap[Bm]? = some (.cells #[.int .i64 i1, .int .i64 s1, .slice ta n1 tc] 61 (0, 0))) := hU
        have w1 : IntKind.u64.wrap i1 = i1 := by rw [IntKind.wrap_u64]; omega
        have w2 : IntKind.u64.wrap s1 = s1 := by rw [IntKind.wrap_u64]; omega
        have w3 : IntKind.u64.wrap (n1 : Int) = (n1 : Int) := by rw [IntKind.wrap_u64]; omega
        have V1 : Hid (0 ≤ i1 ∧ i1 ≤ 18446744073709551615) := by show _ ∧ _; omega
        have V2 : Hid (0 ≤ s1 ∧ s1 ≤ 18446744073709551615) := by show _ ∧ _; omega
        have V3 : Hid (0 ≤ (n1 : Int) ∧ (n1 : Int) ≤ 18446744073709551615) := by show _ ∧ _; omega
        have HN1 : Hid (n1 ≤ 64) := by show _ ≤ _; omega
        have hM2 : M ≤ 20000 := by omega
        clear ex hX rt en1 eBm gU hU hl hmo hwf
        go_upto_region 9 with fail
        try rw [EBm.out]
        generalize wr.alloc (.cells #[.int .i64 i1, .int .i64 s1, .slice ta n1 tc] 61) = U at *
        clear a0 a1 a2 x0 x1
        obtain ⟨q0, q1, q2⟩ := cell3 HU.out
        have HDR : Hid (U.grownBy U.drew none) := gb_drew (World.grownBy.refl _ _)
        have HP : Hid (∀ u (a9 : Option Addr) (M9 c9 : Nat) (v : Int) (zs : List Int), Hid (U.grownBy u none) → Hid (Rd u a9 zs ∧ zs.length = M9 ∧ M9 ≤ 30000 ∧ (a9 = none → c9 = 0)) → Hid (0 ≤ v ∧ v ≤ 18446744073709551615) → Calls Tryz.prog 52 #[.slice a9 M9 c9, .int .u64 v] u fun e w' => ∃ g' c' M', e = .returned (.slice (some ⟨g', 0, none⟩) M' c') ∧ Hid (Rd w' (some ⟨g', 0, none⟩) (zs ++ enc v.toNat) ∧ (zs ++ enc v.toNat).length = M' ∧ M' ≤ M9 + 10 ∧ (some (⟨g', 0, none⟩ : Addr) = none → c' = 0)) ∧ Hid (U.grownBy w' none) ∧ w'.cell? ⟨Bm, 0, none⟩ = some (.int .i64 i1) ∧ w'.cell? ⟨Bm, 1, none⟩ = some (.int .i64 s1) ∧ w'.cell? ⟨Bm, 2, none⟩ = some (.slice ta n1 tc)) := fun u a9 M9 c9 v zs h hq hv => by
          refine (put_ok hq.out.1 hq.out.2.1 hq.out.2.2.2 (by have := hq.out.2.2.1; omega) hv.out).mono ?_
          rintro e w' ⟨g8, c8, M, rfl, h1, h2⟩
          have gg := h.out.trans h2
          have h4 := enc_len v.toNat (by have := hv.out; omega)
          have h5 := h1.out.2
          rw [List.length_append] at h5
          have h6 := hq.out.2.1
          exact ⟨_, _, M, rfl, ⟨h1.out.1, h1.out.2, by omega, by simp⟩, gg, gg.cell q0 (by simp), gg.cell q1 (by simp), gg.cell q2 (by simp)⟩
        have HR0 : Hid (Rd U.drew (some ⟨g, 0, none⟩) (encAll P0) ∧ (encAll P0).length = M ∧ M ≤ 30000 ∧ (some (⟨g, 0, none⟩ : Addr) = none → c' = 0)) := ⟨(HRD.out.1.grown HGU.out (by simp)).grown HDR.out (by simp), HRD.out.2, by omega, by simp⟩
        go_region_held3 (fun u => Hid (U.grownBy u none) ∧ u.cell? ⟨Bm, 0, none⟩ = some (.int .i64 i1) ∧ u.cell? ⟨Bm, 1, none⟩ = some (.int .i64 s1) ∧ u.cell? ⟨Bm, 2, none⟩ = some (.slice ta n1 tc)) (first | exact ⟨HDR, q0, q1, q2⟩ | (refine ⟨?_, ?_, ?_, ?_⟩ <;> assumption)) (first | (go_at_call 52; refine (HP.out _ (some ⟨g4, 0, none⟩) M4 c4 (n1 : Int) _ ?h1 ⟨r4.out.1, r4.out.2.1, by have := r4.out.2.2.1; have := r3.out.2.2.1; omega, r4.out.2.2.2⟩ V3).mono ?_; (case h1 => assumption); rintro e z5 ⟨g5, c5, M5, rfl, r5, s5, k5, l5, m5⟩) | (go_at_call 52; refine (HP.out _ (some ⟨g3, 0, none⟩) M3 c3 s1 _ ?h1 ⟨r3.out.1, r3.out.2.1, by have := r3.out.2.2.1; omega, r3.out.2.2.2⟩ V2).mono ?_; (case h1 => assumption); rintro e z4 ⟨g4, c4, M4, rfl, r4, s4, k4, l4, m4⟩) | (go_at_call 52; refine (HP.out _ (some ⟨g, 0, none⟩) M c' i1 _ ?h1 HR0 V1).mono ?_; (case h1 => exact HDR); rintro e z3 ⟨g3, c3, M3, rfl, r3, s3, k3, l3, m3⟩))
        have HS5 : Hid (Rd z5 (some ⟨g5, 0, none⟩) (encAll (P0 ++ [i1, s1, (n1 : Int)] ++ t1.take 0)) ∧ (encAll (P0 ++ [i1, s1, (n1 : Int)] ++ t1.take 0)).length = M5 ∧ M5 ≤ M + 30) := by
          have e1 : ((encAll P0 ++ enc i1.toNat) ++ enc s1.toNat) ++ enc ((n1 : Int)).toNat = encAll (P0 ++ [i1, s1, (n1 : Int)] ++ t1.take 0) := by simp [encAll, List.append_assoc]
          have h1 := r5.out
          rw [e1] at h1
          exact ⟨h1.1, h1.2.1, by have := h1.2.2.1; have := r4.out.2.2.1; have := r3.out.2.2.1; omega⟩
        have HG5 : Hid (U.grownBy z5 none) := s5
        clear r3 r4 r5 s3 s4 s5 k3 k4 k5 l3 l4 l5 m3 m4 m5 HP HR0 HDR q0 q1 q2
        go_wp2
        go_loopw [5, 8] (fun t5 t8 wx => ∃ (j g' cc M' : Nat), j ≤ n1 ∧ t8 = .int .i64 j ∧ t5 = .slice (some ⟨g', 0, none⟩) M' cc ∧ Rd wx (some ⟨g', 0, none⟩) (encAll (P0 ++ [i1, s1, (n1 : Int)] ++ t1.take j)) ∧ (encAll (P0 ++ [i1, s1, (n1 : Int)] ++ t1.take j)).length = M' ∧ M' ≤ M + 30 + 10 * j ∧ U.grownBy wx none) (fun _ t8 _ => n1 - (intOf t8).toNat)
        case atStart => exact ⟨0, g5, c5, M5, Nat.zero_le _, rfl, rfl, HS5.out.1, HS5.out.2.1, by have := HS5.out.2.2; omega, HG5.out⟩
        case round =>
          clear HS5 HG5
          obtain ⟨j, g', cc, M', hj, rfl, rfl, hrd, hlen, hM', hgx⟩ := hrel
          have HRJ : Hid (Rd wr (some ⟨g', 0, none⟩) (encAll (P0 ++ [i1, s1, (n1 : Int)] ++ t1.take j)) ∧ (encAll (P0 ++ [i1, s1, (n1 : Int)] ++ t1.take j)).length = M') := ⟨hrd, hlen⟩
          have HGX : Hid (U.grownBy wr none) := hgx
          obtain ⟨q0, q1, q2⟩ := cell3 HU.out
          have y2 := hgx.cell q2 (by simp)
          clear hrd hlen hgx q0 q1 q2
          have hn64 := HN1.out
          by_cases hjl : j < n1
          · have hji : (j : Int) < (n1 : Int) := by omega
            have hen := EN.out
            obtain ⟨tb, tof, e2, hca⟩ := (HRT.out.grown (HGU.out.trans HGX.out) (by simp)).at (by omega)
            subst e2
            obtain ⟨t, et⟩ : ∃ x, t1[j]? = some x := ⟨_, List.getElem?_eq_getElem (by omega)⟩
            have b0 : wr.cell? ⟨tb, tof + j, none⟩ = some (.int .u32 t) := by have := hca j _ 0 _ et rfl; simpa [wordE] using this
            have hwt := HWT.out t (List.mem_of_getElem? et)
            have w4 : IntKind.u64.wrap t = t := by rw [IntKind.wrap_u64]; omega
            have HTJ : Hid (t1.take (j + 1) = t1.take j ++ [t]) := by show _ = _; rw [List.take_add_one, et]; rfl
            have C := put_ok (cap := cc) HRJ.out.1 HRJ.out.2 (by simp) (by omega) (v := t) (by omega)
            have HEL : Hid ((enc t.toNat).length ≤ 10) := enc_len _ (by omega)
            clear hca et hen hwt
            go_wp2_with fail
            refine C.mono ?_
            clear C b0 y2
            rintro e z6 ⟨g6, c6, M6, rfl, r6, gg6⟩
            have HG6 : Hid (U.grownBy z6 none) := HGX.out.trans gg6
            have HR6 : Hid (Rd z6 (some ⟨g6, 0, none⟩) (encAll (P0 ++ [i1, s1, (n1 : Int)] ++ t1.take (j + 1))) ∧ (encAll (P0 ++ [i1, s1, (n1 : Int)] ++ t1.take (j + 1))).length = M6 ∧ M6 ≤ M' + 10) := by
              have e1 : encAll (P0 ++ [i1, s1, (n1 : Int)] ++ t1.take j) ++ enc t.toNat = encAll (P0 ++ [i1, s1, (n1 : Int)] ++ t1.take (j + 1)) := by rw [HTJ.out, ← List.append_assoc, encAll_two]
              have h1 := r6.out
              have h2 := h1.2
              rw [List.length_append, HRJ.out.2] at h2
              rw [e1] at h1
              exact ⟨h1.1, h1.2, by have := HEL.out; omega⟩
            clear gg6 r6
            go_wp2
            go_roundw
            case rel => exact ⟨j + 1, g6, c6, M6, by omega, by go_num, rfl, HR6.out.1, HR6.out.2.1, by have := HR6.out.2.2; omega, HG6.out⟩
            case measure => simp [intOf]; omega
          · obtain rfl : j = n1 := by omega
            have HT1 : Hid (P0 ++ [i1, s1, (j : Int)] ++ t1.take j = nrs E L (ms.take (i + 1))) := by show _ = _; rw [HTK.out, List.take_of_length_le (by have := EN.out; omega)]
            rw [HT1.out] at HRJ
            have HBx : Hid (wr.heap[B]? = some (.cells #[.int .u64 E, .slice (some ⟨ba, off, none⟩) L c] 25 (0, 0))) := by show _ = _; rw [(HGU.out.trans HGX.out).block B (Array.getElem?_eq_some_iff.1 HB.out).1 (by simp)]; exact HB.out
            go_wp2
            go_roundw
            case rel => exact ⟨i + 1, g', cc, M', by omega, by go_num, rfl, HRJ.out.1, HRJ.out.2, by omega, (HG.out.trans HGU.out).trans HGX.out, HBx.out⟩
            case measure => simp [intOf]; omega
      · obtain rfl : i = L := by omega
        have HLT : Hid (ms.take i = ms) := List.take_of_length_le (by have := HL.out; omega)
        rw [HLT.out] at HRD
        go_wp2
        go_ret2
        exact ⟨HG.out, .inl ⟨trivial, g, c', M, rfl, HRD.out.1, HRD.out.2⟩⟩
end Go.Proofs.YtboamjhlaehoaaaGreat

/- Rings: the document's reader of numbers. -/
namespace Go.Proofs.YtboamjhlaehoaaaGreat
open Go.RowKit
set_option linter.unusedVariables false
set_option maxRecDepth 20000

/-- Where the document's reader stands. -/
structure UAt (w : World) (Bq : Nat) (a : Option Addr) (L c : Nat) (zs : List Int) (p : Int) (bad : Bool) : Prop where
  box : w.heap[Bq]? = some (.cells #[.slice a L c, .int .i64 p, .bool bad] 81 (0, 0))
  rd : Rd w a zs
  len : zs.length = L
  cap : L ≤ c
  small : (L : Int) ≤ 140737488355000
/-- One number, without bounds. -/
def nxtU (zs : List Int) (s : Int × Bool) : Int × Int × Bool :=
  if s.2 then (0, s.1, true) else ((uintR zs s.1).1, (uintR zs s.1).2.1, decide ((uintR zs s.1).2.2 ≠ 0))
theorem free_row3 {w : World} {g : Nat} {cs : Array Value} {t : TypeId} (h : w.heap[g]? = some (.cells cs t (0, 0))) (i : Nat) : w.frozen? ⟨g, i, none⟩ = false := free_row h i
theorem UAt.set {w : World} {Bq : Nat} {a : Option Addr} {L c : Nat} {zs : List Int} {p q : Int} {b b' : Bool} (h : UAt w Bq a L c zs p b) (hoff : ∀ x, a = some x → x.block ≠ Bq) : UAt ((w.setCell ⟨Bq, 2, none⟩ (.bool b')).setCell ⟨Bq, 1, none⟩ (.int .i64 q)) Bq a L c zs q b' ∧ w.grownBy ((w.setCell ⟨Bq, 2, none⟩ (.bool b')).setCell ⟨Bq, 1, none⟩ (.int .i64 q)) (some Bq) := by
  have hg : w.grownBy ((w.setCell ⟨Bq, 2, none⟩ (.bool b')).setCell ⟨Bq, 1, none⟩ (.int .i64 q)) (some Bq) := gb_trans (gb_set (g := Bq) rfl) (gb_set (g := Bq) rfl) (fun j hj => .inr hj)
  have h1 := set3 h.box (.bool b')
  exact ⟨⟨by simp [World.setCell, Array.getElem?_modify, h.box], h.rd.grown hg (fun x hx e => hoff x hx (Option.some.inj e)), h.len, h.cap, h.small⟩, hg⟩
theorem UAt.drewN {w : World} {Bq : Nat} {a : Option Addr} {L c : Nat} {zs : List Int} {p : Int} {b : Bool} (h : UAt w Bq a L c zs p b) (k : Nat) : UAt (w.drewN k) Bq a L c zs p b := ⟨h.box, h.rd, h.len, h.cap, h.small⟩
set_option maxHeartbeats 8000000 in
theorem rd_uint (w : World) (Bq : Nat) (a : Option Addr) (L c : Nat) (zs : List Int) (p : Int) (bad : Bool) (h : UAt w Bq a L c zs p bad) (hoff : ∀ x, a = some x → x.block ≠ Bq) :
    Calls Tryz.prog 58 #[.pointer (some ⟨Bq, 0, none⟩)] w fun e w' => e = .returned (.int .u64 (nxtU zs (p, bad)).1) ∧ UAt w' Bq a L c zs (nxtU zs (p, bad)).2.1 (nxtU zs (p, bad)).2.2 ∧ w.grownBy w' (some Bq) := by
  have HU : Hid (UAt w Bq a L c zs p bad) := h
  obtain ⟨x0, x1, x2⟩ := cell3 h.box
  cases bad with
  | true =>
    have HN : Hid (nxtU zs (p, true) = (0, p, true)) := rfl
    rw [HN.out]
    clear h hoff
    go_enter Tryz.func58, Tryz.ntmps58
    go_wp2
    go_ret
    exact ⟨rfl, HU.out, gb_weak (World.grownBy.refl _ _)⟩
  | false =>
    obtain ⟨r1, r2, r3, hR⟩ : ∃ r1 r2 r3, uintR zs p = (r1, r2, r3) := ⟨_, _, _, rfl⟩
    have HN : Hid (nxtU zs (p, false) = (r1, r2, decide (r3 ≠ 0))) := by show _ = _; unfold nxtU; simp [hR]
    rw [HN.out]
    have HOF : Hid (∀ x, a = some x → x.block ≠ Bq) := hoff
    have f1 := free_row3 h.box 1
    have f2 := free_row3 h.box 2
    have hdb : (r3 != 0) = decide (r3 ≠ 0) := by by_cases e : r3 = 0 <;> simp [e]
    have HDR : Hid (∃ k, w.drew = w.drewN k) := ⟨1, rfl⟩
    have H82 : Hid (∀ u, Hid (∃ k, u = w.drewN k) → Calls Tryz.prog 82 #[.slice a L c, .int .i64 p] u fun e w' => e = .returned (.tuple #[.int .u64 r1, .int .i64 r2, .int .i64 r3]) ∧ Hid (∃ k, w' = w.drewN k) ∧ w'.cell? ⟨Bq, 0, none⟩ = some (.slice a L c) ∧ w'.cell? ⟨Bq, 1, none⟩ = some (.int .i64 p) ∧ w'.cell? ⟨Bq, 2, none⟩ = some (.bool false)) := fun u hu => by
      obtain ⟨k, rfl⟩ := hu.out
      refine (ruint a zs L c p r1 r2 r3 _ (h.rd.drewN k) h.len h.small hR).mono ?_
      rintro e w' ⟨rfl, rfl⟩
      exact ⟨rfl, ⟨k, rfl⟩, x0, x1, x2⟩
    clear h hoff hR
    go_enter Tryz.func58, Tryz.ntmps58
    go_upto_region 3 with fail
    go_region_held3 (fun u => Hid (∃ k, u = w.drewN k) ∧ u.cell? ⟨Bq, 0, none⟩ = some (.slice a L c) ∧ u.cell? ⟨Bq, 1, none⟩ = some (.int .i64 p) ∧ u.cell? ⟨Bq, 2, none⟩ = some (.bool false)) (first | exact ⟨HDR, x0, x1, x2⟩ | (refine ⟨?_, ?_, ?_, ?_⟩ <;> assumption)) (first | (go_at_call 82; refine (H82.out _ ?h1).mono ?_; (case h1 => first | exact HDR | assumption); rintro e z ⟨rfl, s1, i1, j1, k1⟩))
    obtain ⟨k, rfl⟩ := s1.out
    have HZ : Hid (UAt (w.drewN k) Bq a L c zs p false) := HU.out.drewN k
    go_wp2
    go_ret
    have hdb2 : (!decide (r3 = 0)) = decide (r3 ≠ 0) := by by_cases e : r3 = 0 <;> simp [e]
    have h9 := HZ.out.set (q := r2) (b' := !decide (r3 = 0)) HOF.out
    rw [← hdb2]
    exact ⟨rfl, h9.1, gb_trans (gb_weak (gb_drewN w k)) h9.2 (fun j hj => .inr hj)⟩
end Go.Proofs.YtboamjhlaehoaaaGreat

