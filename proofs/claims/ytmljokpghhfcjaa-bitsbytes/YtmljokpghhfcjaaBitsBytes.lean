/- A string of whole bytes is those bytes, and a bit that is turned in it is read as turned, and no other: for every slice of bytes and every place, with no condition but the form's own. -/
import Derived.Test.YtmljokpghhfcjaaBack
namespace Go.Proofs.Ytmljokpghhfcjaa
open Go.ChangeShapes Go.WideShapes Go.ChangeAt Go.RowKit
set_option linter.unusedVariables false

theorem flip_byte (z : Int) (s : Nat) (h0 : 0 ≤ z) (h1 : z ≤ 255) (hs : s < 8) :
    0 ≤ bits .xor .u8 z (128 / 2 ^ s) ∧ bits .xor .u8 z (128 / 2 ^ s) ≤ 255 ∧ ∀ t, t < 8 → bits .xor .u8 z (128 / 2 ^ s) / 2 ^ (7 - t) % 2 = if t = s then 1 - z / 2 ^ (7 - t) % 2 else z / 2 ^ (7 - t) % 2 := by
  have key : ∀ (Z : Fin 256) (S : Fin 8), (Z.val ^^^ 128 / 2 ^ S.val) < 256 ∧ ∀ T : Fin 8, (Z.val ^^^ 128 / 2 ^ S.val) / 2 ^ (7 - T.val) % 2 = if T = S then 1 - Z.val / 2 ^ (7 - T.val) % 2 else Z.val / 2 ^ (7 - T.val) % 2 := by decide +kernel
  obtain ⟨Z, rfl⟩ := Int.eq_ofNat_of_zero_le h0
  have hZ : Z < 256 := by omega
  have e : (128 : Int) / 2 ^ s = ((128 / 2 ^ s : Nat) : Int) := by
    rw [Int.natCast_ediv, Int.natCast_pow]; rfl
  have hp : 128 / 2 ^ s < 256 := Nat.lt_of_le_of_lt (Nat.div_le_self _ _) (by omega)
  rw [e, u8_xor_nat Z _ hZ hp]
  obtain ⟨k1, k2⟩ := key ⟨Z, hZ⟩ ⟨s, hs⟩
  refine ⟨by omega, by simp only at k1; omega, fun t ht => ?_⟩
  have k3 := k2 ⟨t, ht⟩
  simp only [Fin.mk.injEq] at k3
  have e3 : (((Z ^^^ 128 / 2 ^ s : Nat) : Int) / 2 ^ (7 - t) % 2) = (((Z ^^^ 128 / 2 ^ s) / 2 ^ (7 - t) % 2 : Nat) : Int) := by push_cast; rfl
  have e4 : ((Z : Int) / 2 ^ (7 - t) % 2) = ((Z / 2 ^ (7 - t) % 2 : Nat) : Int) := by push_cast; rfl
  rw [e3, e4, k3]
  have hlt : Z / 2 ^ (7 - t) % 2 < 2 := Nat.mod_lt _ (by omega)
  generalize Z / 2 ^ (7 - t) % 2 = r at *
  split <;> omega
/-- A bit is turned: no other is. -/
theorem flip_bit (zs : List Int) (q : Nat) (hz : ∀ z ∈ zs, 0 ≤ z ∧ z ≤ 255) (hq : q / 8 < zs.length) :
    (0 ≤ bits .xor .u8 (zs.getD (q / 8) 0) (128 / 2 ^ (q % 8)) ∧ bits .xor .u8 (zs.getD (q / 8) 0) (128 / 2 ^ (q % 8)) ≤ 255) ∧
    ∀ i, bitOf (zs.set (q / 8) (bits .xor .u8 (zs.getD (q / 8) 0) (128 / 2 ^ (q % 8)))) i = if i = q then 1 - bitOf zs i else bitOf zs i := by
  have hbd := getD_bd hz (q / 8)
  obtain ⟨k1, k2, k3⟩ := flip_byte (zs.getD (q / 8) 0) (q % 8) hbd.1 hbd.2 (by omega)
  refine ⟨⟨k1, k2⟩, fun i => ?_⟩
  rw [bitOf_set _ _ _ hq]
  split
  · rename_i h
    rw [k3 (i % 8) (by omega)]
    by_cases hi : i = q
    · subst hi; simp [bitOf]
    · rw [if_neg (by omega), if_neg hi, ← h]; rfl
  · rename_i h
    rw [if_neg (fun e => h (by rw [e]))]

/-- A byte appended to whole bytes is one byte more. -/
theorem app_byte8 (zs : List Int) (j : Nat) (hz : ∀ z ∈ zs, 0 ≤ z ∧ z ≤ 255) (hj : j < zs.length) (n : Nat) (hn : n = 8 * j) : app (zs.take j) n (zs.getD j 0) 8 = zs.take (j + 1) := by
  symm
  have ht : ∀ m i, bitOf (zs.take m) i = if i < 8 * m then bitOf zs i else 0 := by
    intro m i
    unfold bitOf
    simp only [List.getD_eq_getElem?_getD, List.getElem?_take]
    by_cases h : i / 8 < m
    · rw [if_pos h, if_pos (by omega)]
    · rw [if_neg h, if_neg (by omega)]; simp
  refine app_eq (fun z h => hz z (List.mem_of_mem_take h)) (by simp; omega) fun i => ?_
  rw [ht, appBit, ht]
  subst hn
  by_cases h1 : i < 8 * j
  · rw [if_pos (by omega), if_pos h1, if_pos h1]
  · rw [if_neg h1]
    by_cases h2 : i < 8 * j + 8
    · rw [if_pos (by omega), if_pos h2, bitOf]
      have e1 : i / 8 = j := by omega
      have e2 : 8 - 1 - (i - 8 * j) = 7 - i % 8 := by omega
      rw [e1, e2]
    · rw [if_neg (by omega), if_neg h2]
theorem whole8 (zs : List Int) (n : Nat) (h : n = 8 * zs.length) : wholeB zs (n : Int) = true := by
  simp [wholeB]; omega
theorem rdv_one (zs : List Int) (i : Nat) : rdv zs i 1 = bitOf zs i := by simp [rdv]

set_option maxHeartbeats 2000000 in
theorem bitsBytes_walk (a0 : Option Addr) (z0 : List Int) (cap0 : Nat) (y : Int) (W : World) (r0 : Rd W a0 z0) (n0 : a0 = none → cap0 = 0) (l0 : z0.length ≤ 140737488351232) (w1 : (Lit.int .i64 y).wf = true) :
    Calls Try.prog 7 #[.slice a0 z0.length cap0, .int .i64 y] W fun e w' => e = .returned (.bool true) ∧ Below W.heap.size W w' := by
  have HR : Hid (Rd W a0 z0) := r0
  have HNil : Hid (a0 = none → cap0 = 0) := n0
  have HC : Hid (∀ w, Rd w a0 z0 → Calls Try.prog 13 #[.slice a0 z0.length cap0] w fun e w' => ∃ g c, e = .returned (.slice (some ⟨g, 0, none⟩) z0.length c) ∧ Own w' w.heap.size g z0.length c z0 ∧ w.grownBy w' none) := fun w h => copy_any a0 z0 cap0 w h n0 l0
  obtain ⟨L, hL⟩ : ∃ L, L = z0.length := ⟨_, rfl⟩
  have HL : Hid (L = z0.length) := hL
  rw [← hL] at l0 HC ⊢
  clear w1 n0 r0 hL
  go_enter Try.func7, Try.ntmps7
  go_wp2
  go_loopw [5, 6, 7] (fun tb tn ti wr => ∃ (j n Lb cb : Nat) (ab : Option Addr), j ≤ L ∧ n = 8 * j ∧ ti = .int .i64 j ∧ tn = .int .i64 n ∧ tb = .slice ab Lb cb ∧ Lb = j ∧ Rd wr ab (z0.take j) ∧ W.grownBy wr none) (fun _ _ ti _ => L - (intOf ti).toNat)
  case atStart => exact ⟨0, 0, 0, 0, none, Nat.zero_le _, rfl, rfl, rfl, rfl, rfl, ⟨.inl rfl, by simp⟩, World.grownBy.refl _ _⟩
  case round =>
    obtain ⟨j, n, Lb, cb, ab, hj, hn, rfl, rfl, rfl, hLb, hrb, hgr⟩ := hrel
    have HN : Hid (n = 8 * j) := hn
    have HLb : Hid ((z0.take j).length = Lb) := by show _ = _; have := HL.out; simp; omega
    have HLj : Hid (Lb = j) := hLb
    have HRb : Hid (Rd wr ab (z0.take j)) := hrb
    have HG : Hid (W.grownBy wr none) := hgr
    have hLbb : Lb ≤ 140737488351233 := by omega
    have hnb : n ≤ 1125899906809856 := by omega
    clear hn hLb hrb hgr
    by_cases hlt : j < L
    · have hl := HL.out
      obtain ⟨b, off, rfl, hc⟩ := (HR.out.grown HG.out (by simp)).at (by omega)
      have hcell := hc j (by omega)
      have hby := HR.out.byte j
      have HA8 : Hid (app (z0.take j) n (z0.getD j 0) 8 = z0.take (j + 1)) := app_byte8 z0 j HR.out.2 (by omega) n HN.out
      have HWb : Hid (wholeB (z0.take j) n = true) := whole8 _ _ (by have := HN.out; have := HLb.out; have := HLj.out; omega)
      obtain ⟨z, ez⟩ : ∃ z, z = z0.getD j 0 := ⟨_, rfl⟩
      rw [← ez] at hcell hby HA8
      clear hc ez hl
      go_wp2_with (go_at_call 10; refine (append_go ab (z0.take j) Lb cb n 8 n 8 (n + 8) z wr HRb.out HLb.out (by omega) rfl rfl rfl (by omega) HWb.out (by omega)).mono ?_; rintro e w1 ⟨g1, c1, N1, rfl, ho1, hg1⟩)
      have ho1' : Own w1 wr.heap.size g1 N1 c1 (z0.take (j + 1)) := by rw [← HA8.out]; exact ho1
      have hN1 : N1 = j + 1 := by have hlen := ho1'.len; have := HL.out; simp at hlen; omega
      go_roundw
      case rel => exact ⟨j + 1, n + 8, N1, c1, some ⟨g1, 0, none⟩, by omega, by have := HN.out; omega, by go_num, by go_num, rfl, hN1, ho1'.rd, gb_trans HG.out hg1 (by simp)⟩
      case measure => simp [intOf]; omega
    · have hjL : j = L := by omega
      subst hjL
      have HRx : Hid (Rd wr ab z0) := by
        have h := HRb.out
        rwa [List.take_of_length_le (by have := HL.out; omega)] at h
      have hLj := HLj.out
      subst hLj
      have hm : ((n : Int) != 8 * (Lb : Int)) = false := by simp; have := HN.out; omega
      clear hlt hj HRb HLb HLj
      go_wp2_with fail
      refine (same_any ab a0 z0 z0 Lb Lb cb cap0 wr HRx.out (HR.out.grown HG.out (by simp)) HL.out.symm HL.out.symm (by omega)).mono ?_
      rintro e w1 ⟨rfl, hg1⟩
      have htt : decide (z0 = z0) = true := by simp
      rw [htt]
      clear htt
      have HG1 : Hid (W.grownBy w1 none) := gb_trans HG.out hg1 (by simp)
      have HRx1 : Hid (Rd w1 ab z0) := HRx.out.grown hg1 (by simp)
      clear hg1 HG HRx
      go_wp2_with fail
      refine (HC.out w1 (HR.out.grown HG1.out (by simp))).mono ?_
      rintro e w2 ⟨g2, c2, rfl, ho2, hg2⟩
      have HG2 : Hid (W.grownBy w2 none) := gb_trans HG1.out hg2 (by simp)
      have HRx2 : Hid (Rd w2 ab z0) := HRx1.out.grown hg2 (by simp)
      have HW : Hid (wholeB z0 n = true) := whole8 z0 n (by have := HN.out; have := HL.out; omega)
      go_wp2_with fail
      have hwh := whole_any (some ⟨g2, 0, none⟩) z0 c2 n w2 ho2.rd (by omega)
      rw [← HL.out, HW.out] at hwh
      refine hwh.mono ?_
      rintro e w' ⟨rfl, rfl⟩
      clear hwh ho2 hg2 HG1 HRx1
      by_cases h0 : Lb = 0
      · subst h0
        have hn0 : n = 0 := by have := HN.out; omega
        subst hn0
        go_wp2_with fail
        refine (awake_any _).mono ?_
        rintro e w3 ⟨rfl, hg3⟩
        go_wp2
        go_ret
        exact ⟨rfl, gb_below (gb_trans HG2.out hg3 (by simp))⟩
      · have hd0 : ((Lb : Int) == 0) = false := by simp; omega
        have hnp : 0 < n := by have := HN.out; omega
        clear h0
        go_wp2_with fail
        refine (Low_any _ _).mono ?_
        rintro e w' ⟨r, rfl, hr0, hr1, rfl⟩
        go_wp2_with fail
        obtain ⟨K, hK, hKn⟩ : ∃ K : Nat, r % (n : Int) = K ∧ K < n := by
          have h1 := Int.emod_nonneg r (show (n : Int) ≠ 0 by omega)
          have h2 := Int.emod_lt_of_pos r (show (0 : Int) < (n : Int) by omega)
          exact ⟨(r % (n : Int)).toNat, by omega, by omega⟩
        rw [hK]
        clear hK hr0 hr1 hd0 hm
        refine (HC.out w2 (HR.out.grown HG2.out (by simp))).mono ?_
        rintro e w3 ⟨g3, c3, rfl, ho3, hg3⟩
        have HO3 : Hid (Own w3 w2.heap.size g3 Lb c3 z0) := ho3
        have HG23 : Hid (w2.grownBy w3 none) := hg3
        have hnn := HN.out
        have hcell := ho3.cell (K / 8) (by omega)
        have hfr := ho3.1.frozenAt (K / 8)
        have hby := ho3.rd.byte (K / 8)
        have hfl := flip_bit z0 K ho3.2 (by have := HL.out; omega)
        obtain ⟨z, ez⟩ : ∃ z, z = z0.getD (K / 8) 0 := ⟨_, rfl⟩
        rw [← ez] at hcell hby hfl
        have HFL : Hid (_ ∧ _) := hfl
        have hKL : K / 8 < Lb := by omega
        have hKLi : (K : Int) / 8 < (Lb : Int) := by omega
        clear ho3 hg3 hnn hfl ez HC
        go_wp2
        go_region
        go_wp2
        obtain ⟨u, hu⟩ : ∃ u, u = bits .xor .u8 z (128 / 2 ^ (K % 8)) := ⟨_, rfl⟩
        have hfl := HFL.out
        rw [← hu] at hfl ⊢
        have HO4 : Hid (Own (w3.setCell ⟨g3, K / 8, none⟩ (.int .u8 u)).drew w2.heap.size g3 Lb c3 (z0.set (K / 8) u)) := (HO3.out.set (K / 8) u hfl.1).drew
        have hg24 : w2.grownBy (w3.setCell ⟨g3, K / 8, none⟩ (.int .u8 u)).drew none := gb_drew (gb_trans HG23.out (gb_set rfl) (fun i hi => .inl (by simp at hi; have := HO3.out.ge; omega)))
        have HX4 : Hid (Rd (w3.setCell ⟨g3, K / 8, none⟩ (.int .u8 u)).drew ab z0) := HRx2.out.grown hg24 (by simp)
        have HG4 : Hid (W.grownBy (w3.setCell ⟨g3, K / 8, none⟩ (.int .u8 u)).drew none) := gb_trans HG2.out hg24 (by simp)
        have HW4 : Hid (wholeB (z0.set (K / 8) u) n = true) := whole8 _ n (by have := HN.out; have := HL.out; simp; omega)
        have HBit : Hid (∀ i, bitOf (z0.set (K / 8) u) i = if i = K then 1 - bitOf z0 i else bitOf z0 i) := hfl.2
        clear hu hfl hg24 HFL hcell hfr hby HO3 HRx2 HG2
        go_loop [10] (fun i => ∃ q : Nat, q ≤ n ∧ i = .int .i64 q) (fun i => n - (intOf i).toNat)
        case atStart => exact ⟨0, Nat.zero_le _, rfl⟩
        case round =>
          obtain ⟨q, hq, rfl⟩ := hrel
          by_cases hlt : q < n
          · obtain ⟨P, hP⟩ : ∃ P, rdv z0 q 1 = P := ⟨_, rfl⟩
            obtain ⟨Q, hQ⟩ : ∃ Q, rdv (z0.set (K / 8) u) q 1 = Q := ⟨_, rfl⟩
            have HP : Hid (rdv z0 q 1 = P) := hP
            have HQ : Hid (rdv (z0.set (K / 8) u) q 1 = Q) := hQ
            have hl4 : (z0.set (K / 8) u).length = Lb := HO4.out.len
            have HL4 : Hid ((z0.set (K / 8) u).length = Lb) := hl4
            rw [rdv_one] at hP
            rw [rdv_one, HBit.out q] at hQ
            have h01 := bitOf_01 z0 q
            by_cases hqK : q = K
            · have e1 : (P == Q) = false := by rw [if_pos hqK] at hQ; simp; omega
              have e2 : ((q : Int) == (K : Int)) = true := by simp; omega
              clear hP hQ hl4 h01 hqK
              go_wp2_with fail
              refine (read_go ab z0 Lb cb n q 1 n q 1 P _ HX4.out HL.out.symm (by omega) rfl rfl rfl HW.out (by omega) (by omega) HP.out).mono ?_
              rintro e w' ⟨rfl, rfl⟩
              go_wp2_with fail
              refine (read_go (some ⟨g3, 0, none⟩) (z0.set (K / 8) u) Lb c3 n q 1 n q 1 Q _ HO4.out.rd HL4.out (by omega) rfl rfl rfl HW4.out (by omega) (by omega) HQ.out).mono ?_
              rintro e w' ⟨rfl, rfl⟩
              go_wp2
              go_round
              case rel => exact ⟨q + 1, by omega, by go_num⟩
              case measure => simp [intOf]; omega
            · have e1 : (P == Q) = true := by rw [if_neg hqK] at hQ; simp; omega
              have e2 : ((q : Int) == (K : Int)) = false := by simp; omega
              clear hP hQ hl4 h01 hqK
              go_wp2_with fail
              refine (read_go ab z0 Lb cb n q 1 n q 1 P _ HX4.out HL.out.symm (by omega) rfl rfl rfl HW.out (by omega) (by omega) HP.out).mono ?_
              rintro e w' ⟨rfl, rfl⟩
              go_wp2_with fail
              refine (read_go (some ⟨g3, 0, none⟩) (z0.set (K / 8) u) Lb c3 n q 1 n q 1 Q _ HO4.out.rd HL4.out (by omega) rfl rfl rfl HW4.out (by omega) (by omega) HQ.out).mono ?_
              rintro e w' ⟨rfl, rfl⟩
              go_wp2
              go_round
              case rel => exact ⟨q + 1, by omega, by go_num⟩
              case measure => simp [intOf]; omega
          · go_wp2_with fail
            refine (awake_any _).mono ?_
            rintro e w5 ⟨rfl, hg5⟩
            go_wp2
            go_ret
            exact ⟨rfl, gb_below (gb_trans HG4.out hg5 (by simp))⟩


set_option maxRecDepth 100000 in
theorem bitsBytes_lifted (os : Os) (started : os.Started) (H : Type) (enc : TypeId × Value → H) :
    ReturnsInHanded {} Try.checked os 7 .any (Rows.bitsBytesSpec.pre6 enc Try.prog Try.f7 Rows.bitsBytesRow.domain false) (Rows.bitsBytesSpec.post enc Try.prog Try.f7 false true false false) := by
  refine returnsInHanded_of_change_sized (C := Try.checked) own started (by kernel_rfl) Try.func7
    (ChangeSpec.witness6 (enc := enc) (C := Try.checked) false ⟨#[], #[.slice none 0 0, .int .i64 0], []⟩ 8 (by kernel_rfl) (by kernel_rfl) (by kernel_rfl) (by kernel_rfl)) ?_
  intro W base args ds gs before hval0 hW hcnd hsz0 _
  have hsz : (DataW.weightsEach Try.prog (Try.f7.params.toList ++ Rows.bitsBytesSpec.plain.varTypes Try.prog) (ds ++ gs)).all (· ≤ reachBytes) = true := hsz0
  clear hsz0
  have hval : ∀ (j : Nat) t v, Try.f7.params[j]? = some t → args[j]? = some v → Value.okWide Try.prog W .any base t v := hval0
  have hW' := hW
  obtain ⟨p, q, hA0, hV, rfl, hfz, hnd⟩ := hW
  have hA : DataW.TrodAll enc Try.prog W 0 (fun _ => true) true Try.f7.params.toList args.toList ds p := hA0
  rw [Try.params7] at hA hval hsz
  obtain ⟨v0, vs0, d0, ds0, p0, q0, hargs, rfl, rfl, h0, r0⟩ := trodAll_cons hA
  obtain ⟨v1, vs1, d1, ds1, p1, q1, rfl, rfl, rfl, h1, r1⟩ := trodAll_cons r0
  obtain ⟨rfl, rfl, rfl⟩ := trodAll_nil r1
  obtain rfl : args = #[v0, v1] := by cases args; simp_all
  obtain ⟨rfl, rfl⟩ := trodVars_none hV
  obtain ⟨a0, len0, cap0, rfl⟩ := okWide_slice Try.underlying22 (hval 0 22 v0 rfl rfl)
  have k0 := h0
  have lt0 : ∀ x ∈ p0, x.block < W.heap.size := by obtain ⟨m, hm⟩ := k0; exact DataW.trod_lt m _ _ _ hm
  obtain ⟨z0, e0, rd0, nl0, le0⟩ := open_bytes k0 hsz (j := 0) rfl rfl
  subst e0
  obtain ⟨a1, rfl, rfl, rfl, w1⟩ := open_int Try.underlying3 (hval 1 3 v1 rfl rfl) h1
  clear hA0 hval0
  refine (bitsBytes_walk a0 z0 cap0 a1 W rd0 nl0 le0 w1).mono fun e W' ⟨he, bel⟩ => ?_
  subst he
  exact ⟨_, rfl, _, _, _, [], _, [], hW', trodAll_mk1 (shut_bool Try.underlying4 _), (trodAll_cons_mk (Below.trod laidOut (by kernel_rfl) (of_decide_eq_true (by kernel_rfl)) k0 bel lt0) (trodAll_cons_mk (shut_int Try.underlying3 w1) trodAll_mk0)), rfl, bel.frame _, fun h => by cases h⟩

theorem bitsBytes_over : Rows.bitsBytesRow.holds Try.pinned (OpenSpec.ofChange Rows.bitsBytesSpec) :=
  OpenClaim.holds_of_wide 7 Try.f7 rfl rfl rfl rfl rfl rfl rfl ⟨rfl, rfl, rfl, rfl, rfl⟩ rfl rfl rfl rfl rfl (by kernel_rfl) Try.func7 (by kernel_rfl)
    (of_decide_eq_true (by kernel_rfl)) (by unfold Func.isWrapper; first | (rw [if_pos (by decide +kernel)]; kernel_rfl) | (rw [if_neg (by decide +kernel)]; exact ⟨rfl, rfl⟩))
    (fun os started H enc _ => bitsBytes_lifted os started H enc)

theorem bitsBytes_holds : Rows.BitsBytesSaid := bitsBytes_over
#print axioms bitsBytes_holds
end Go.Proofs.Ytmljokpghhfcjaa
