/- The document's own Encode, walked. -/
import Derived.Test.YteahhkpbjkcmhaaDoorRenc
namespace Go.Proofs.YteahhkpbjkcmhaaDoor
open Go.RowKit
set_option linter.unusedVariables false

theorem times_at {ps : List Pt} (h : okTimes ps = true) : ∀ (k : Nat) (t v : Int), ps[k]? = some (t, v) → -1099511627776 ≤ t ∧ t ≤ 1099511627776 := by
  have hs : ∀ (ps : List Pt) (t0 : Int), okTs t0 ps = true → ∀ (k : Nat) (t v : Int), ps[k]? = some (t, v) → -1099511627776 ≤ t ∧ t ≤ 1099511627776 := by
    intro ps
    induction ps with
    | nil => intro t0 _ k t v hq; simp at hq
    | cons q r ih =>
      intro t0 h k t v hq
      simp only [okTs, Bool.and_eq_true, decide_eq_true_eq] at h
      cases k with
      | zero => simp only [List.getElem?_cons_zero, Option.some.injEq] at hq; subst hq; exact h.1.2
      | succ k => exact ih q.1 h.2 k t v (by simpa using hq)
  cases ps with
  | nil => intro k t v hq; simp at hq
  | cons q r =>
    intro k t v hq
    simp only [okTimes, Bool.and_eq_true, decide_eq_true_eq] at h
    cases k with
    | zero => simp only [List.getElem?_cons_zero, Option.some.injEq] at hq; subst hq; exact h.1
    | succ k => exact hs r q.1 h.2 k t v (by simpa using hq)
set_option maxRecDepth 100000 in
set_option maxHeartbeats 8000000 in
theorem enc_loop (a : Option Addr) (ps : List Pnt) (L c : Nat) (w : World) (hx : SRd pntE w a ps) (hL : ps.length = L) (hz : L ≤ 8191) (hv : ∀ q ∈ ps, okV q.2) (ho : okTimes ps = true) :
    Calls Tryd.prog 9 #[.slice a L c] w fun e w' => ∃ vB, e = .returned (.tuple #[vB, .int .i64 0]) ∧ SOwn byteE 5 w' w.heap.size vB (((encP ps).length + 7) / 8) (pack (encP ps)) ∧ w.grownBy w' none := by
  have HX : Hid (SRd pntE w a ps) := hx
  have HL : Hid (ps.length = L) := hL
  have HV : Hid (∀ q ∈ ps, okV q.2) := hv
  have HO : Hid (∀ (k : Nat) (t v : Int), ps[k]? = some (t, v) → -1099511627776 ≤ t ∧ t ≤ 1099511627776) := times_at ho
  have HPo : Hid (Calls Tryd.prog 25 #[.slice a L c] w fun e w' => e = .returned (.bool true) ∧ ∃ n, w' = w.drewN n) := r_points a ps L c true w hx hL (by omega) ho
  have HP : Hid (∀ (base p : Nat) (l : List Bool) (v : Int) (k : Nat) (w : World), TapeIs w base p l → 0 ≤ v ∧ v ≤ 18446744073709551615 → k ≤ 64 → l.length ≤ 1099511627776 → base ≤ w.heap.size → Calls Tryd.prog 26 #[.pointer (some ⟨p, 0, none⟩), .int .u64 v, .int .i64 k] w fun e w' => e = .returned (.tuple #[]) ∧ TapeIs w' base p (l ++ bitsI k v) ∧ w.Since base w') := fun base p l v k w h hv hk hl hb => r_put base p l v k w h hv hk hl hb
  have HSt : Hid (∀ (p : Nat) (l : List Bool) (z : Int) (w : World), TapeIs w p p l → l.length ≤ 1099511627700 → p ≤ w.heap.size → Calls Tryd.prog 27 #[.pointer (some ⟨p, 0, none⟩), .int .i64 z] w fun e w' => e = .returned (.tuple #[]) ∧ TapeIs w' p p (l ++ encZ z) ∧ w.Since p w') := fun p l z w h hl hb => r_step p p l z w h hl hb
  have q0 : decide ((8191 : Int) < (L : Int)) = false := by simp; omega
  clear hx hL hv ho
  go_enter Tryd.func9, Tryd.ntmps9
  go_wp2_with fail
  refine HPo.out.mono ?_
  rintro e w1 ⟨rfl, nd, rfl⟩
  clear HPo
  have HG0 : Hid (w.grownBy ((w.drewN nd).alloc (.cells #[.slice none 0 0, .int .i64 0] 48)) none) := gb_drewR (w' := w.alloc (.cells #[.slice none 0 0, .int .i64 0] 48)) (World.grownBy_alloc w _ none) nd
  have HT0 : Hid (TapeIs ((w.drewN nd).alloc (.cells #[.slice none 0 0, .int .i64 0] 48)) w.heap.size w.heap.size []) := tape_new (w.drewN nd)
  go_wp2_with fail
  refine (HP.out w.heap.size w.heap.size [] L 13 _ HT0.out (by omega) (by omega) (by simp) HG0.out.size).mono ?_
  rintro e w2 ⟨rfl, ht, hs⟩
  have HS2 : Hid (w.Since w.heap.size w2) := (gb_since HG0.out).trans hs
  have HT2 : Hid (TapeIs w2 w.heap.size w.heap.size (bitsI 13 L)) := ht
  have HE0 : Hid (EncAt ps 0 (bitsI 13 L) 0 (-1) 0) := by have h := EncAt.start ps; rw [HL.out] at h; exact h
  clear ht hs HG0 HT0
  go_wp2
  generalize hp0 : w.heap.size = p0 at HS2 HT2 HP ⊢
  have HP0 : Hid (w.heap.size = p0) := hp0
  clear hp0
  go_loopw [5, 6, 7, 8] (fun t5 t6 t7 t8 wr => ∃ (k : Nat) (l : List Bool) (d a b : Int), k ≤ L ∧ t5 = .int .i64 d ∧ t6 = .int .i64 a ∧ t7 = .int .i64 b ∧ t8 = .int .i64 k ∧ EncAt ps k l d a b ∧ TapeIs wr p0 p0 l ∧ w.Since p0 wr) (fun _ _ _ t8 _ => L - (intOf t8).toNat)
  case atStart => exact ⟨0, _, _, _, _, Nat.zero_le _, rfl, rfl, rfl, rfl, HE0.out, HT2.out, HS2.out⟩
  case round =>
    obtain ⟨k, l, d, aw, bw, hk, rfl, rfl, rfl, rfl, hE, hT, hS⟩ := hrel
    have HE : Hid (EncAt ps k l d aw bw) := hE
    have HT : Hid (TapeIs wr p0 p0 l) := hT
    have HS : Hid (w.Since p0 wr) := hS
    have hll := hE.len
    have hsz : p0 ≤ wr.heap.size := by have := hS.size; have := HP0.out; omega
    have HG : Hid (w.grownBy wr none) := since_gb (by rw [HP0.out]; exact hS)
    clear hE hT hS HE0 HT2 HS2
    by_cases hlt : k < L
    · have hki : (k : Int) < (L : Int) := by omega
      have hl := HL.out
      obtain ⟨ba, off, rfl, hcc⟩ := (HX.out.grown HG.out (by simp)).at (by omega)
      obtain ⟨⟨t, v⟩, ex⟩ : ∃ x, ps[k]? = some x := ⟨_, List.getElem?_eq_getElem (by omega)⟩
      by_cases hk0 : k = 0
      · subst hk0
        have a0 : wr.cell? ⟨ba, off, none⟩ = some (.int .i64 t) := by have h := hcc 0 _ 0 _ ex rfl; simpa using h
        have hvv := HV.out _ (List.mem_of_getElem? ex)
        have HN : Hid (EncAt ps 1 (l ++ bitsI 64 t ++ bitsI 64 v) d aw bw) := HE.out.one ex
        have HA1 : Hid (∀ w', wr.Since p0 w' → SRd pntE w' (some ⟨ba, off, none⟩) ps) := fun w' hs => HX.out.grown (since_gb (by rw [HP0.out]; exact HS.out.trans hs)) (by simp)
        have EX : Hid (ps[0]? = some (t, v)) := ex
        have HW : Hid (0 ≤ IntKind.u64.wrap t ∧ IntKind.u64.wrap t ≤ 18446744073709551615) := by show _ ∧ _; rw [wrap_is]; omega
        have hv0 : 0 ≤ v ∧ v ≤ 18446744073709551615 := by unfold okV at hvv; simp only at hvv; omega
        clear hcc ex hvv hl
        go_wp2_with fail
        refine (HP.out p0 p0 l _ 64 wr HT.out HW.out (by omega) (by omega) hsz).mono ?_
        rintro e w3 ⟨rfl, ht, hs⟩
        rw [wrap_is, bits_whole] at ht
        have HT3 : Hid (TapeIs w3 p0 p0 (l ++ bitsI 64 t)) := ht
        have HS3 : Hid (wr.Since p0 w3) := hs
        have hrd := HA1.out w3 hs
        obtain ⟨ba', off', e', hcc'⟩ := hrd.at (by have := HL.out; omega)
        cases e'
        have a1 : w3.cell? ⟨ba, off + 1, none⟩ = some (.int .u64 v) := by have h := hcc' 0 _ 1 _ EX.out rfl; simpa using h
        clear ht hs hrd hcc'
        go_wp2_with fail
        refine (HP.out p0 p0 (l ++ bitsI 64 t) v 64 w3 HT3.out hv0 (by omega) (by simp [bitsI_len]; omega) (Nat.le_trans hsz HS3.out.size)).mono ?_
        rintro e w4 ⟨rfl, ht, hs⟩
        have HT4 : Hid (TapeIs w4 p0 p0 (l ++ bitsI 64 t ++ bitsI 64 v)) := ht
        have HS4 : Hid (w.Since p0 w4) := (HS.out.trans HS3.out).trans hs
        clear ht hs
        go_wp2
        go_roundw
        case rel => exact ⟨1, _, _, _, _, by omega, rfl, rfl, rfl, by go_num, HN.out, HT4.out, HS4.out⟩
        case measure => simp [intOf]; omega
      · obtain ⟨k', rfl⟩ : ∃ k', k = k' + 1 := ⟨k - 1, by omega⟩
        obtain ⟨⟨t0, v0⟩, ex0⟩ : ∃ x, ps[k']? = some x := ⟨_, List.getElem?_eq_getElem (by omega)⟩
        have a0 : wr.cell? ⟨ba, off + (k' + 1) * 2, none⟩ = some (.int .i64 t) := hcc (k' + 1) _ 0 _ ex rfl
        have a1 : wr.cell? ⟨ba, off + k' * 2, none⟩ = some (.int .i64 t0) := hcc k' _ 0 _ ex0 rfl
        obtain ⟨bt1, bt2⟩ := HO.out _ _ _ ex
        obtain ⟨bt3, bt4⟩ := HO.out _ _ _ ex0
        obtain ⟨bd1, bd2⟩ := HE.out.dist
        have hvv := HV.out _ (List.mem_of_getElem? ex)
        have hvv0 := HV.out _ (List.mem_of_getElem? ex0)
        have HVX : Hid (okV v ∧ okV v0) := ⟨hvv, hvv0⟩
        have EX : Hid (ps[k' + 1]? = some (t, v) ∧ ps[k']? = some (t0, v0)) := ⟨ex, ex0⟩
        have HA1 : Hid (∀ w', wr.Since p0 w' → SRd pntE w' (some ⟨ba, off, none⟩) ps) := fun w' hs => HX.out.grown (since_gb (by rw [HP0.out]; exact HS.out.trans hs)) (by simp)
        clear hcc ex ex0 hvv hvv0 hl hk0
        go_wp2_with fail
        go_quiet (fail)
        go_wp2_with fail
        refine (HSt.out p0 l (t - t0 - d) (wr.drewN nq) HT.out (by omega) hsz).mono ?_
        rintro e w3 ⟨rfl, ht, hs⟩
        have HS3 : Hid (wr.Since p0 w3) := ⟨hs.os, hs.tape, hs.output, hs.size, hs.block⟩
        have hz3 : p0 ≤ w3.heap.size := Nat.le_trans hsz HS3.out.size
        obtain ⟨l3, el3⟩ : ∃ l3, l3 = l ++ encZ (t - t0 - d) := ⟨_, rfl⟩
        rw [← el3] at ht
        have HT3 : Hid (TapeIs w3 p0 p0 l3) := ht
        have hl3 : l3.length ≤ 1099511627000 := by rw [el3, List.length_append]; have := encZ_len (t - t0 - d); omega
        have HEl : Hid (l3 = l ++ encZ (t - t0 - d)) := el3
        have hrd := HA1.out w3 HS3.out
        obtain ⟨ba', off', e', hcc'⟩ := hrd.at (by have := HL.out; omega)
        cases e'
        have c0 : w3.cell? ⟨ba, off + (k' + 1) * 2 + 1, none⟩ = some (.int .u64 v) := by rw [Nat.add_assoc]; exact hcc' (k' + 1) _ 1 _ EX.out.1 rfl
        have c1 : w3.cell? ⟨ba, off + k' * 2 + 1, none⟩ = some (.int .u64 v0) := by rw [Nat.add_assoc]; exact hcc' k' _ 1 _ EX.out.2 rfl
        have hx : bits .xor .u64 v v0 = xorI v v0 := by
          obtain ⟨⟨g1, g2⟩, g3, g4⟩ := HVX.out
          exact u64_xor v v0 g1 (by omega) g3 (by omega)
        have HXB : Hid (0 ≤ xorI v v0 ∧ xorI v v0 < 2 ^ 64) := xorI_bd HVX.out.1 HVX.out.2
        have HM : Hid (EncAt ps (k' + 1 + 1) (l3 ++ (encV aw bw (xorI v v0)).1) (t - t0) (encV aw bw (xorI v v0)).2.1 (encV aw bw (xorI v v0)).2.2) := by
          have h := HE.out.more EX.out.2 EX.out.1 (by omega) (encV_win HE.out.win HXB.out.1 HXB.out.2) (encV_len HE.out.win)
          rw [← el3] at h
          exact h
        have HWin := HE.out.win
        generalize xorI v v0 = X at hx HXB HM
        clear ht hs hrd hcc' el3 a0 a1 bt1 bt2 bt3 bt4 bd1 bd2
        by_cases hX0 : X = 0
        · subst hX0
          have HM0 : Hid (EncAt ps (k' + 1 + 1) (l3 ++ [false]) (t - t0) aw bw) := HM.out
          clear HM HXB
          go_wp2_with fail
          go_quiet (fail)
          go_wp2_with fail
          refine (HP.out p0 p0 l3 0 1 (w3.drewN nq) HT3.out (by omega) (by omega) (by omega) hz3).mono ?_
          rintro e w4 ⟨rfl, ht, hs⟩
          have HT4 : Hid (TapeIs w4 p0 p0 (l3 ++ [false])) := ht
          have HS4 : Hid (w.Since p0 w4) := (HS.out.trans HS3.out).trans ⟨hs.os, hs.tape, hs.output, hs.size, hs.block⟩
          clear ht hs
          go_wp2
          go_roundw
          case rel => exact ⟨k' + 1 + 1, _, _, _, _, by omega, rfl, rfl, rfl, by go_num, HM0.out, HT4.out, HS4.out⟩
          case measure => simp [intOf]; omega
        · have qX : (X == 0) = false := by simpa using hX0
          have HEd : Hid (∀ w, Calls Tryd.prog 28 #[.int .u64 X] w fun e w' => e = .returned (.tuple #[.int .i64 (min (leadN X : Int) 31), .int .i64 (trailN X)]) ∧ w = w') := fun w => r_edges X w (by have := HXB.out.1; omega) (by have := HXB.out.2; omega)
          have HEf := (edges_facts (x := X) (by have := HXB.out.1; omega) HXB.out.2).1
          unfold encV at HM
          rw [if_neg hX0] at HM
          obtain ⟨P, eP⟩ : ∃ P : Int, P = min (leadN X : Int) 31 := ⟨_, rfl⟩
          obtain ⟨T, eT⟩ : ∃ T : Nat, T = trailN X := ⟨_, rfl⟩
          have hPT : 0 ≤ P ∧ P ≤ 31 ∧ P + T ≤ 63 := by omega
          rw [← eP, ← eT] at HM HEd
          clear hX0 eP eT HEf
          go_wp2_with fail
          go_quiet (fail)
          go_wp2_with fail
          refine (HP.out p0 p0 l3 1 1 (w3.drewN nq) HT3.out (by omega) (by omega) (by omega) hz3).mono ?_
          rintro e w4 ⟨rfl, ht, hs⟩
          have HT4 : Hid (TapeIs w4 p0 p0 (l3 ++ [true])) := ht
          have HS4 : Hid (w.Since p0 w4) := (HS.out.trans HS3.out).trans ⟨hs.os, hs.tape, hs.output, hs.size, hs.block⟩
          have hz4 : p0 ≤ w4.heap.size := Nat.le_trans hz3 hs.size
          clear ht hs
          go_wp2_with fail
          refine (HEd.out _).mono ?_
          rintro e w' ⟨rfl, rfl⟩
          obtain ⟨pn, rfl⟩ : ∃ pn : Nat, P = pn := ⟨P.toNat, by omega⟩
          by_cases hcond : 0 ≤ aw ∧ aw ≤ pn ∧ bw ≤ T
          · rw [if_pos hcond] at HM
            obtain ⟨g1, g2, g3⟩ := hcond
            have hb0 : 0 ≤ bw ∧ aw + bw ≤ 63 := by omega
            obtain ⟨an, rfl⟩ : ∃ an : Nat, aw = an := ⟨aw.toNat, by omega⟩
            obtain ⟨bn, rfl⟩ : ∃ bn : Nat, bw = bn := ⟨bw.toNat, by omega⟩
            have r2 : decide (an ≤ pn) = true := by simp; omega
            have r3 : decide (bn ≤ T) = true := by simp; omega
            have r4 : an ≤ pn := by omega
            have r5 : bn ≤ T := by omega
            have hab : an + bn ≤ 63 := by omega
            have e6 : (64 : Int) - (an : Int) - (bn : Int) = ((64 - an - bn : Nat) : Int) := by omega
            have HM1 : Hid (EncAt ps (k' + 1 + 1) (l3 ++ [true] ++ [false] ++ bitsI (64 - an - bn) (X / 2 ^ bn)) (t - t0) an bn) := by
              have h := HM.out
              rw [e6, Int.toNat_natCast, Int.toNat_natCast] at h
              show EncAt _ _ _ _ _ _
              simpa [List.append_assoc] using h
            have hsh := shr_bd X bn (by have := HXB.out; omega)
            have HSH : Hid (0 ≤ X / 2 ^ bn ∧ X / 2 ^ bn ≤ 18446744073709551615) := hsh
            clear HM g1 g2 g3 hb0 hsh HWin
            go_wp2_with fail
            refine (HP.out p0 p0 (l3 ++ [true]) 0 1 w4 HT4.out (by omega) (by omega) (by simp; omega) hz4).mono ?_
            rintro e w5 ⟨rfl, ht, hs⟩
            have HT5 : Hid (TapeIs w5 p0 p0 (l3 ++ [true] ++ [false])) := ht
            have HS5 : Hid (w.Since p0 w5) := HS4.out.trans hs
            have hz5 : p0 ≤ w5.heap.size := Nat.le_trans hz4 hs.size
            clear ht hs
            go_wp2_with fail
            refine (HP.out p0 p0 (l3 ++ [true] ++ [false]) (X / 2 ^ bn) (64 - an - bn) w5 HT5.out HSH.out (by omega) (by simp; omega) hz5).mono ?_
            rintro e w6 ⟨rfl, ht, hs⟩
            have HT6 : Hid (TapeIs w6 p0 p0 (l3 ++ [true] ++ [false] ++ bitsI (64 - an - bn) (X / 2 ^ bn))) := ht
            have HS6 : Hid (w.Since p0 w6) := HS5.out.trans hs
            have hz6 : p0 ≤ w6.heap.size := Nat.le_trans hz5 hs.size
            clear ht hs
            go_wp2
            go_roundw
            case rel => exact ⟨k' + 1 + 1, _, _, _, _, by omega, rfl, rfl, rfl, by go_num, HM1.out, HT6.out, HS6.out⟩
            case measure => simp [intOf]; omega
          · rw [if_neg hcond] at HM
            have hab : pn + T ≤ 63 := by omega
            have hp31 : pn ≤ 31 := by omega
            have e5 : (64 : Int) - (pn : Int) - (T : Int) - 1 = ((63 - pn - T : Nat) : Int) := by omega
            have e6 : (64 : Int) - (pn : Int) - (T : Int) = ((64 - pn - T : Nat) : Int) := by omega
            have e7 : ((64 - pn - T : Nat) : Int) - 1 = ((63 - pn - T : Nat) : Int) := by omega
            have HM1 : Hid (EncAt ps (k' + 1 + 1) (l3 ++ [true] ++ [true] ++ bitsI 5 pn ++ bitsI 6 ((63 - pn - T : Nat) : Int) ++ bitsI (64 - pn - T) (X / 2 ^ T)) (t - t0) pn T) := by
              have h := HM.out
              rw [e5, e6, Int.toNat_natCast] at h
              show EncAt _ _ _ _ _ _
              simpa [List.append_assoc] using h
            have hsh := shr_bd X T (by have := HXB.out; omega)
            have HSH : Hid (0 ≤ X / 2 ^ T ∧ X / 2 ^ T ≤ 18446744073709551615) := hsh
            have u1 : IntKind.u64.wrap (pn : Int) = pn := by rw [wrap_is]; omega
            have u2 : IntKind.u64.wrap ((63 - pn - T : Nat) : Int) = ((63 - pn - T : Nat) : Int) := by rw [wrap_is]; omega
            have hc3 : (decide (0 ≤ aw) = false) ∨ (decide (0 ≤ aw) = true ∧ decide (aw ≤ (pn : Int)) = false) ∨ (decide (0 ≤ aw) = true ∧ decide (aw ≤ (pn : Int)) = true ∧ decide (bw ≤ (T : Int)) = false) := by
              by_cases g1 : 0 ≤ aw
              · by_cases g2 : aw ≤ pn
                · right; right; exact ⟨by simpa using g1, by simpa using g2, by simp; omega⟩
                · right; left; exact ⟨by simpa using g1, by simpa using g2⟩
              · left; simpa using g1
            clear HM hcond hsh HWin
            rcases hc3 with r1 | ⟨r1, r2⟩ | ⟨r1, r2, r3⟩
            all_goals (
              go_wp2_with fail
              refine (HP.out p0 p0 (l3 ++ [true]) 1 1 w4 HT4.out (by omega) (by omega) (by simp; omega) hz4).mono ?_
              rintro e w5 ⟨rfl, ht, hs⟩
              have HT5 : Hid (TapeIs w5 p0 p0 (l3 ++ [true] ++ [true])) := ht
              have HS5 : Hid (w.Since p0 w5) := HS4.out.trans hs
              have hz5 : p0 ≤ w5.heap.size := Nat.le_trans hz4 hs.size
              clear ht hs
              go_wp2_with fail
              refine (HP.out p0 p0 (l3 ++ [true] ++ [true]) (pn : Int) 5 w5 HT5.out (by omega) (by omega) (by simp; omega) hz5).mono ?_
              rintro e w6 ⟨rfl, ht, hs⟩
              have HT6 : Hid (TapeIs w6 p0 p0 (l3 ++ [true] ++ [true] ++ bitsI 5 pn)) := ht
              have HS6 : Hid (w.Since p0 w6) := HS5.out.trans hs
              have hz6 : p0 ≤ w6.heap.size := Nat.le_trans hz5 hs.size
              clear ht hs
              go_wp2_with fail
              refine (HP.out p0 p0 (l3 ++ [true] ++ [true] ++ bitsI 5 pn) ((63 - pn - T : Nat) : Int) 6 w6 HT6.out (by omega) (by omega) (by simp [bitsI_len]; omega) hz6).mono ?_
              rintro e w7 ⟨rfl, ht, hs⟩
              have HT7 : Hid (TapeIs w7 p0 p0 (l3 ++ [true] ++ [true] ++ bitsI 5 pn ++ bitsI 6 ((63 - pn - T : Nat) : Int))) := ht
              have HS7 : Hid (w.Since p0 w7) := HS6.out.trans hs
              have hz7 : p0 ≤ w7.heap.size := Nat.le_trans hz6 hs.size
              clear ht hs
              go_wp2_with fail
              refine (HP.out p0 p0 (l3 ++ [true] ++ [true] ++ bitsI 5 pn ++ bitsI 6 ((63 - pn - T : Nat) : Int)) (X / 2 ^ T) (64 - pn - T) w7 HT7.out HSH.out (by omega) (by simp [bitsI_len]; omega) hz7).mono ?_
              rintro e w8 ⟨rfl, ht, hs⟩
              have HT8 : Hid (TapeIs w8 p0 p0 (l3 ++ [true] ++ [true] ++ bitsI 5 pn ++ bitsI 6 ((63 - pn - T : Nat) : Int) ++ bitsI (64 - pn - T) (X / 2 ^ T))) := ht
              have HS8 : Hid (w.Since p0 w8) := HS7.out.trans hs
              have hz8 : p0 ≤ w8.heap.size := Nat.le_trans hz7 hs.size
              clear ht hs
              go_wp2
              go_roundw
              case rel => exact ⟨k' + 1 + 1, _, _, _, _, by omega, rfl, rfl, rfl, by go_num, HM1.out, HT8.out, HS8.out⟩
              case measure => simp [intOf]; omega)
    · obtain rfl : k = L := by omega
      have HEN : Hid (encP ps = l) := by
        show _ = _
        by_cases hk0 : k = 0
        · have e0 : ps = [] := List.length_eq_zero_iff.1 (by have := HL.out; omega)
          obtain ⟨e1, _⟩ := HE.out.zero hk0
          rw [e1, e0]
          rfl
        · obtain ⟨⟨t, v⟩, ex⟩ : ∃ x, ps[k - 1]? = some x := ⟨_, List.getElem?_eq_getElem (by have := HL.out; omega)⟩
          have h := HE.out.next t v (by omega) ex
          rw [List.drop_eq_nil_of_le (by have := HL.out; omega), encL, List.append_nil] at h
          exact h
      obtain ⟨vB, hrow, hp, hown, hne⟩ := HT.out
      have c0 : wr.cell? ⟨p0, 0, none⟩ = some vB := hrow.cell (i := 0) (by omega)
      have HOW : Hid (SOwn byteE 5 wr w.heap.size vB (((encP ps).length + 7) / 8) (pack (encP ps))) := by show SOwn _ _ _ _ _ _ _; rw [HEN.out, HP0.out]; exact hown
      obtain ⟨a0, n0, cc0, rfl⟩ : ∃ a n c, vB = .slice a n c := by
        obtain ⟨_, h2⟩ := hown
        rcases h2 with ⟨e, _⟩ | ⟨g, cap, cur, e, _⟩
        · exact ⟨_, _, _, e⟩
        · exact ⟨_, _, _, e⟩
      clear hrow hown hne hp
      have hki : ¬ (k : Int) < (k : Int) := by omega
      go_wp2
      go_ret2
      exact ⟨_, rfl, HOW.out, HG.out⟩
end Go.Proofs.YteahhkpbjkcmhaaDoor
