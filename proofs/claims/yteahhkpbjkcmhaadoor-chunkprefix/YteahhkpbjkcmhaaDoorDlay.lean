/- Package chunk: lay. -/
import Derived.Test.YteahhkpbjkcmhaaDoorLayJ
import Derived.Test.YteahhkpbjkcmhaaDoorRenc2
import Derived.Deep.CutRange
import Derived.Deep.RegionWith
namespace Go.Proofs.YteahhkpbjkcmhaaDoor
open Go.RowKit
set_option linter.unusedVariables false

set_option maxRecDepth 100000 in
set_option maxHeartbeats 8000000 in
theorem d_lay (a : Option Addr) (ps : List Pnt) (L c : Nat) (w : World) (hx : SRd pntE w a ps) (hL : ps.length = L) (hz : L ≤ 8191) (hv : ∀ q ∈ ps, okV q.2) (ho : okTimes ps = true) (hB : Bf w) :
    Calls Tryd.prog 30 #[.slice a L c] w fun e w' => ∃ vB, e = .returned vB ∧ SOwn byteE 5 w' w.heap.size vB (((encP ps).length + 7) / 8) (pack (encP ps)) ∧ w.grownBy w' none := by
  have HX : Hid (SRd pntE w a ps) := hx
  have HL : Hid (ps.length = L) := hL
  have HV : Hid (∀ q ∈ ps, okV q.2) := hv
  have HO : Hid (∀ (k : Nat) (t v : Int), ps[k]? = some (t, v) → -1099511627776 ≤ t ∧ t ≤ 1099511627776) := times_at ho
  have HB : Hid (Bf w) := hB
  obtain ⟨p, ep⟩ : ∃ p, p = w.heap.size := ⟨_, rfl⟩
  have EP : Hid (p = w.heap.size) := ep
  have hp0 : 0 < p := by rw [ep]; exact hB.1
  have HP : Hid (∀ (l : List Bool) (v : Int) (k : Nat) (w : World), WrIs w p p l → 0 ≤ v ∧ v ≤ 18446744073709551615 → k ≤ 64 → l.length ≤ 1099511627776 → p ≤ w.heap.size → Calls Tryd.prog 36 #[.pointer (some ⟨p, 0, none⟩), .int .u64 v, .int .i64 k] w fun e w' => e = .returned (.tuple #[]) ∧ WrIs w' p p (l ++ bitsI k v) ∧ w.Since p w' ∧ Frees w w' p) := fun l v k w h hv hk hl hb => f_put p p l v k w h hv hk hl hb
  have HPB : Hid (∀ (l : List Bool) (z : Int) (w' : World), WrIs w' p p l → rngZ z → l.length ≤ 1099511627700 → p ≤ w'.heap.size → w.Since p w' → Calls Tryd.prog 37 #[.pointer (some ⟨p, 0, none⟩), .int .i64 z] w' fun e w'' => e = .returned (.tuple #[]) ∧ WrIs w'' p p (l ++ encZ z) ∧ w'.Since p w'' ∧ Frees w' w'' p) := fun l z w' h hz hl hb hs => f_putBend p p l z w' h hz hl hb hp0 (hB.since hs hp0)
  have HBY : Hid (∀ (l : List Bool) (w : World), WrIs w p p l → l ≠ [] → l.length ≤ 1099511627776 → p ≤ w.heap.size → Calls Tryd.prog 41 #[.pointer (some ⟨p, 0, none⟩)] w fun e w' => ∃ vB, e = .returned vB ∧ SOwn byteE 5 w' p vB ((l.length + 7) / 8) (pack l) ∧ w.Since p w') := fun l w h h0 hl hb => f_bytes p p l w h h0 hl hb
  have HEN : Hid ((encP ps).length ≤ 1099511627000 ∧ encP ps ≠ []) := ⟨encP_len hL hz hv, fun h => by have := encP_min ps; rw [h] at this; simp at this⟩
  rw [← ep]
  clear hx hL hv ho hB ep
  go_enter Tryd.func30, Tryd.ntmps30
  go_wp2_with fail
  refine wp_scope_four (LayJ0 a ps L c p w) (LayJ1 a ps L c p w) (LayJ2 a ps L c p w) (LayJ3 a ps L c p w) layM0 (layM L 0) (layM L 1) (layM L 1) rfl rfl rfl rfl ?p0 ?p1 ?p2 ?p3 ?first
  case p0 =>
    rintro a' w' ⟨P, O, s5, s6, s8, u, rfl, hwr, hs⟩
    unfold layT
    have HWR : Hid (WrIs w' p p (encP ps)) := hwr
    have HS : Hid (w.Since p w') := hs
    clear hwr hs
    go_wp2_with fail
    refine (HBY.out (encP ps) w' HWR.out HEN.out.2 (by have := HEN.out.1; omega) (by have := HS.out.size; have := EP.out; omega)).mono ?_
    rintro e w2 ⟨vB, rfl, hown, hs2⟩
    have HOW : Hid (SOwn byteE 5 w2 p vB (((encP ps).length + 7) / 8) (pack (encP ps))) := hown
    have HS2 : Hid (w.Since p w2) := HS.out.trans hs2
    clear hown hs2
    go_wp2
    simp only [onto, jumps]
    go_ret
    exact ⟨vB, rfl, HOW.out, since_gb (by have h := HS2.out; rw [EP.out] at h; exact h)⟩
  case p1 =>
    rintro a' wr ⟨k, P, O, l, T, V, d, aw, bw, pa, pb, A, B, s5, s6, u, rfl, hk, hE, hwin, hW⟩
    unfold layT
    have HE : Hid (EncAt ps (k + 1) l d aw bw) := hE
    have HWI : Hid (WinP aw bw pa pb) := hwin
    have HW : Hid (LayW w wr p P O l T V d pa pb A B) := hW
    have hll := hE.len
    have hl := HL.out
    obtain ⟨ba, off, rfl, hcc⟩ := (HX.out.grown hW.gb (by simp)).at (by omega)
    obtain ⟨⟨t, v⟩, ex⟩ : ∃ x, ps[k]? = some x := ⟨_, List.getElem?_eq_getElem (by omega)⟩
    have a0 : wr.cell? ⟨ba, off + k * 2, none⟩ = some (.int .i64 t) := hcc k _ 0 _ ex rfl
    have a1 : wr.cell? ⟨ba, off + k * 2 + 1, none⟩ = some (.int .u64 v) := by rw [Nat.add_assoc]; exact hcc k _ 1 _ ex rfl
    have b0 : wr.cell? ⟨P, 0, none⟩ = some (.int .i64 T) := hW.past.cell (i := 0) (by omega)
    have b1 : wr.cell? ⟨P, 1, none⟩ = some (.int .u64 V) := hW.past.cell (i := 1) (by omega)
    have f0 := hW.past.frozen 0
    have f1 := hW.past.frozen 1
    have hki : (k : Int) < (L : Int) := by omega
    have HSet : Hid (LayW w ((wr.setCell ⟨P, 0, none⟩ (.int .i64 t)).setCell ⟨P, 1, none⟩ (.int .u64 v)) p P O l t v d pa pb A B) := (hW.setP (T' := t) (V' := V) (d' := d) (pa' := pa) (pb' := pb) 0 _ (fun j hj => by
      match j, hj with
      | 0, _ => rfl
      | 1, _ => rfl
      | 2, _ => rfl
      | 3, _ => rfl
      | 4, _ => rfl)).setP 1 _ (fun j hj => by
      match j, hj with
      | 0, _ => rfl
      | 1, _ => rfl
      | 2, _ => rfl
      | 3, _ => rfl
      | 4, _ => rfl)
    have EX0 : Hid (ps[k]? = some (t, v)) := ex
    clear hE hwin hW hcc ex hl
    by_cases hend : k + 1 = L
    · have qe : ((k : Int) + 1 == (L : Int)) = true := by simp; omega
      have HEQ : Hid (encP ps = l) := by
        have h := HE.out.next t v (by omega) EX0.out
        rw [List.drop_eq_nil_of_le (by have := HL.out; omega)] at h
        show _ = _
        simpa [encL] using h
      go_wp2
      go_step3
      exact ⟨layJ0 P O _ _ _ rfl (by rw [HEQ.out]; exact HSet.out.out) HSet.out.since, by simp [four, layM, layM0, intOf]; omega⟩
    · have qe : ((k : Int) + 1 == (L : Int)) = false := by simp; omega
      have hk1 : (k : Int) + 1 < (L : Int) := by omega
      have HK1 : Hid (k + 1 < L) := by show _ < _; omega
      go_wp2_with fail
      obtain ⟨w1, hw1⟩ : ∃ w1, w1 = (wr.setCell ⟨P, 0, none⟩ (.int .i64 t)).setCell ⟨P, 1, none⟩ (.int .u64 v) := ⟨_, rfl⟩
      rw [← hw1]
      rw [← hw1] at HSet
      obtain ⟨⟨t', v'⟩, ex'⟩ : ∃ x, ps[k + 1]? = some x := ⟨_, List.getElem?_eq_getElem (by have := HL.out; omega)⟩
      have HRD : Hid (∀ w', w.grownBy w' none → w'.cell? ⟨ba, off + (k + 1) * 2, none⟩ = some (.int .i64 t') ∧ w'.cell? ⟨ba, off + (k + 1) * 2 + 1, none⟩ = some (.int .u64 v')) := by
        intro w' hg
        obtain ⟨ba', off', e', hcc⟩ := (HX.out.grown hg (by simp)).at (by have := HL.out; omega)
        cases e'
        exact ⟨hcc (k + 1) _ 0 _ ex' rfl, by rw [Nat.add_assoc]; exact hcc (k + 1) _ 1 _ ex' rfl⟩
      have d0 := (HRD.out w1 HSet.out.gb).1
      have d1 : w1.cell? ⟨P, 0, none⟩ = some (.int .i64 t) := HSet.out.past.cell (i := 0) (by omega)
      have d2 : w1.cell? ⟨P, 2, none⟩ = some (.int .i64 d) := HSet.out.past.cell (i := 2) (by omega)
      obtain ⟨bt1, bt2⟩ := HO.out _ _ _ ex'
      obtain ⟨bt3, bt4⟩ := HO.out _ _ _ EX0.out
      obtain ⟨bd1, bd2⟩ := HE.out.dist
      have hvv := HV.out _ (List.mem_of_getElem? ex')
      have hvv0 := HV.out _ (List.mem_of_getElem? EX0.out)
      have HVX : Hid (okV v' ∧ okV v) := ⟨hvv, hvv0⟩
      have EX1 : Hid (ps[k + 1]? = some (t', v')) := ex'
      have HDS : Hid (-1099511627776 * 2 ≤ t' - t ∧ t' - t ≤ 1099511627776 * 2) := by show _ ∧ _; omega
      have HRG : Hid (rngZ (t' - t - d)) := by show _ ∧ _; omega
      clear hw1 a0 a1 b0 b1 f0 f1 hvv hvv0 ex' HW
      go_quiet (fail)
      go_wp2_with fail
      have HW1 : Hid (LayW w (w1.drewN nq) p P O l t v d pa pb A B) := HSet.out.grown (gb_drewN w1 nq)
      refine (HPB.out l (t' - t - d) (w1.drewN nq) HW1.out.out HRG.out (by omega) HW1.out.le HW1.out.since).mono ?_
      rintro e w2 ⟨rfl, ht, hs, hf⟩
      obtain ⟨l3, el3⟩ : ∃ l3, l3 = l ++ encZ (t' - t - d) := ⟨_, rfl⟩
      rw [← el3] at ht
      have HW2 : Hid (LayW w w2 p P O l3 t v d pa pb A B) := HW1.out.call ht hs hf
      have hl3 : l3.length ≤ 1099511627000 := by rw [el3, List.length_append]; have := encZ_len (t' - t - d); omega
      have HEl : Hid (l3 = l ++ encZ (t' - t - d)) := el3
      have e2 : w2.cell? ⟨P, 2, none⟩ = some (.int .i64 d) := HW2.out.past.cell (i := 2) (by omega)
      have g2 := HW2.out.past.frozen 2
      clear ht hs hf el3 d0 d1 d2 HSet HW1
      go_wp2_with fail
      obtain ⟨w3, hw3⟩ : ∃ w3, w3 = w2.setCell ⟨P, 2, none⟩ (.int .i64 (t' - t)) := ⟨_, rfl⟩
      rw [← hw3]
      have HW3 : Hid (LayW w w3 p P O l3 t v (t' - t) pa pb A B) := by
        rw [hw3]
        exact HW2.out.setP 2 _ (fun j hj => by
          match j, hj with
          | 0, _ => rfl
          | 1, _ => rfl
          | 2, _ => rfl
          | 3, _ => rfl
          | 4, _ => rfl)
      have d0 := (HRD.out w3 HW3.out.gb).2
      have d1 : w3.cell? ⟨P, 1, none⟩ = some (.int .u64 v) := HW3.out.past.cell (i := 1) (by omega)
      have hx : bits .xor .u64 v' v = xorI v' v := by
        obtain ⟨⟨g1, g2⟩, g3, g4⟩ := HVX.out
        exact u64_xor v' v g1 (by omega) g3 (by omega)
      have HXB : Hid (0 ≤ xorI v' v ∧ xorI v' v < 2 ^ 64) := xorI_bd HVX.out.1 HVX.out.2
      have HM : Hid (EncAt ps (k + 1 + 1) (l3 ++ (encV aw bw (xorI v' v)).1) (t' - t) (encV aw bw (xorI v' v)).2.1 (encV aw bw (xorI v' v)).2.2) := by
        have h := HE.out.more EX0.out EX1.out HDS.out (encV_win HE.out.win HXB.out.1 HXB.out.2) (encV_len HE.out.win)
        rw [← HEl.out] at h
        exact h
      generalize xorI v' v = X at hx HXB HM
      clear hw3 HW2 e2 g2 bt1 bt2 bt3 bt4 bd1 bd2
      go_quiet (fail)
      obtain ⟨w4, hw4⟩ : ∃ w4, w4 = w3.drewN nq := ⟨_, rfl⟩
      rw [← hw4]
      have HW4 : Hid (LayW w w4 p P O l3 t v (t' - t) pa pb A B) := by rw [hw4]; exact HW3.out.grown (gb_drewN w3 nq)
      clear hw4 HW3 d0 d1 hx HVX HRD HDS HRG HPB HX
      by_cases hX0 : X = 0
      · subst hX0
        have e0 : encV aw bw 0 = ([false], aw, bw) := by unfold encV; rw [if_pos rfl]
        rw [e0] at HM
        have HM0 : Hid (EncAt ps (k + 1 + 1) (l3 ++ [false]) (t' - t) aw bw) := HM.out
        clear HM e0 HXB
        go_wp2
        go_step3
        exact ⟨layJ2 (k + 1) P O l3 t v (t' - t) aw bw pa pb A B _ _ rfl HK1.out HM0.out hl3 HWI.out HW4.out, by simp [four, layM, intOf]; omega⟩
      · have qX : (X == 0) = false := by simpa using hX0
        have hXp : 0 < X := by have := HXB.out.1; omega
        have hX1 : X ≤ 18446744073709551615 := by have := HXB.out.2; omega
        have HXP : Hid (0 < X ∧ X < 2 ^ 64) := ⟨hXp, HXB.out.2⟩
        go_wp2_with fail
        refine (d_windowOf X w4 HXB.out.1 HXB.out.2).mono ?_
        rintro e w5 ⟨A', B', rfl, hWO, ew5⟩
        have HW5 : Hid (LayW w w5 p P O l3 t v (t' - t) pa pb A B) := by rw [ew5]; exact HW4.out.grown (World.grownBy_alloc _ _ none)
        obtain ⟨hA31, hB63, himp⟩ := hWO
        have HAB : Hid ((A' : Int) = min (leadN X : Int) 31 ∧ (B' : Int) = trailN X) := himp HXP.out.1
        have hsum : A' + B' ≤ 63 := by have := (edges_facts (x := X) HXP.out.1 HXP.out.2).1; have := HAB.out; omega
        unfold encV at HM
        rw [if_neg hX0, ← HAB.out.1] at HM
        have eT : trailN X = B' := by have := HAB.out.2; omega
        rw [eT] at HM
        have b0 : w5.cell? ⟨O, 0, none⟩ = some (.int .i64 A) := HW5.out.own.cell (i := 0) (by omega)
        have b1 : w5.cell? ⟨O, 1, none⟩ = some (.int .i64 B) := HW5.out.own.cell (i := 1) (by omega)
        have f0 := HW5.out.own.frozen 0
        have f1 := HW5.out.own.frozen 1
        have b3 : w5.cell? ⟨P, 3, none⟩ = some (.int .i64 pa) := HW5.out.past.cell (i := 3) (by omega)
        have b4 : w5.cell? ⟨P, 4, none⟩ = some (.int .i64 pb) := HW5.out.past.cell (i := 4) (by omega)
        have hPO : ¬ P = O := HW5.out.ne
        have hOP : ¬ O = P := fun e => hPO e.symm
        clear ew5 HW4 himp eT hX0
        go_wp2_with fail
        have HW6 : Hid (LayW w ((w5.setCell ⟨O, 0, none⟩ (.int .i64 (A' : Int))).setCell ⟨O, 1, none⟩ (.int .i64 (B' : Int))) p P O l3 t v (t' - t) pa pb A' B') := (HW5.out.setO (A' := A') (B' := B) 0 _ (fun j hj => by
          match j, hj with
          | 0, _ => rfl
          | 1, _ => rfl)).setO 1 _ (fun j hj => by
          match j, hj with
          | 0, _ => rfl
          | 1, _ => rfl)
        refine (d_takes pa pb A' B' _).mono ?_
        rintro e w7 ⟨rfl, ew7⟩
        have HW7 : Hid (LayW w w7 p P O l3 t v (t' - t) pa pb A' B') := by rw [ew7]; exact HW6.out.grown (gb_trans (World.grownBy_alloc _ _ none) (World.grownBy_alloc _ _ none) (by simp))
        clear ew7 HW6 HW5 b0 b1 f0 f1 b3 b4
        by_cases hcond : pa ≤ A' ∧ pb ≤ B'
        · have qc : (decide (pa ≤ (A' : Int)) && decide (pb ≤ (B' : Int))) = true := by simp; omega
          have hw2 : 0 ≤ aw ∧ aw ≤ 31 ∧ 0 ≤ bw ∧ aw + bw ≤ 63 ∧ pa = aw ∧ pb = bw := by rcases HWI.out with h | h <;> omega
          obtain ⟨g1, g2, g3, g4, rfl, rfl⟩ := hw2
          rw [if_pos (by omega)] at HM
          obtain ⟨an, rfl⟩ : ∃ an : Nat, pa = an := ⟨pa.toNat, by omega⟩
          obtain ⟨bn, rfl⟩ : ∃ bn : Nat, pb = bn := ⟨pb.toNat, by omega⟩
          have HM1 : Hid (EncAt ps (k + 1 + 1) (l3 ++ [true, false] ++ bitsI (64 - an - bn) (X / 2 ^ bn)) (t' - t) an bn) := by
            have h := HM.out
            rw [show ((64 : Int) - an - bn).toNat = 64 - an - bn by omega, Int.toNat_natCast] at h
            show EncAt _ _ _ _ _ _
            simpa [List.append_assoc] using h
          have r2 : decide (an ≤ A') = true := by simp; omega
          have r3 : decide (bn ≤ B') = true := by simp; omega
          have r4 : an ≤ A' := by omega
          have r5 : bn ≤ B' := by omega
          clear HM hcond HWI
          go_wp2
          go_step3
          exact ⟨layJ3 (k + 1) P O an bn l3 X t v (t' - t) A' B' _ rfl HK1.out HM1.out hl3 (by omega) (by omega) (by omega) HW7.out, by simp [four, layM, intOf]; omega⟩
        · have qc : (decide (pa ≤ (A' : Int)) && decide (pb ≤ (B' : Int))) = false := by simp; omega
          rw [if_neg (fun g => hcond (by rcases HWI.out with h | h <;> omega))] at HM
          have HM1 : Hid (EncAt ps (k + 1 + 1) (l3 ++ [true, true] ++ bitsI 5 A' ++ bitsI 6 ((63 - A' - B' : Nat) : Int) ++ bitsI (64 - A' - B') (X / 2 ^ B')) (t' - t) A' B') := by
            have h := HM.out
            rw [show (64 : Int) - A' - B' - 1 = ((63 - A' - B' : Nat) : Int) by omega, show ((64 : Int) - A' - B').toNat = 64 - A' - B' by omega] at h
            show EncAt _ _ _ _ _ _
            simpa [List.append_assoc] using h
          have HSH : Hid (0 ≤ X / 2 ^ B' ∧ X / 2 ^ B' ≤ 18446744073709551615) := shr_bd X B' (by omega)
          have e7 : ((64 - A' - B' : Nat) : Int) - 1 = ((63 - A' - B' : Nat) : Int) := by omega
          obtain ⟨W, eW⟩ : ∃ W, W = 64 - A' - B' := ⟨_, rfl⟩
          obtain ⟨W1, eW1⟩ : ∃ W1, W1 = 63 - A' - B' := ⟨_, rfl⟩
          rw [← eW, ← eW1] at HM1 e7
          have HEW : Hid (W = 64 - A' - B') := eW
          have hWb : W ≤ 64 ∧ W1 ≤ 63 := by omega
          have HWN : Hid (WinP A' B' A' B') := .inr ⟨by omega, by omega, by omega, by omega, rfl, rfl⟩
          have HCW : Hid (∀ w, Calls Tryd.prog 40 #[.agg #[.int .i64 A', .int .i64 B']] w fun e w' => e = .returned (.int .i64 (W : Int)) ∧ w' = w.alloc (.cells #[.int .i64 A', .int .i64 B'] 64)) := fun w => by rw [HEW.out]; exact d_width A' B' w (by omega)
          clear HM hcond HWI eW eW1
          go_wp2_with fail
          refine (HP.out l3 3 2 w7 HW7.out.out (by omega) (by omega) (by omega) HW7.out.le).mono ?_
          rintro e w8 ⟨rfl, ht, hs, hf⟩
          have HW8 : Hid (LayW w w8 p P O (l3 ++ [true, true]) t v (t' - t) pa pb A' B') := HW7.out.call ht hs hf
          have b0 : w8.cell? ⟨O, 0, none⟩ = some (.int .i64 (A' : Int)) := HW8.out.own.cell (i := 0) (by omega)
          clear ht hs hf HW7
          go_wp2_with fail
          refine (HP.out _ (A' : Int) 5 w8 HW8.out.out (by omega) (by omega) (by simp; omega) HW8.out.le).mono ?_
          rintro e w9 ⟨rfl, ht, hs, hf⟩
          have HW9 : Hid (LayW w w9 p P O (l3 ++ [true, true] ++ bitsI 5 A') t v (t' - t) pa pb A' B') := HW8.out.call ht hs hf
          have c0 : w9.cell? ⟨O, 0, none⟩ = some (.int .i64 (A' : Int)) := HW9.out.own.cell (i := 0) (by omega)
          have c1 : w9.cell? ⟨O, 1, none⟩ = some (.int .i64 (B' : Int)) := HW9.out.own.cell (i := 1) (by omega)
          clear ht hs hf HW8 b0
          go_wp2_with fail
          refine (HCW.out w9).mono ?_
          rintro e w10 ⟨rfl, ew10⟩
          have HW10 : Hid (LayW w w10 p P O (l3 ++ [true, true] ++ bitsI 5 A') t v (t' - t) pa pb A' B') := by rw [ew10]; exact HW9.out.grown (World.grownBy_alloc _ _ none)
          clear ew10 HW9 c0 c1
          go_wp2_with fail
          refine (HP.out _ (W1 : Int) 6 w10 HW10.out.out (by omega) (by omega) (by simp [bitsI_len]; omega) HW10.out.le).mono ?_
          rintro e w11 ⟨rfl, ht, hs, hf⟩
          have HW11 : Hid (LayW w w11 p P O (l3 ++ [true, true] ++ bitsI 5 A' ++ bitsI 6 W1) t v (t' - t) pa pb A' B') := HW10.out.call ht hs hf
          have c0 : w11.cell? ⟨O, 0, none⟩ = some (.int .i64 (A' : Int)) := HW11.out.own.cell (i := 0) (by omega)
          have c1 : w11.cell? ⟨O, 1, none⟩ = some (.int .i64 (B' : Int)) := HW11.out.own.cell (i := 1) (by omega)
          have hOlt : O < w11.heap.size := HW11.out.own.lt
          have HCP : Hid (∀ w', LayW w w' p P O (l3 ++ [true, true] ++ bitsI 5 A' ++ bitsI 6 W1) t v (t' - t) pa pb A' B' → Calls Tryd.prog 36 #[.pointer (some ⟨p, 0, none⟩), .int .u64 (X / 2 ^ B'), .int .i64 (W : Int)] w' fun e w'' => e = .returned (.tuple #[]) ∧ Hid (LayW w w'' p P O (l3 ++ [true, true] ++ bitsI 5 A' ++ bitsI 6 W1 ++ bitsI W (X / 2 ^ B')) t v (t' - t) pa pb A' B')) := by
            intro w' h
            refine (HP.out _ (X / 2 ^ B') W w' h.out HSH.out (by omega) (by simp [bitsI_len]; omega) h.le).mono ?_
            rintro e w'' ⟨he, ht, hs, hf⟩
            exact ⟨he, h.call ht hs hf⟩
          have HWA : Hid (∀ o, LayW w ((w11.alloc o).drew) p P O (l3 ++ [true, true] ++ bitsI 5 A' ++ bitsI 6 W1) t v (t' - t) pa pb A' B') := fun o => HW11.out.grown (gb_drew (World.grownBy_alloc w11 o none))
          clear ht hs hf HW10
          go_upto_region 24 with fail
          go_cut [8] from 82 to 88 (fun t8 wc => t8 = .int .i64 ((k : Int) + 1) ∧ Hid (LayW w wc p P O (l3 ++ [true, true] ++ bitsI 5 A' ++ bitsI 6 W1 ++ bitsI W (X / 2 ^ B')) t v (t' - t) pa pb A' B'))
          case first =>
            go_region_with (first | (go_at_call 40; refine (HCW.out _).mono ?_; rintro e w' ⟨rfl, rfl⟩) | (go_at_call 36; refine (HCP.out _ ?hw).mono ?_; (case hw => exact HWA.out _); rintro e w3 ⟨rfl, HW3⟩))
            all_goals go_wp2_with fail
            all_goals go_meet
            all_goals exact ⟨rfl, HW3⟩
          case rest =>
            obtain ⟨rfl, HWC⟩ := hcut
            have c0 : wc.cell? ⟨O, 0, none⟩ = some (.int .i64 (A' : Int)) := HWC.out.own.cell (i := 0) (by omega)
            have c1 : wc.cell? ⟨O, 1, none⟩ = some (.int .i64 (B' : Int)) := HWC.out.own.cell (i := 1) (by omega)
            have b3 : wc.cell? ⟨P, 3, none⟩ = some (.int .i64 pa) := HWC.out.past.cell (i := 3) (by omega)
            have b4 : wc.cell? ⟨P, 4, none⟩ = some (.int .i64 pb) := HWC.out.past.cell (i := 4) (by omega)
            have f3 := HWC.out.past.frozen 3
            have f4 := HWC.out.past.frozen 4
            have HWD : Hid (LayW w ((wc.setCell ⟨P, 3, none⟩ (.int .i64 (A' : Int))).setCell ⟨P, 4, none⟩ (.int .i64 (B' : Int))) p P O (l3 ++ [true, true] ++ bitsI 5 A' ++ bitsI 6 W1 ++ bitsI W (X / 2 ^ B')) t v (t' - t) A' B' A' B') := (HWC.out.setP (T' := t) (V' := v) (d' := t' - t) (pa' := A') (pb' := pb) 3 _ (fun j hj => by
              match j, hj with
              | 0, _ => rfl
              | 1, _ => rfl
              | 2, _ => rfl
              | 3, _ => rfl
              | 4, _ => rfl)).setP 4 _ (fun j hj => by
              match j, hj with
              | 0, _ => rfl
              | 1, _ => rfl
              | 2, _ => rfl
              | 3, _ => rfl
              | 4, _ => rfl)
            go_wp2
            go_step3
            exact ⟨layJ1 (k + 1) P O _ t v (t' - t) A' B' A' B' A' B' _ _ rfl HK1.out HM1.out HWN.out HWD.out, by simp [four, layM, intOf]; omega⟩
  case p2 =>
    rintro a' wr ⟨k, P, O, l, T, V, d, aw, bw, pa, pb, A, B, s5, s6, u, rfl, hk, hE, hll, hwin, hW⟩
    unfold layT
    have HE : Hid (EncAt ps (k + 1) (l ++ [false]) d aw bw) := hE
    have HWI : Hid (WinP aw bw pa pb) := hwin
    have HW : Hid (LayW w wr p P O l T V d pa pb A B) := hW
    clear hE hwin hW
    go_wp2_with fail
    refine (HP.out l 0 1 wr HW.out.out (by omega) (by omega) (by omega) HW.out.le).mono ?_
    rintro e w2 ⟨rfl, ht, hs, hf⟩
    have HW2 : Hid (LayW w w2 p P O (l ++ [false]) T V d pa pb A B) := HW.out.call ht hs hf
    clear ht hs hf
    go_wp2
    go_step3
    exact ⟨layJ1 k P O (l ++ [false]) T V d aw bw pa pb A B s5 s6 rfl hk HE.out HWI.out HW2.out, by simp [four, layM, intOf]⟩
  case p3 =>
    rintro a' wr ⟨k, P, O, an, bn, l, X, T, V, d, A, B, s5, u, rfl, hk, hE, hll, han, hab, hX, hW⟩
    unfold layT
    have HE : Hid (EncAt ps (k + 1) (l ++ [true, false] ++ bitsI (64 - an - bn) (X / 2 ^ bn)) d an bn) := hE
    have HW : Hid (LayW w wr p P O l T V d an bn A B) := hW
    have hsh := shr_bd X bn hX
    have HSH : Hid (0 ≤ X / 2 ^ bn ∧ X / 2 ^ bn ≤ 18446744073709551615) := hsh
    have HWI : Hid (WinP an bn an bn) := .inr ⟨by omega, by omega, by omega, by omega, rfl, rfl⟩
    clear hE hW hsh
    go_wp2_with fail
    refine (HP.out l 2 2 wr HW.out.out (by omega) (by omega) (by omega) HW.out.le).mono ?_
    rintro e w2 ⟨rfl, ht, hs, hf⟩
    have HW2 : Hid (LayW w w2 p P O (l ++ [true, false]) T V d an bn A B) := HW.out.call ht hs hf
    have c3 : w2.cell? ⟨P, 3, none⟩ = some (.int .i64 (an : Int)) := HW2.out.past.cell (i := 3) (by omega)
    have c4 : w2.cell? ⟨P, 4, none⟩ = some (.int .i64 (bn : Int)) := HW2.out.past.cell (i := 4) (by omega)
    have hPlt : P < w2.heap.size := HW2.out.past.lt
    have HCW : Hid (∀ w, Calls Tryd.prog 40 #[.agg #[.int .i64 an, .int .i64 bn]] w fun e w' => e = .returned (.int .i64 ((64 - an - bn : Nat) : Int)) ∧ w' = w.alloc (.cells #[.int .i64 an, .int .i64 bn] 64)) := fun w => d_width an bn w (by omega)
    have HCP : Hid (∀ w', LayW w w' p P O (l ++ [true, false]) T V d an bn A B → Calls Tryd.prog 36 #[.pointer (some ⟨p, 0, none⟩), .int .u64 (X / 2 ^ bn), .int .i64 ((64 - an - bn : Nat) : Int)] w' fun e w'' => e = .returned (.tuple #[]) ∧ Hid (LayW w w'' p P O (l ++ [true, false] ++ bitsI (64 - an - bn) (X / 2 ^ bn)) T V d an bn A B)) := by
      intro w' h
      refine (HP.out _ (X / 2 ^ bn) (64 - an - bn) w' h.out HSH.out (by omega) (by simp; omega) h.le).mono ?_
      rintro e w'' ⟨he, ht, hs, hf⟩
      exact ⟨he, h.call ht hs hf⟩
    have HWA : Hid (∀ o, LayW w ((w2.alloc o).drew) p P O (l ++ [true, false]) T V d an bn A B) := fun o => HW2.out.grown (gb_drew (World.grownBy_alloc w2 o none))
    have hk64 : ¬ (bn : Int) < 0 := by omega
    clear ht hs hf
    go_wp2_with fail
    go_region_with (first | (go_at_call 40; refine (HCW.out _).mono ?_; rintro e w' ⟨rfl, rfl⟩) | (go_at_call 36; refine (HCP.out _ ?hw).mono ?_; (case hw => exact HWA.out _); rintro e w3 ⟨rfl, HW3⟩))
    all_goals go_wp2
    all_goals go_step3
    all_goals exact ⟨layJ1 k P O _ T V d an bn an bn A B s5 (.int .u64 X) rfl hk HE.out HWI.out HW3.out, by simp [four, layM, intOf]⟩
  case first =>
    intro go_on
    have GO : Hid (∀ a' w', LayJ1 a ps L c p w a' w' → _) := go_on
    clear go_on
    have HA : Hid (w.grownBy (w.alloc (.cells #[.slice none 0 0, .slice none 0 0, .int .i64 0] 62)) none) := World.grownBy_alloc _ _ none
    have HW0 : Hid (WrIs (w.alloc (.cells #[.slice none 0 0, .slice none 0 0, .int .i64 0] 62)) p p []) := by rw [EP.out]; exact wr_start w
    go_wp2_with fail
    refine (d_newTrail _).mono ?_
    rintro e w1 ⟨rfl, hg1⟩
    have HG1 : Hid (w.grownBy w1 none) := gb_trans HA.out hg1 (by simp)
    have HW1 : Hid (WrIs w1 p p []) := wr_grown HW0.out hg1
    clear hg1
    go_wp2_with fail
    obtain ⟨w2, hw2⟩ : ∃ w2, w2 = (w1.alloc (.cells #[.int .i64 0, .int .u64 0, .int .i64 0, .int .i64 64, .int .i64 0] 66)).alloc (.cells #[.int .i64 0, .int .i64 0] 64) := ⟨_, rfl⟩
    rw [← hw2, ← EP.out]
    have HLW : Hid (LayW w w2 p w1.heap.size (w1.heap.size + 1) [] 0 0 0 64 0 0 0) := by rw [hw2]; exact lay_start HG1.out HW1.out EP.out
    generalize w1.heap.size = P at HLW ⊢
    generalize P + 1 = O at HLW ⊢
    clear hw2 HG1 HW1 HW0 HA
    refine (HP.out [] L 13 w2 HLW.out.out (by omega) (by omega) (by simp) HLW.out.le).mono ?_
    rintro e w3 ⟨rfl, ht, hs, hf⟩
    have HW3 : Hid (LayW w w3 p P O (bitsI 13 L) 0 0 0 64 0 0 0) := HLW.out.call ht hs hf
    clear ht hs hf HLW
    by_cases hL0 : L = 0
    · subst hL0
      have HEQ : Hid (encP ps = bitsI 13 ((0 : Nat) : Int)) := by
        have h0 : ps = [] := List.eq_nil_of_length_eq_zero HL.out
        rw [h0]; rfl
      go_wp2
      go_step3
      exact layJ0 P O _ _ _ rfl (by rw [HEQ.out]; exact HW3.out.out) HW3.out.since
    · have hL1 : (0 : Int) < (L : Int) := by omega
      have hL2 : ((L : Int) == 0) = false := by simp; omega
      have hl := HL.out
      obtain ⟨ba, off, rfl, hcc⟩ := (HX.out.grown HW3.out.gb (by simp)).at (by omega)
      obtain ⟨⟨t, v⟩, ex⟩ : ∃ x, ps[0]? = some x := ⟨_, List.getElem?_eq_getElem (by omega)⟩
      have a0 : w3.cell? ⟨ba, off, none⟩ = some (.int .i64 t) := by have h := hcc 0 _ 0 _ ex rfl; simpa using h
      have hvv := HV.out _ (List.mem_of_getElem? ex)
      have HN : Hid (EncAt ps 1 (bitsI 13 L ++ bitsI 64 t ++ bitsI 64 v) 0 (-1) 0) := by have h := (EncAt.start ps).one ex; rw [HL.out] at h; exact h
      have EX : Hid (ps[0]? = some (t, v)) := ex
      have HU : Hid (0 ≤ IntKind.u64.wrap t ∧ IntKind.u64.wrap t ≤ 18446744073709551615) := wrap_u_bd t
      have hv0 : 0 ≤ v ∧ v ≤ 18446744073709551615 := by unfold okV at hvv; simp only at hvv; omega
      clear hcc ex hvv hl
      go_wp2_with fail
      refine (HP.out _ _ 64 w3 HW3.out.out HU.out (by omega) (by simp [bitsI_len]) HW3.out.le).mono ?_
      rintro e w4 ⟨rfl, ht, hs, hf⟩
      rw [wrap_is, bits_whole] at ht
      have HW4 : Hid (LayW w w4 p P O (bitsI 13 L ++ bitsI 64 t) 0 0 0 64 0 0 0) := HW3.out.call ht hs hf
      obtain ⟨ba', off', e', hcc'⟩ := (HX.out.grown HW4.out.gb (by simp)).at (by have := HL.out; omega)
      cases e'
      have a1 : w4.cell? ⟨ba, off + 1, none⟩ = some (.int .u64 v) := by have h := hcc' 0 _ 1 _ EX.out rfl; simpa using h
      clear ht hs hf hcc'
      go_wp2_with fail
      refine (HP.out _ v 64 w4 HW4.out.out hv0 (by omega) (by simp [bitsI_len]) HW4.out.le).mono ?_
      rintro e w5 ⟨rfl, ht, hs, hf⟩
      have HW5 : Hid (LayW w w5 p P O (bitsI 13 L ++ bitsI 64 t ++ bitsI 64 v) 0 0 0 64 0 0 0) := HW4.out.call ht hs hf
      clear ht hs hf
      go_wp2
      go_step3
      refine ‹∀ (a : Act) (w : World), Code.wp Tryd.prog _ _ a w → _› _ _ (GO.out _ _ ?_)
      exact layJ1 0 P O _ 0 0 0 (-1) 0 64 0 0 0 _ _ rfl (by omega) HN.out (.inl ⟨rfl, rfl, rfl⟩) HW5.out
end Go.Proofs.YteahhkpbjkcmhaaDoor
