/- Package chunk: the reader: a bend. -/
import Derived.Test.YteahhkpbjkcmhaaDoorDrd
import Derived.Test.YteahhkpbjkcmhaaDoorDform
import Derived.Test.YteahhkpbjkcmhaaDoorHdec
namespace Go.Proofs.YteahhkpbjkcmhaaDoor
open Go.RowKit
set_option linter.unusedVariables false

/-- Behind the mark of form k. -/
def MidR (st : Option (List Bool)) (k : Nat) (s2 : Option (List Bool)) : Prop :=
  (st = none ∧ s2 = none) ∨ (∃ l, st = some l ∧ s2 = none ∧ ∀ z r, rngZ z → l ≠ encZ z ++ r) ∨ ∃ l2, st = some (markL k ++ l2) ∧ s2 = some l2
theorem ones_mark {k : Nat} (hk : k < 4) (r : List Bool) : List.replicate k true ++ false :: r = markL k ++ r := by
  match k, hk with
  | 0, _ => rfl
  | 1, _ => rfl
  | 2, _ => rfl
  | 3, _ => rfl
theorem MidR.four {st sk : Option (List Bool)} (h : Ones st 4 sk) : MidR st 4 sk := by
  rcases h with ⟨h1, h2⟩ | ⟨l, l', h1, h2, h3⟩
  · exact .inl ⟨h1, h2⟩
  · exact .inr (.inr ⟨l', by rw [h1, h3]; rfl, h2⟩)
theorem MidR.stop {st sk s2 : Option (List Bool)} {k : Nat} {c : Int} (h : Ones st k sk) (hk : k < 4) (hg : GetR 1 sk s2 c) (hc : c ≠ 1) : MidR st k s2 := by
  rcases bit_not hg hc with ⟨h1, h2⟩ | ⟨h1, h2⟩ | ⟨r, h1, h2⟩
  · rcases h with ⟨h3, h4⟩ | ⟨l, l', h3, h4, h5⟩
    · exact .inl ⟨h3, h2⟩
    · rw [h1] at h4; cases h4
  · rcases h with ⟨h3, h4⟩ | ⟨l, l', h3, h4, h5⟩
    · rw [h1] at h4; cases h4
    · rw [h1] at h4
      have e : l' = [] := by simpa using h4.symm
      refine .inr (.inl ⟨l, h3, h2, fun z r hz => ?_⟩)
      rw [h5, e, List.append_nil]
      exact bend_short hk z r hz
  · rcases h with ⟨h3, h4⟩ | ⟨l, l', h3, h4, h5⟩
    · rw [h1] at h4; cases h4
    · rw [h1] at h4
      have e : l' = false :: r := by simpa using h4.symm
      exact .inr (.inr ⟨r, by rw [h3, h5, e, ones_mark hk], h2⟩)
theorem sg_small (k : Nat) (u : Int) (h0 : 0 ≤ u) (h1 : u < 2 ^ bitsN k) : sg k u = if k = 0 then 0 else sgn (bitsN k) u := by
  unfold sg
  rw [Int.emod_eq_of_lt h0 h1]
theorem sg_rng (k : Nat) (hk : k ≤ 4) (u : Int) (h0 : 0 ≤ u) (h1 : u < 2 ^ bitsN k) : rngZ (sg k u) := by
  rw [sg_small k u h0 h1]
  unfold rngZ sgn
  match k, hk with
  | 0, _ => simp
  | 1, _ => simp only [bitsN] at h1 ⊢; simp at h1 ⊢; split <;> omega
  | 2, _ => simp only [bitsN] at h1 ⊢; simp at h1 ⊢; split <;> omega
  | 3, _ => simp only [bitsN] at h1 ⊢; simp at h1 ⊢; split <;> omega
  | 4, _ => simp only [bitsN] at h1 ⊢; simp at h1 ⊢; split <;> omega
theorem MidR.bend {st s2 s3 : Option (List Bool)} {k : Nat} {u : Int} (h : MidR st k s2) (hk : k ≤ 4) (hg : GetR (bitsN k) s2 s3 u) (h0 : 0 ≤ u) (h1 : u < 2 ^ bitsN k) : BendR st (if formN (sg k u) = k then s3 else none) (sg k u) := by
  rcases h with ⟨rfl, rfl⟩ | ⟨l, rfl, rfl, hno⟩ | ⟨l2, rfl, rfl⟩
  · have e : s3 = none := hg
    subst e
    show (if _ then none else none) = none
    split <;> rfl
  · have e : s3 = none := hg
    subst e
    refine .inr ⟨by split <;> rfl, hno⟩
  · unfold GetR at hg
    cases hq : Go.Proofs.YteahhkpbjkcmhaaDoor.get (bitsN k) l2 with
    | none =>
      simp only [hq] at hg
      obtain ⟨_, rfl⟩ := hg
      exact .inr ⟨by split <;> rfl, bend_cut hk hq⟩
    | some q =>
      simp only [hq] at hg
      obtain ⟨rfl, rfl⟩ := hg
      obtain ⟨b1, b2⟩ := bend_is hk hq (sg_small k q.1 h0 h1)
      by_cases hf : formN (sg k q.1) = k
      · rw [if_pos hf]
        exact .inl ⟨q.2, b1 hf, rfl⟩
      · rw [if_neg hf]
        exact .inr ⟨rfl, b2 hf⟩
theorem bitsN_le (k : Nat) : bitsN k ≤ 64 := by unfold bitsN; split <;> omega
theorem pow_bits_le {b : Nat} (hb : b ≤ 64) {u : Int} (hu : u < 2 ^ b) : u ≤ 18446744073709551615 := by
  have h := pow2_le hb
  have e : (2 : Int) ^ 64 = 18446744073709551616 := rfl
  omega
set_option maxHeartbeats 4000000 in
theorem d_takeBend (p : Nat) (a : Option Addr) (zs : List Int) (cap : Nat) (st : Option (List Bool)) (w : World) (h : RdrAt w p a zs cap st) (hr : ∀ w', w.grownBy w' (some p) → Rd w' a zs) (hz : (zs.length : Int) ≤ 140737488355000) (hB : Bf w) (hp : p ≠ 0) :
    Calls Tryd.prog 45 #[.pointer (some ⟨p, 0, none⟩)] w fun e w' => ∃ z st', e = .returned (.int .i64 z) ∧ rngZ z ∧ RdrAt w' p a zs cap st' ∧ BendR st st' z ∧ w.grownBy w' (some p) := by
  have HT : Hid (∀ (k : Nat) (s : Option (List Bool)) (w' : World), k ≤ 64 → RdrAt w' p a zs cap s → w.grownBy w' (some p) → Calls Tryd.prog 44 #[.pointer (some ⟨p, 0, none⟩), .int .i64 k] w' fun e w'' => ∃ v s', e = .returned (.int .u64 v) ∧ 0 ≤ v ∧ v < 2 ^ k ∧ RdrAt w'' p a zs cap s' ∧ GetR k s s' v ∧ w.grownBy w'' (some p)) := by
    intro k s w' hk h' hg
    refine (d_take p a zs cap k s w' h' (hr w' hg) hz hk).mono ?_
    rintro e w'' ⟨v, s', he, h0, h1, h2, h3, h4⟩
    exact ⟨v, s', he, h0, h1, h2, h3, gb_trans hg h4 (fun k hk => .inr hk)⟩
  have HM : Hid (∀ (b : Bool) (s : Option (List Bool)) (w' : World), RdrAt w' p a zs cap s → w.grownBy w' (some p) → Calls Tryd.prog 48 #[.pointer (some ⟨p, 0, none⟩), .bool b] w' fun e w'' => e = .returned (.tuple #[]) ∧ RdrAt w'' p a zs cap (if b then s else none) ∧ w.grownBy w'' (some p)) := by
    intro b s w' h' hg
    refine (d_must p a zs cap b s w' h').mono ?_
    rintro e w'' ⟨he, h2, h4⟩
    exact ⟨he, h2, gb_trans hg h4 (fun k hk => .inr hk)⟩
  have HBF : Hid (∀ w', w.grownBy w' (some p) → Bf w') := fun w' hg => hB.grown hg (fun e => hp (by simpa using e))
  have H0 : Hid (RdrAt w p a zs cap st) := h
  clear h hr hB hp
  go_enter Tryd.func45, Tryd.ntmps45
  go_wp2
  refine wp_scope_from 0 (fun a' w' => ∃ (k : Nat) (sk : Option (List Bool)) (u4 u5 u6 u7 u8 u9 u10 u11 u12 u13 u14 u15 u16 u17 u18 u19 u20 u21 u22 u23 u24 u25 u26 u27 u28 u29 u30 : Value), a' = { tmps := #[.pointer (some ⟨p, 0, none⟩), undef, .int .i64 0, .int .i64 k, u4, u5, u6, u7, u8, u9, u10, u11, u12, u13, u14, u15, u16, u17, u18, u19, u20, u21, u22, u23, u24, u25, u26, u27, u28, u29, u30], defers := [] } ∧ k ≤ 4 ∧ RdrAt w' p a zs cap sk ∧ Ones st k sk ∧ w.grownBy w' (some p)) (fun a' _ => 5 - (intOf (a'.tmps.getD 3 undef)).toNat) rfl ?_ ?_
  · rintro a' wr ⟨k, sk, u4, u5, u6, u7, u8, u9, u10, u11, u12, u13, u14, u15, u16, u17, u18, u19, u20, u21, u22, u23, u24, u25, u26, u27, u28, u29, u30, rfl, hk, hR, hO, hG⟩
    have HR : Hid (RdrAt wr p a zs cap sk) := hR
    have HON : Hid (Ones st k sk) := hO
    have HG : Hid (w.grownBy wr (some p)) := hG
    clear hR hO hG H0
    go_hide hQ
    have HQQ : Hid (_ = _) := hQ
    clear hQ
    by_cases hk4 : k < 4
    · have hki : (k : Int) < 4 := by omega
      have qk : decide ((k : Int) < 4) = true := by simp; omega
      go_wp2_with fail
      refine (HT.out 1 sk wr (by omega) HR.out HG.out).mono ?_
      rintro e w2 ⟨c, s2, rfl, hc0, hc1, hR2, hg2, hG2⟩
      have HRt : Hid (RdrAt w2 p a zs cap s2) := hR2
      have HGt : Hid (w.grownBy w2 (some p)) := hG2
      by_cases hc : c = 1
      · have qc : (c == 1) = true := by simpa using hc
        have HO2 : Hid (Ones st (k + 1) s2) := HON.out.get hg2 (by omega)
        clear hR2 hg2 hG2 HR HG HON
        go_wp2
        go_step3
        rw [← HQQ.out]
        refine ⟨rfl, ⟨k + 1, s2, _, _, _, _, _, _, _, _, _, _, _, _, _, _, _, _, _, _, _, _, _, _, _, _, _, _, _, rfl, by omega, HRt.out, HO2.out, HGt.out⟩, ?_⟩
        simp [intOf]
        omega
      · have qc : (c == 1) = false := by simpa using hc
        have HMt : Hid (MidR st k s2) := MidR.stop HON.out hk4 hg2 hc
        clear hR2 hg2 hG2 HR HG HON hc hc0 hc1
        obtain ⟨wt, ewt⟩ : ∃ wt, wt = w2 := ⟨_, rfl⟩
        rw [← ewt]
        rw [← ewt] at HRt HGt
        clear ewt
        have cb : wt.cell? ⟨0, k * 3 + 2, none⟩ = some (.int .i64 (bitsN k)) := ((HBF.out wt HGt.out).2 k hk).2.2
        have hb64 : bitsN k ≤ 64 := bitsN_le k
        have hk5 : (k : Int) < 5 := by omega
        have HS : Hid (∀ (u : Int) (w : World), 0 ≤ u → u ≤ 18446744073709551615 → Calls Tryd.prog 57 #[.int .u64 u, .int .i64 (bitsN k)] w fun e w' => e = .returned (.int .i64 (sg k u)) ∧ w = w') := fun u w h0 h1 => d_signed k hk u w h0 h1
        have HTk := HT.out (bitsN k) s2 wt hb64 HRt.out HGt.out
        have HBD : Hid (∀ s3 u, GetR (bitsN k) s2 s3 u → 0 ≤ u → u < 2 ^ bitsN k → BendR st (if formN (sg k u) = k then s3 else none) (sg k u) ∧ rngZ (sg k u)) := fun s3 u hg h0 h1 => ⟨HMt.out.bend hk hg h0 h1, sg_rng k hk u h0 h1⟩
        have HP64 : Hid (∀ u : Int, u < 2 ^ bitsN k → u ≤ 18446744073709551615) := fun u hu => pow_bits_le hb64 hu
        have HTT : Hid (Calls Tryd.prog 44 #[.pointer (some ⟨p, 0, none⟩), .int .i64 (bitsN k)] wt fun e w'' => ∃ v s', e = .returned (.int .u64 v) ∧ 0 ≤ v ∧ v < 2 ^ bitsN k ∧ RdrAt w'' p a zs cap s' ∧ GetR (bitsN k) s2 s' v ∧ w.grownBy w'' (some p)) := HTk
        clear HTk
        generalize bitsN k = bn at cb HS HTT HBD HP64
        go_wp2_with fail
        refine HTT.out.mono ?_
        rintro e w3 ⟨u, s3, rfl, hu0, hu1, hR3, hg3, hG3⟩
        have HR3 : Hid (RdrAt w3 p a zs cap s3) := hR3
        have HG3 : Hid (w.grownBy w3 (some p)) := hG3
        have HU : Hid (0 ≤ u ∧ u ≤ 18446744073709551615) := ⟨hu0, HP64.out u hu1⟩
        have HBR := HBD.out s3 u hg3 hu0 hu1
        have HBE : Hid (BendR st (if formN (sg k u) = k then s3 else none) (sg k u) ∧ rngZ (sg k u)) := HBR
        clear HBR hR3 hg3 hG3 hu0 hu1 HTT cb
        go_wp2_with fail
        refine (HS.out u w3 HU.out.1 HU.out.2).mono ?_
        rintro e w' ⟨rfl, rfl⟩
        generalize sg k u = z at HBE ⊢
        have HFO : Hid (Calls Tryd.prog 52 #[.int .i64 z] w3 fun e w' => e = .returned (.int .i64 (formN z)) ∧ w3 = w') := d_formOf z w3 HBE.out.2 (HBF.out w3 HG3.out)
        obtain ⟨F, eF⟩ : ∃ F, F = formN z := ⟨_, rfl⟩
        rw [← eF] at HBE HFO
        clear eF
        by_cases hF : F = k
        · have qF : ((F : Int) == (k : Int)) = true := by simp; omega
          have HBT : Hid (BendR st s3 z ∧ rngZ z) := by have h := HBE.out; rw [if_pos hF] at h; exact h
          clear HBE
          subst hF
          go_wp2_with fail
          refine HFO.out.mono ?_
          rintro e w' ⟨rfl, rfl⟩
          go_wp2_with fail
          refine (HM.out true s3 w3 HR3.out HG3.out).mono ?_
          rintro e w4 ⟨rfl, hR4, hG4⟩
          have HR4 : Hid (RdrAt w4 p a zs cap s3) := hR4
          have HG4 : Hid (w.grownBy w4 (some p)) := hG4
          clear hR4 hG4
          go_wp2
          rw [← HQQ.out]
          simp only [Exit.jump]
          go_ret
          exact ⟨z, s3, rfl, HBT.out.2, HR4.out, HBT.out.1, HG4.out⟩
        · have qF : ((F : Int) == (k : Int)) = false := by simp; omega
          have HBT : Hid (BendR st none z ∧ rngZ z) := by have h := HBE.out; rw [if_neg hF] at h; exact h
          clear HBE
          go_wp2_with fail
          refine HFO.out.mono ?_
          rintro e w' ⟨rfl, rfl⟩
          go_wp2_with fail
          refine (HM.out false s3 w3 HR3.out HG3.out).mono ?_
          rintro e w4 ⟨rfl, hR4, hG4⟩
          have HR4 : Hid (RdrAt w4 p a zs cap none) := hR4
          have HG4 : Hid (w.grownBy w4 (some p)) := hG4
          clear hR4 hG4
          go_wp2
          rw [← HQQ.out]
          simp only [Exit.jump]
          go_ret
          exact ⟨z, none, rfl, HBT.out.2, HR4.out, HBT.out.1, HG4.out⟩
    · have qk : decide ((k : Int) < 4) = false := by simp; omega
      have HMt : Hid (MidR st k sk) := by
        obtain rfl : k = 4 := by omega
        exact MidR.four HON.out
      have hk4i : ¬ (k : Int) < 4 := by omega
      clear HON hk4
      have cb : wr.cell? ⟨0, k * 3 + 2, none⟩ = some (.int .i64 (bitsN k)) := ((HBF.out wr HG.out).2 k hk).2.2
      have hb64 : bitsN k ≤ 64 := bitsN_le k
      have hk5 : (k : Int) < 5 := by omega
      have HS : Hid (∀ (u : Int) (w : World), 0 ≤ u → u ≤ 18446744073709551615 → Calls Tryd.prog 57 #[.int .u64 u, .int .i64 (bitsN k)] w fun e w' => e = .returned (.int .i64 (sg k u)) ∧ w = w') := fun u w h0 h1 => d_signed k hk u w h0 h1
      have HTk := HT.out (bitsN k) sk wr hb64 HR.out HG.out
      have HBD : Hid (∀ s3 u, GetR (bitsN k) sk s3 u → 0 ≤ u → u < 2 ^ bitsN k → BendR st (if formN (sg k u) = k then s3 else none) (sg k u) ∧ rngZ (sg k u)) := fun s3 u hg h0 h1 => ⟨HMt.out.bend hk hg h0 h1, sg_rng k hk u h0 h1⟩
      have HP64 : Hid (∀ u : Int, u < 2 ^ bitsN k → u ≤ 18446744073709551615) := fun u hu => pow_bits_le hb64 hu
      have HTT : Hid (Calls Tryd.prog 44 #[.pointer (some ⟨p, 0, none⟩), .int .i64 (bitsN k)] wr fun e w'' => ∃ v s', e = .returned (.int .u64 v) ∧ 0 ≤ v ∧ v < 2 ^ bitsN k ∧ RdrAt w'' p a zs cap s' ∧ GetR (bitsN k) sk s' v ∧ w.grownBy w'' (some p)) := HTk
      clear HTk
      generalize bitsN k = bn at cb HS HTT HBD HP64
      go_wp2_with fail
      refine HTT.out.mono ?_
      rintro e w3 ⟨u, s3, rfl, hu0, hu1, hR3, hg3, hG3⟩
      have HR3 : Hid (RdrAt w3 p a zs cap s3) := hR3
      have HG3 : Hid (w.grownBy w3 (some p)) := hG3
      have HU : Hid (0 ≤ u ∧ u ≤ 18446744073709551615) := ⟨hu0, HP64.out u hu1⟩
      have HBR := HBD.out s3 u hg3 hu0 hu1
      have HBE : Hid (BendR st (if formN (sg k u) = k then s3 else none) (sg k u) ∧ rngZ (sg k u)) := HBR
      clear HBR hR3 hg3 hG3 hu0 hu1 HTT cb
      go_wp2_with fail
      refine (HS.out u w3 HU.out.1 HU.out.2).mono ?_
      rintro e w' ⟨rfl, rfl⟩
      generalize sg k u = z at HBE ⊢
      have HFO : Hid (Calls Tryd.prog 52 #[.int .i64 z] w3 fun e w' => e = .returned (.int .i64 (formN z)) ∧ w3 = w') := d_formOf z w3 HBE.out.2 (HBF.out w3 HG3.out)
      obtain ⟨F, eF⟩ : ∃ F, F = formN z := ⟨_, rfl⟩
      rw [← eF] at HBE HFO
      clear eF
      by_cases hF : F = k
      · have qF : ((F : Int) == (k : Int)) = true := by simp; omega
        have HBT : Hid (BendR st s3 z ∧ rngZ z) := by have h := HBE.out; rw [if_pos hF] at h; exact h
        clear HBE
        subst hF
        go_wp2_with fail
        refine HFO.out.mono ?_
        rintro e w' ⟨rfl, rfl⟩
        go_wp2_with fail
        refine (HM.out true s3 w3 HR3.out HG3.out).mono ?_
        rintro e w4 ⟨rfl, hR4, hG4⟩
        have HR4 : Hid (RdrAt w4 p a zs cap s3) := hR4
        have HG4 : Hid (w.grownBy w4 (some p)) := hG4
        clear hR4 hG4
        go_wp2
        rw [← HQQ.out]
        simp only [Exit.jump]
        go_ret
        exact ⟨z, s3, rfl, HBT.out.2, HR4.out, HBT.out.1, HG4.out⟩
      · have qF : ((F : Int) == (k : Int)) = false := by simp; omega
        have HBT : Hid (BendR st none z ∧ rngZ z) := by have h := HBE.out; rw [if_neg hF] at h; exact h
        clear HBE
        go_wp2_with fail
        refine HFO.out.mono ?_
        rintro e w' ⟨rfl, rfl⟩
        go_wp2_with fail
        refine (HM.out false s3 w3 HR3.out HG3.out).mono ?_
        rintro e w4 ⟨rfl, hR4, hG4⟩
        have HR4 : Hid (RdrAt w4 p a zs cap none) := hR4
        have HG4 : Hid (w.grownBy w4 (some p)) := hG4
        clear hR4 hG4
        go_wp2
        rw [← HQQ.out]
        simp only [Exit.jump]
        go_ret
        exact ⟨z, none, rfl, HBT.out.2, HR4.out, HBT.out.1, HG4.out⟩
  · intro go_on
    go_wp2
    go_step3
    refine ‹∀ (a : Act) (w : World), Code.wp Tryd.prog _ _ a w → _› _ _ (go_on _ _ ?_)
    exact ⟨0, st, _, _, _, _, _, _, _, _, _, _, _, _, _, _, _, _, _, _, _, _, _, _, _, _, _, _, _, rfl, by omega, H0.out, by cases st with | none => exact .inl ⟨rfl, rfl⟩ | some l => exact .inr ⟨l, l, rfl, rfl, rfl⟩, World.grownBy.refl _ _⟩
end Go.Proofs.YteahhkpbjkcmhaaDoor
