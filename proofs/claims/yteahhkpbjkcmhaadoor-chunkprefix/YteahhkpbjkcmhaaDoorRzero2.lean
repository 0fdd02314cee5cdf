/- The document's own zero. -/
import Derived.Test.YteahhkpbjkcmhaaDoorRzero
import Derived.Deep.QuietTactic
import Derived.BigQuiet
namespace Go.Proofs.YteahhkpbjkcmhaaDoor
open Go.RowKit
set_option linter.unusedVariables false

def widN (k : Nat) : Nat := if k = 0 then 7 else if k = 1 then 9 else 12
theorem widN_bd (k : Nat) : 0 < widN k ∧ widN k ≤ 64 := by unfold widN; split <;> (try split) <;> omega
theorem widN_dec {k : Nat} (h : k < 3) : (∀ r, decZ (List.replicate (k + 1) true ++ false :: r) = getS (widN k) r) ∧ decZ (List.replicate (k + 1) true) = none := by
  match k, h with
  | 0, _ => exact ⟨fun r => rfl, rfl⟩
  | 1, _ => exact ⟨fun r => rfl, rfl⟩
  | 2, _ => exact ⟨fun r => rfl, rfl⟩
theorem Ones.start {st s1 : Option (List Bool)} {v : Int} (hg : GetR 1 st s1 v) (hv : v ≠ 0) : Ones st 1 s1 := by
  have h0 : Ones st 0 st := by
    cases st with
    | none => exact .inl ⟨rfl, rfl⟩
    | some l => exact .inr ⟨l, l, rfl, rfl, rfl⟩
  exact h0.get hg hv
theorem Ones.first {st s1 : Option (List Bool)} {v : Int} (hg : GetR 1 st s1 v) (hv : v = 0) : GetZR st s1 0 := by
  unfold GetR at hg
  unfold GetZR
  cases st with
  | none => exact hg
  | some l =>
    simp only at hg ⊢
    cases e1 : Go.Proofs.YteahhkpbjkcmhaaDoor.get 1 l with
    | none =>
      rw [e1] at hg
      have hl : l = [] := by
        unfold Go.Proofs.YteahhkpbjkcmhaaDoor.get at e1
        split at e1
        · cases e1
        · exact List.length_eq_zero_iff.1 (by omega)
      rw [hl]
      exact hg.2
    | some q =>
      obtain ⟨u, r⟩ := q
      rw [e1] at hg
      simp only at hg
      rcases get_one e1 with ⟨hu, el⟩ | ⟨hu, _⟩
      · rw [el]; exact ⟨rfl, hg.2⟩
      · exact absurd (hv ▸ hg.1.trans hu) (by decide)
theorem Ones.full {st s2 s3 : Option (List Bool)} {z : Int} (h : Ones st 4 s2) (hs : GetSR 64 s2 s3 z) : GetZR st s3 z := by
  rcases h with ⟨rfl, rfl⟩ | ⟨l, l', rfl, rfl, e⟩
  · exact hs
  · subst e
    exact hs
set_option maxRecDepth 100000 in
set_option maxHeartbeats 2000000 in
theorem r_zero (p : Nat) (a : Option Addr) (zs : List Int) (cap : Nat) (st : Option (List Bool)) (w : World) (h : HeadAt w p a zs cap st) (hr : ∀ w', w.grownBy w' (some p) → Rd w' a zs) (hz : (zs.length : Int) ≤ 140737488351232) :
    Calls Tryd.prog 32 #[.pointer (some ⟨p, 0, none⟩)] w fun e w' => ∃ z st', e = .returned (.int .i64 z) ∧ -9223372036854775808 ≤ z ∧ z ≤ 9223372036854775807 ∧ HeadAt w' p a zs cap st' ∧ GetZR st st' z ∧ w.grownBy w' (some p) := by
  have HG1 : Hid (∀ (st : Option (List Bool)) (w1 : World), HeadAt w1 p a zs cap st → w.grownBy w1 (some p) → Calls Tryd.prog 31 #[.pointer (some ⟨p, 0, none⟩), .int .i64 1] w1 fun e w' => ∃ v st', e = .returned (.int .u64 v) ∧ 0 ≤ v ∧ v < 2 ^ 1 ∧ HeadAt w' p a zs cap st' ∧ GetR 1 st st' v ∧ w1.grownBy w' (some p)) := fun st w1 h hg => r_hget p a zs cap 1 st w1 h (hr w1 hg) hz (by omega)
  have HGS : Hid (∀ (k : Nat) (st : Option (List Bool)) (w1 : World), 0 < k ∧ k ≤ 64 → HeadAt w1 p a zs cap st → w.grownBy w1 (some p) → Calls Tryd.prog 43 #[.pointer (some ⟨p, 0, none⟩), .int .i64 k] w1 fun e w' => ∃ z st', e = .returned (.int .i64 z) ∧ -9223372036854775808 ≤ z ∧ z ≤ 9223372036854775807 ∧ HeadAt w' p a zs cap st' ∧ GetSR k st st' z ∧ w1.grownBy w' (some p)) := fun k st w1 hk h hg => r_signed p a zs cap k st w1 h (hr w1 hg) hz hk.2 hk.1
  have H0 : Hid (HeadAt w p a zs cap st) := h
  clear h hr hz
  go_enter Tryd.func32, Tryd.ntmps32
  go_wp2_with fail
  refine (HG1.out st w H0.out (World.grownBy.refl w _)).mono ?_
  rintro e w1 ⟨v, s1, rfl, hv0, hv1, hh, hgr, hg⟩
  have HH : Hid (HeadAt w1 p a zs cap s1) := hh
  have HGR : Hid (GetR 1 st s1 v) := hgr
  have HG : Hid (w.grownBy w1 (some p)) := hg
  clear hh hgr hg hv1
  by_cases hv : v = 0
  · subst hv
    have HZ : Hid (GetZR st s1 0) := Ones.first HGR.out rfl
    go_wp2
    go_ret
    exact ⟨0, s1, rfl, by omega, by omega, HH.out, HZ.out, HG.out⟩
  · have qv : (v == 0) = false := by simpa using hv
    have HO : Hid (Ones st 1 s1) := Ones.start HGR.out hv
    clear hv HGR hv0
    go_wp2
    obtain ⟨w2, hw2⟩ : ∃ w2, w2 = w1.alloc (.cells #[.int .i64 7, .int .i64 9, .int .i64 12] 3) := ⟨_, rfl⟩
    rw [← hw2]
    have hg12 : w1.grownBy w2 none := by rw [hw2]; exact World.grownBy_alloc w1 _ none
    obtain ⟨n1, b1, hrow1, _, _⟩ := HH.out
    have hp1 : p < w1.heap.size := hrow1.lt
    have HH2 : Hid (HeadAt w2 p a zs cap s1) := HH.out.kept hg12 (by simp)
    have HG2 : Hid (w.grownBy w2 (some p)) := gb_trans HG.out hg12 (fun k hk => by cases hk)
    generalize hq : w1.heap.size = q at hp1 ⊢
    have HC : Hid (∀ (w' : World) (k : Nat), w2.grownBy w' (some p) → k < 3 → w'.cell? ⟨q, k, none⟩ = some (.int .i64 (widN k))) := by
      intro w' k hg hk
      refine hg.cell ?_ (by simp; omega)
      rw [hw2, World.cell?_alloc_at _ _ _ _ hq.symm]
      match k, hk with
      | 0, _ => rfl
      | 1, _ => rfl
      | 2, _ => rfl
    clear hw2 hg12 hrow1 hq HH HG
    go_loopw [4] (fun t4 wr => ∃ (k : Nat) (sk : Option (List Bool)), k ≤ 3 ∧ t4 = .int .i64 k ∧ HeadAt wr p a zs cap sk ∧ Ones st (k + 1) sk ∧ w2.grownBy wr (some p)) (fun t4 _ => 3 - (intOf t4).toNat)
    case atStart => exact ⟨0, s1, by omega, rfl, HH2.out, HO.out, World.grownBy.refl _ _⟩
    case round =>
      obtain ⟨k, sk, hk, rfl, hh, ho, hg⟩ := hrel
      have HHk : Hid (HeadAt wr p a zs cap sk) := hh
      have HOk : Hid (Ones st (k + 1) sk) := ho
      have HGk : Hid (w2.grownBy wr (some p)) := hg
      have HGw : Hid (w.grownBy wr (some p)) := gb_trans HG2.out hg (fun k hk => .inr hk)
      clear hh ho hg HH2 HO
      by_cases hlt : k < 3
      · have hki : (k : Int) < 3 := by omega
        go_wp2_with fail
        refine (HG1.out sk wr HHk.out HGw.out).mono ?_
        rintro e w3 ⟨v3, s3, rfl, hv0, hv1, hh, hgr, hg⟩
        have HH3 : Hid (HeadAt w3 p a zs cap s3) := hh
        have HGR3 : Hid (GetR 1 sk s3 v3) := hgr
        have HG3 : Hid (w2.grownBy w3 (some p)) := gb_trans HGk.out hg (fun k hk => .inr hk)
        have HGw3 : Hid (w.grownBy w3 (some p)) := gb_trans HGw.out hg (fun k hk => .inr hk)
        clear hh hgr hg hv0 hv1
        by_cases hv3 : v3 = 0
        · subst hv3
          have hc := HC.out w3 k HG3.out hlt
          have HW : Hid (0 < widN k ∧ widN k ≤ 64) := widN_bd k
          have HD : Hid ((∀ r, decZ (List.replicate (k + 1) true ++ false :: r) = getS (widN k) r) ∧ decZ (List.replicate (k + 1) true) = none) := widN_dec hlt
          go_wp2_with fail
          refine (HGS.out (widN k) s3 w3 HW.out HH3.out HGw3.out).mono ?_
          rintro e w4 ⟨z, s4, rfl, hz0, hz1, hh, hgs, hg⟩
          have HF : Hid (HeadAt w4 p a zs cap s4 ∧ GetZR st s4 z ∧ w.grownBy w4 (some p)) := ⟨hh, HOk.out.stop HGR3.out rfl hgs HD.out.1 HD.out.2, gb_trans HGw3.out hg (fun k hk => .inr hk)⟩
          clear hh hgs hg
          go_wp2
          go_ret
          exact ⟨z, s4, rfl, hz0, hz1, HF.out.1, HF.out.2.1, HF.out.2.2⟩
        · have qv3 : (v3 == 0) = false := by simpa using hv3
          have HO3 : Hid (Ones st (k + 1 + 1) s3) := HOk.out.get HGR3.out hv3
          clear hv3
          go_wp2
          go_roundw
          case rel => exact ⟨k + 1, s3, by omega, by go_num, HH3.out, HO3.out, HG3.out⟩
          case measure => simp [intOf]; omega
      · have hk3 : k = 3 := by omega
        subst hk3
        go_wp2_with fail
        refine (HGS.out 64 sk wr (by omega) HHk.out HGw.out).mono ?_
        rintro e w4 ⟨z, s4, rfl, hz0, hz1, hh, hgs, hg⟩
        have HF : Hid (HeadAt w4 p a zs cap s4 ∧ GetZR st s4 z ∧ w.grownBy w4 (some p)) := ⟨hh, HOk.out.full hgs, gb_trans HGw.out hg (fun k hk => .inr hk)⟩
        clear hh hgs hg
        go_wp2
        go_ret
        exact ⟨z, s4, rfl, hz0, hz1, HF.out.1, HF.out.2.1, HF.out.2.2⟩
end Go.Proofs.YteahhkpbjkcmhaaDoor
