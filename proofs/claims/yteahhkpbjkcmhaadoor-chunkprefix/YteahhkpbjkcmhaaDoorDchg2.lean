/- Package chunk: the reader: a change in a window. -/
import Derived.Test.YteahhkpbjkcmhaaDoorDbend
import Derived.Test.YteahhkpbjkcmhaaDoorDwin
import Derived.Deep.RegionWith
import Derived.Deep.CutRange
namespace Go.Proofs.YteahhkpbjkcmhaaDoor
open Go.RowKit
set_option linter.unusedVariables false

theorem shl_fit {u : Int} {A B : Nat} (h0 : 0 ≤ u) (h1 : u < 2 ^ (64 - A - B)) (h : A + B ≤ 64) : 0 ≤ u * 2 ^ B ∧ u * 2 ^ B < 18446744073709551616 := by
  have hp := pow2_pos B
  have e : (2 : Int) ^ (64 - A) = 2 ^ (64 - A - B) * 2 ^ B := by rw [← Int.pow_add]; congr 1; omega
  have h2 := Int.mul_lt_mul_of_pos_right h1 hp
  rw [← e] at h2
  have h3 : (2 : Int) ^ (64 - A) ≤ 2 ^ 64 := pow2_le (by omega)
  have e64 : (2 : Int) ^ 64 = 18446744073709551616 := rfl
  exact ⟨Int.mul_nonneg h0 (Int.le_of_lt hp), by omega⟩
set_option maxHeartbeats 4000000 in
theorem d_takeChange (p : Nat) (a : Option Addr) (zs : List Int) (cap pa pb : Nat) (st : Option (List Bool)) (w : World) (h : RdrAt w p a zs cap st) (hr : ∀ w', w.grownBy w' (some p) → Rd w' a zs) (hz : (zs.length : Int) ≤ 140737488355000) (hab : pa + pb ≤ 64) :
    Calls Tryd.prog 47 #[.pointer (some ⟨p, 0, none⟩), .agg #[.int .i64 pa, .int .i64 pb]] w fun e w' => ∃ (u : Int) (s1 : Option (List Bool)), e = .returned (.int .u64 (u * 2 ^ pb)) ∧ 0 ≤ u ∧ u < 2 ^ (64 - pa - pb) ∧ GetR (64 - pa - pb) st s1 u ∧ RdrAt w' p a zs cap (if u * 2 ^ pb = 0 then none else s1) ∧ w.grownBy w' (some p) := by
  have HT : Hid (∀ (s : Option (List Bool)) (w' : World), RdrAt w' p a zs cap s → w.grownBy w' (some p) → Calls Tryd.prog 44 #[.pointer (some ⟨p, 0, none⟩), .int .i64 ((64 - pa - pb : Nat) : Int)] w' fun e w'' => ∃ v s', e = .returned (.int .u64 v) ∧ Hid (0 ≤ v ∧ v < 2 ^ (64 - pa - pb)) ∧ Hid (RdrAt w'' p a zs cap s') ∧ Hid (GetR (64 - pa - pb) s s' v) ∧ Hid (w'.grownBy w'' (some p))) := by
    intro s w' h' hg
    refine (d_take p a zs cap _ s w' h' (hr w' hg) hz (by omega)).mono ?_
    rintro e w'' ⟨v, s', h1, h2, h3, h4, h5, h6⟩
    exact ⟨v, s', h1, ⟨h2, h3⟩, h4, h5, h6⟩
  have HCW : Hid (∀ w, Calls Tryd.prog 40 #[.agg #[.int .i64 pa, .int .i64 pb]] w fun e w' => e = .returned (.int .i64 ((64 - pa - pb : Nat) : Int)) ∧ w' = w.alloc (.cells #[.int .i64 pa, .int .i64 pb] 64)) := fun w => d_width pa pb w hab
  have hpl : p < w.heap.size := by obtain ⟨n, bad, hrow, _⟩ := h; exact hrow.lt
  have HA : Hid (∀ o, w.grownBy (((w.alloc (.cells #[.int .i64 pa, .int .i64 pb] 64)).alloc o).drew) none) := fun o => gb_drew (gb_trans (World.grownBy_alloc _ _ none) (World.grownBy_alloc _ _ none) (by simp))
  have H0 : Hid (RdrAt w p a zs cap st) := h
  have HPL : Hid (∀ (w' w'' : World), w'.grownBy w'' (some p) → ∀ (o : Nat) (v : Value), w'.cell? ⟨w.heap.size, o, none⟩ = some v → w''.cell? ⟨w.heap.size, o, none⟩ = some v) := fun w' w'' hg o v hc => hg.cell hc (by simp; omega)
  clear h hr
  go_enter Tryd.func47, Tryd.ntmps47
  go_upto_region 1 with fail
  go_cut [5] from 6 to 12 (fun t5 wc => ∃ (u : Int) (s1 : Option (List Bool)), t5 = .int .u64 (u * 2 ^ pb) ∧ Hid (0 ≤ u ∧ u < 2 ^ (64 - pa - pb)) ∧ Hid (RdrAt wc p a zs cap s1) ∧ Hid (GetR (64 - pa - pb) st s1 u) ∧ Hid (w.grownBy wc (some p)))
  case first =>
    go_region_with (first | (go_at_call 40; refine (HCW.out _).mono ?_; rintro e w' ⟨rfl, rfl⟩) | (go_at_call 44; refine (HT.out st _ ?h1 ?h2).mono ?_; (case h1 => exact H0.out.kept (HA.out _) (by simp)); (case h2 => exact gb_any (HA.out _) _); rintro e w3 ⟨u, s1, rfl, HU, HR3, HG3, HW3⟩; have k1 : w3.cell? ⟨w.heap.size, 1, none⟩ = some (.int .i64 (pb : Int)) := HPL.out _ _ HW3.out 1 _ (by simp [go_sem])))
    all_goals go_wp2_with fail
    all_goals go_meet
    all_goals
      obtain ⟨z0, z1⟩ := shl_fit HU.out.1 HU.out.2 hab
      exact ⟨u, s1, by first | rfl | (rw [wrap_u64_id _ ⟨z0, z1⟩]), HU, HR3, HG3, gb_trans (gb_any (HA.out _) _) HW3.out (fun k hk => .inr hk)⟩
  case rest =>
    obtain ⟨u, s1, rfl, HU, HR3, HG3, HW3⟩ := hcut
    have HX : Hid (0 ≤ u ∧ u < 2 ^ (64 - pa - pb)) := HU
    obtain ⟨X, eX⟩ : ∃ X, X = u * 2 ^ pb := ⟨_, rfl⟩
    rw [← eX]
    have EX : Hid (X = u * 2 ^ pb) := eX
    clear eX
    by_cases hX : X = 0
    · have qx : (X != 0) = false := by simp [hX]
      have qx2 : (X == 0) = true := by simp [hX]
      go_wp2_with fail
      refine (d_must p a zs cap false s1 wc HR3.out).mono ?_
      rintro e w4 ⟨rfl, hR4, hG4⟩
      have HR4 : Hid (RdrAt w4 p a zs cap none) := hR4
      have HG4 : Hid (w.grownBy w4 (some p)) := gb_trans HW3.out hG4 (fun k hk => .inr hk)
      clear hR4 hG4
      go_wp2
      go_ret
      exact ⟨u, s1, by rw [← EX.out, hX]; rfl, HU.out.1, HU.out.2, HG3.out, by rw [← EX.out, if_pos hX]; exact HR4.out, HG4.out⟩
    · have qx : (X != 0) = true := by simp [hX]
      have qx2 : (X == 0) = false := by simp [hX]
      go_wp2_with fail
      refine (d_must p a zs cap true s1 wc HR3.out).mono ?_
      rintro e w4 ⟨rfl, hR4, hG4⟩
      have HR4 : Hid (RdrAt w4 p a zs cap s1) := hR4
      have HG4 : Hid (w.grownBy w4 (some p)) := gb_trans HW3.out hG4 (fun k hk => .inr hk)
      clear hR4 hG4
      go_wp2
      go_ret
      exact ⟨u, s1, by rw [← EX.out]; rfl, HU.out.1, HU.out.2, HG3.out, by rw [← EX.out, if_neg hX]; exact HR4.out, HG4.out⟩
end Go.Proofs.YteahhkpbjkcmhaaDoor
