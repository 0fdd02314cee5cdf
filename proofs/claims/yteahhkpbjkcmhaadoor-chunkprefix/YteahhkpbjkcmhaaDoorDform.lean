/- Package chunk: the form of a bend; the window of a change. -/
import Derived.Test.YteahhkpbjkcmhaaDoorDsm
namespace Go.Proofs.YteahhkpbjkcmhaaDoor
open Go.RowKit
set_option linter.unusedVariables false

/-- The marks of the forms, as numbers. -/
def markN : Nat → Nat
  | 0 => 0 | 1 => 2 | 2 => 6 | 3 => 14 | _ => 15
def markB : Nat → Nat
  | 0 => 1 | 1 => 2 | 2 => 3 | 3 => 4 | _ => 4
theorem mark_bits (k : Nat) (hk : k ≤ 4) : bitsI (markB k) (markN k) = markL k := by
  match k, hk with
  | 0, _ => rfl
  | 1, _ => rfl
  | 2, _ => rfl
  | 3, _ => rfl
  | 4, _ => rfl
/-- The table of the forms lies where the program has it. -/
def Bf (w : World) : Prop := 0 < w.heap.size ∧ ∀ k, k ≤ 4 → w.cell? ⟨0, k * 3, none⟩ = some (.int .u64 (markN k)) ∧ w.cell? ⟨0, k * 3 + 1, none⟩ = some (.int .i64 (markB k)) ∧ w.cell? ⟨0, k * 3 + 2, none⟩ = some (.int .i64 (bitsN k))
theorem Bf.grown {w w' : World} {row : Option Nat} (h : Bf w) (hg : w.grownBy w' row) (hr : row ≠ some 0) : Bf w' :=
  ⟨Nat.lt_of_lt_of_le h.1 hg.size, fun k hk => ⟨hg.cell (h.2 k hk).1 (fun e => hr e.symm), hg.cell (h.2 k hk).2.1 (fun e => hr e.symm), hg.cell (h.2 k hk).2.2 (fun e => hr e.symm)⟩⟩
theorem form_fit (k : Nat) (hk : k ≤ 4) (z : Int) (hz : rngZ z) : sg k (IntKind.u64.wrap z) = z ↔ formN z ≤ k := by
  obtain ⟨h0, h1⟩ := hz
  rw [wrap_is]
  unfold sg sgn formN
  match k, hk with
  | 0, _ => simp only [bitsN]; simp; constructor <;> (intro h; (repeat' split at *) <;> omega)
  | 1, _ => simp only [bitsN]; simp; constructor <;> (intro h; (repeat' split at *) <;> omega)
  | 2, _ => simp only [bitsN]; simp; constructor <;> (intro h; (repeat' split at *) <;> omega)
  | 3, _ => simp only [bitsN]; simp; constructor <;> (intro h; (repeat' split at *) <;> omega)
  | 4, _ => simp only [bitsN]; simp; constructor <;> (intro h; (repeat' split at *) <;> omega)
theorem wrap_u_bd (z : Int) : 0 ≤ IntKind.u64.wrap z ∧ IntKind.u64.wrap z ≤ 18446744073709551615 := by rw [wrap_is]; omega
set_option maxHeartbeats 1000000 in
theorem d_formOf (z : Int) (w : World) (hz : rngZ z) (hb : Bf w) :
    Calls Tryd.prog 52 #[.int .i64 z] w fun e w' => e = .returned (.int .i64 (formN z)) ∧ w = w' := by
  have HZ : Hid (rngZ z) := hz
  have HB : Hid (Bf w) := hb
  clear hz hb
  go_enter Tryd.func52, Tryd.ntmps52
  go_wp2
  refine wp_scope_from 0 (fun a' w' => w = w' ∧ ∃ (k : Nat) (u4 u5 u6 u7 u8 u9 u10 u11 u12 u13 u14 u15 : Value), a' = { tmps := #[.int .i64 z, undef, .int .i64 0, .int .i64 k, u4, u5, u6, u7, u8, u9, u10, u11, u12, u13, u14, u15], defers := [] } ∧ k ≤ formN z) (fun a' _ => 5 - (intOf (a'.tmps.getD 3 undef)).toNat) rfl ?_ ?_
  · rintro a' w' ⟨rfl, k, u4, u5, u6, u7, u8, u9, u10, u11, u12, u13, u14, u15, rfl, hk⟩
    go_hide hQ
    have HQQ : Hid (_ = _) := hQ
    clear hQ
    have hk4 : k ≤ 4 := Nat.le_trans hk (formN_le z)
    have hki : (k : Int) < 5 := by omega
    have c2 : w.cell? ⟨0, k * 3 + 2, none⟩ = some (.int .i64 (bitsN k)) := (HB.out.2 k hk4).2.2
    have hfit := form_fit k hk4 z HZ.out
    have HS : Hid (Calls Tryd.prog 57 #[.int .u64 (IntKind.u64.wrap z), .int .i64 (bitsN k)] w fun e w' => e = .returned (.int .i64 (sg k (IntKind.u64.wrap z))) ∧ w = w') := d_signed k hk4 _ w (wrap_u_bd z).1 (wrap_u_bd z).2
    generalize sg k (IntKind.u64.wrap z) = S at HS hfit
    by_cases hS : S = z
    · have hSb : (S == z) = true := by simpa using hS
      have HF : Hid (k = formN z) := by show _ = _; have := hfit.1 hS; omega
      clear hfit
      go_wp2_with fail
      refine HS.out.mono ?_
      rintro e w' ⟨rfl, rfl⟩
      go_wp2
      rw [← HQQ.out]
      simp only [Exit.jump]
      go_ret
      exact ⟨by rw [HF.out]; rfl, rfl⟩
    · have hSb : (S == z) = false := by simpa using hS
      have HF : Hid (k + 1 ≤ formN z) := by
        show _ ≤ _
        by_cases h : formN z ≤ k
        · exact absurd (hfit.2 h) hS
        · omega
      clear hfit
      go_wp2_with fail
      refine HS.out.mono ?_
      rintro e w' ⟨rfl, rfl⟩
      go_wp2
      go_step3
      rw [← HQQ.out]
      refine ⟨rfl, ⟨rfl, k + 1, _, _, _, _, _, _, _, _, _, _, _, _, rfl, HF.out⟩, ?_⟩
      simp [intOf]
      omega
  · intro go_on
    go_wp2
    go_step3
    refine ‹∀ (a : Act) (w : World), Code.wp Tryd.prog _ _ a w → _› _ _ (go_on _ _ ?_)
    exact ⟨rfl, 0, _, _, _, _, _, _, _, _, _, _, _, _, rfl, Nat.zero_le _⟩
end Go.Proofs.YteahhkpbjkcmhaaDoor
