/- The document's own step and edges. -/
import Derived.Test.YteahhkpbjkcmhaaDoorRtape
import Derived.Test.YteahhkpbjkcmhaaDoorMh
namespace Go.Proofs.YteahhkpbjkcmhaaDoor
open Go.RowKit
set_option linter.unusedVariables false

theorem bitsI_mod (k : Nat) (v : Int) : bitsI k (v % 2 ^ k) = bitsI k v := by
  have h := bits_val (bitsI k v)
  rw [bitsI_len, valI_bits] at h
  exact h
theorem and_mask64 (v : Int) (k : Nat) (hv : 0 ≤ v ∧ v ≤ 18446744073709551615) (hk : k ≤ 64) : bits .and .u64 v ((2 ^ k - 1 : Nat) : Int) = v % ((2 ^ k : Nat) : Int) := by
  have e : v = ((v.toNat : Nat) : Int) := by omega
  have hp : 2 ^ k ≤ 2 ^ 64 := Nat.pow_le_pow_right (by decide) hk
  rw [e, u64_and_nat _ _ (by omega) (by omega), Nat.and_two_pow_sub_one_eq_mod]
  omega
theorem bits_low (k : Nat) (z : Int) (hk : k ≤ 64) : bitsI k (bits .and .u64 (z % 18446744073709551616) ((2 ^ k - 1 : Nat) : Int)) = bitsI k z := by
  rw [and_mask64 _ k ⟨Int.emod_nonneg _ (by decide), by omega⟩ hk]
  have e : ((2 ^ k : Nat) : Int) = 2 ^ k := by simp
  have hd : (2 ^ k : Int) ∣ 18446744073709551616 := ⟨2 ^ (64 - k), by rw [← Int.pow_add, show k + (64 - k) = 64 by omega]; rfl⟩
  rw [e, Int.emod_emod_of_dvd _ hd, bitsI_mod]
theorem bits_whole (z : Int) : bitsI 64 (z % 18446744073709551616) = bitsI 64 z := bitsI_mod 64 z
theorem and_bd (v m : Int) (hv : 0 ≤ v ∧ v ≤ 18446744073709551615) (hm : 0 ≤ m ∧ m ≤ 18446744073709551615) : 0 ≤ bits .and .u64 v m ∧ bits .and .u64 v m ≤ 18446744073709551615 := by
  have e : v = ((v.toNat : Nat) : Int) := by omega
  have e2 : m = ((m.toNat : Nat) : Int) := by omega
  rw [e, e2, u64_and_nat _ _ (by omega) (by omega)]
  have := Nat.and_le_left (n := v.toNat) (m := m.toNat)
  omega
theorem wrap_is (z : Int) : IntKind.u64.wrap z = z % 18446744073709551616 := by rw [IntKind.wrap_u64]
theorem tapeAs {w : World} {base p : Nat} {l l' : List Bool} (h : TapeIs w base p l) (e : l = l') : TapeIs w base p l' := e ▸ h
set_option maxHeartbeats 2000000 in
theorem step0 (base p : Nat) (l : List Bool) (z : Int) (w : World) (h : TapeIs w base p l) (hl : l.length ≤ 1099511627700) (hb : base ≤ w.heap.size) (h0 : z = 0) :
    Calls Tryd.prog 27 #[.pointer (some ⟨p, 0, none⟩), .int .i64 z] w fun e w' => e = .returned (.tuple #[]) ∧ TapeIs w' base p (l ++ [false]) ∧ w.Since base w' := by
  have HP : Hid (∀ (l : List Bool) (v : Int) (k : Nat) (w : World), TapeIs w base p l → 0 ≤ v ∧ v ≤ 18446744073709551615 → k ≤ 64 → l.length ≤ 1099511627776 → base ≤ w.heap.size → Calls Tryd.prog 26 #[.pointer (some ⟨p, 0, none⟩), .int .u64 v, .int .i64 k] w fun e w' => e = .returned (.tuple #[]) ∧ TapeIs w' base p (l ++ bitsI k v) ∧ w.Since base w') := fun l v k w h hv hk hl hb => r_put base p l v k w h hv hk hl hb
  have H0 : Hid (TapeIs w base p l) := h
  clear h
  subst h0
  go_enter Tryd.func27, Tryd.ntmps27
  go_wp2_with fail
  refine (HP.out l 0 1 w H0.out (by omega) (by omega) (by omega) hb).mono ?_
  rintro e w1 ⟨rfl, ht, hs⟩
  have HT : Hid (TapeIs w1 base p (l ++ [false])) := ht
  have HS : Hid (w.Since base w1) := hs
  clear ht hs
  go_wp2
  go_end0
  exact ⟨rfl, HT.out, HS.out⟩
set_option maxHeartbeats 2000000 in
theorem step1 (base p : Nat) (l : List Bool) (z : Int) (w : World) (h : TapeIs w base p l) (hl : l.length ≤ 1099511627700) (hb : base ≤ w.heap.size) (h0 : z ≠ 0) (h1 : -64 ≤ z ∧ z ≤ 63) :
    Calls Tryd.prog 27 #[.pointer (some ⟨p, 0, none⟩), .int .i64 z] w fun e w' => e = .returned (.tuple #[]) ∧ TapeIs w' base p (l ++ ([true, false] ++ bitsI 7 z)) ∧ w.Since base w' := by
  have HP : Hid (∀ (l : List Bool) (v : Int) (k : Nat) (w : World), TapeIs w base p l → 0 ≤ v ∧ v ≤ 18446744073709551615 → k ≤ 64 → l.length ≤ 1099511627776 → base ≤ w.heap.size → Calls Tryd.prog 26 #[.pointer (some ⟨p, 0, none⟩), .int .u64 v, .int .i64 k] w fun e w' => e = .returned (.tuple #[]) ∧ TapeIs w' base p (l ++ bitsI k v) ∧ w.Since base w') := fun l v k w h hv hk hl hb => r_put base p l v k w h hv hk hl hb
  have H0 : Hid (TapeIs w base p l) := h
  clear h
  have q0 : (z == 0) = false := by simpa using h0
  have qa : decide (-64 ≤ z) = true := by simpa using h1.1
  have qb : decide (z ≤ 63) = true := by simpa using h1.2
  have HL : Hid (bitsI 7 (bits .and .u64 (IntKind.u64.wrap z) 127) = bitsI 7 z) := by show _ = _; rw [wrap_is]; exact bits_low 7 z (by omega)
  have HBD : Hid (0 ≤ bits .and .u64 (IntKind.u64.wrap z) 127 ∧ bits .and .u64 (IntKind.u64.wrap z) 127 ≤ 18446744073709551615) := and_bd _ _ (by rw [wrap_is]; omega) (by omega)
  clear h0 h1
  go_enter Tryd.func27, Tryd.ntmps27
  go_wp2_with fail
  refine (HP.out l 2 2 w H0.out (by omega) (by omega) (by omega) hb).mono ?_
  rintro e w1 ⟨rfl, ht, hs⟩
  have HT : Hid (TapeIs w1 base p (l ++ [true, false])) := ht
  have HS : Hid (w.Since base w1) := hs
  clear ht hs
  go_wp2_with fail
  refine (HP.out (l ++ [true, false]) _ 7 w1 HT.out HBD.out (by omega) (by simp; omega) (Nat.le_trans hb HS.out.size)).mono ?_
  rintro e w2 ⟨rfl, ht, hs⟩
  have HT2 : Hid (TapeIs w2 base p (l ++ ([true, false] ++ bitsI 7 z))) := by have h := ht; rw [HL.out, List.append_assoc] at h; exact h
  have HS2 : Hid (w.Since base w2) := HS.out.trans hs
  clear ht hs
  go_wp2
  go_end0
  exact ⟨rfl, HT2.out, HS2.out⟩
set_option maxHeartbeats 2000000 in
theorem step2 (base p : Nat) (l : List Bool) (z : Int) (w : World) (h : TapeIs w base p l) (hl : l.length ≤ 1099511627700) (hb : base ≤ w.heap.size) (h0 : z ≠ 0) (n0 : ¬ (-64 ≤ z ∧ z ≤ 63)) (h1 : -256 ≤ z ∧ z ≤ 255) :
    Calls Tryd.prog 27 #[.pointer (some ⟨p, 0, none⟩), .int .i64 z] w fun e w' => e = .returned (.tuple #[]) ∧ TapeIs w' base p (l ++ ([true, true, false] ++ bitsI 9 z)) ∧ w.Since base w' := by
  have HP : Hid (∀ (l : List Bool) (v : Int) (k : Nat) (w : World), TapeIs w base p l → 0 ≤ v ∧ v ≤ 18446744073709551615 → k ≤ 64 → l.length ≤ 1099511627776 → base ≤ w.heap.size → Calls Tryd.prog 26 #[.pointer (some ⟨p, 0, none⟩), .int .u64 v, .int .i64 k] w fun e w' => e = .returned (.tuple #[]) ∧ TapeIs w' base p (l ++ bitsI k v) ∧ w.Since base w') := fun l v k w h hv hk hl hb => r_put base p l v k w h hv hk hl hb
  have H0 : Hid (TapeIs w base p l) := h
  clear h
  have q0 : (z == 0) = false := by simpa using h0
  have qa : decide (-256 ≤ z) = true := by simpa using h1.1
  have qb : decide (z ≤ 255) = true := by simpa using h1.2
  by_cases hn : z < 0
  · have r0 : decide (-64 ≤ z) = false := by simp; omega
    have HL : Hid (bitsI 9 (bits .and .u64 (IntKind.u64.wrap z) 511) = bitsI 9 z) := by show _ = _; rw [wrap_is]; exact bits_low 9 z (by omega)
    have HBD : Hid (0 ≤ bits .and .u64 (IntKind.u64.wrap z) 511 ∧ bits .and .u64 (IntKind.u64.wrap z) 511 ≤ 18446744073709551615) := and_bd _ _ (by rw [wrap_is]; omega) (by omega)
    clear h0 n0 h1 hn
    go_enter Tryd.func27, Tryd.ntmps27
    go_wp2_with fail
    refine (HP.out l 6 3 w H0.out (by omega) (by omega) (by omega) hb).mono ?_
    rintro e w1 ⟨rfl, ht, hs⟩
    have HT : Hid (TapeIs w1 base p (l ++ [true, true, false])) := ht
    have HS : Hid (w.Since base w1) := hs
    clear ht hs
    go_wp2_with fail
    refine (HP.out (l ++ [true, true, false]) _ 9 w1 HT.out HBD.out (by omega) (by simp; omega) (Nat.le_trans hb HS.out.size)).mono ?_
    rintro e w2 ⟨rfl, ht, hs⟩
    have HT2 : Hid (TapeIs w2 base p (l ++ ([true, true, false] ++ bitsI 9 z))) := by have h := ht; rw [HL.out, List.append_assoc] at h; exact h
    have HS2 : Hid (w.Since base w2) := HS.out.trans hs
    clear ht hs
    go_wp2
    go_end0
    exact ⟨rfl, HT2.out, HS2.out⟩
  · have r0 : decide (-64 ≤ z) = true := by simp; omega
    have s0 : decide (z ≤ 63) = false := by simp; omega
    have HL : Hid (bitsI 9 (bits .and .u64 (IntKind.u64.wrap z) 511) = bitsI 9 z) := by show _ = _; rw [wrap_is]; exact bits_low 9 z (by omega)
    have HBD : Hid (0 ≤ bits .and .u64 (IntKind.u64.wrap z) 511 ∧ bits .and .u64 (IntKind.u64.wrap z) 511 ≤ 18446744073709551615) := and_bd _ _ (by rw [wrap_is]; omega) (by omega)
    clear h0 n0 h1 hn
    go_enter Tryd.func27, Tryd.ntmps27
    go_wp2_with fail
    refine (HP.out l 6 3 w H0.out (by omega) (by omega) (by omega) hb).mono ?_
    rintro e w1 ⟨rfl, ht, hs⟩
    have HT : Hid (TapeIs w1 base p (l ++ [true, true, false])) := ht
    have HS : Hid (w.Since base w1) := hs
    clear ht hs
    go_wp2_with fail
    refine (HP.out (l ++ [true, true, false]) _ 9 w1 HT.out HBD.out (by omega) (by simp; omega) (Nat.le_trans hb HS.out.size)).mono ?_
    rintro e w2 ⟨rfl, ht, hs⟩
    have HT2 : Hid (TapeIs w2 base p (l ++ ([true, true, false] ++ bitsI 9 z))) := by have h := ht; rw [HL.out, List.append_assoc] at h; exact h
    have HS2 : Hid (w.Since base w2) := HS.out.trans hs
    clear ht hs
    go_wp2
    go_end0
    exact ⟨rfl, HT2.out, HS2.out⟩
set_option maxHeartbeats 2000000 in
theorem step3 (base p : Nat) (l : List Bool) (z : Int) (w : World) (h : TapeIs w base p l) (hl : l.length ≤ 1099511627700) (hb : base ≤ w.heap.size) (h0 : z ≠ 0) (n0 : ¬ (-64 ≤ z ∧ z ≤ 63)) (n1 : ¬ (-256 ≤ z ∧ z ≤ 255)) (h1 : -2048 ≤ z ∧ z ≤ 2047) :
    Calls Tryd.prog 27 #[.pointer (some ⟨p, 0, none⟩), .int .i64 z] w fun e w' => e = .returned (.tuple #[]) ∧ TapeIs w' base p (l ++ ([true, true, true, false] ++ bitsI 12 z)) ∧ w.Since base w' := by
  have HP : Hid (∀ (l : List Bool) (v : Int) (k : Nat) (w : World), TapeIs w base p l → 0 ≤ v ∧ v ≤ 18446744073709551615 → k ≤ 64 → l.length ≤ 1099511627776 → base ≤ w.heap.size → Calls Tryd.prog 26 #[.pointer (some ⟨p, 0, none⟩), .int .u64 v, .int .i64 k] w fun e w' => e = .returned (.tuple #[]) ∧ TapeIs w' base p (l ++ bitsI k v) ∧ w.Since base w') := fun l v k w h hv hk hl hb => r_put base p l v k w h hv hk hl hb
  have H0 : Hid (TapeIs w base p l) := h
  clear h
  have q0 : (z == 0) = false := by simpa using h0
  have qa : decide (-2048 ≤ z) = true := by simpa using h1.1
  have qb : decide (z ≤ 2047) = true := by simpa using h1.2
  by_cases hn : z < 0
  · have r0 : decide (-64 ≤ z) = false := by simp; omega
    have r1 : decide (-256 ≤ z) = false := by simp; omega
    have HL : Hid (bitsI 12 (bits .and .u64 (IntKind.u64.wrap z) 4095) = bitsI 12 z) := by show _ = _; rw [wrap_is]; exact bits_low 12 z (by omega)
    have HBD : Hid (0 ≤ bits .and .u64 (IntKind.u64.wrap z) 4095 ∧ bits .and .u64 (IntKind.u64.wrap z) 4095 ≤ 18446744073709551615) := and_bd _ _ (by rw [wrap_is]; omega) (by omega)
    clear h0 n0 n1 h1 hn
    go_enter Tryd.func27, Tryd.ntmps27
    go_wp2_with fail
    refine (HP.out l 14 4 w H0.out (by omega) (by omega) (by omega) hb).mono ?_
    rintro e w1 ⟨rfl, ht, hs⟩
    have HT : Hid (TapeIs w1 base p (l ++ [true, true, true, false])) := ht
    have HS : Hid (w.Since base w1) := hs
    clear ht hs
    go_wp2_with fail
    refine (HP.out (l ++ [true, true, true, false]) _ 12 w1 HT.out HBD.out (by omega) (by simp; omega) (Nat.le_trans hb HS.out.size)).mono ?_
    rintro e w2 ⟨rfl, ht, hs⟩
    have HT2 : Hid (TapeIs w2 base p (l ++ ([true, true, true, false] ++ bitsI 12 z))) := by have h := ht; rw [HL.out, List.append_assoc] at h; exact h
    have HS2 : Hid (w.Since base w2) := HS.out.trans hs
    clear ht hs
    go_wp2
    go_end0
    exact ⟨rfl, HT2.out, HS2.out⟩
  · have r0 : decide (-64 ≤ z) = true := by simp; omega
    have s0 : decide (z ≤ 63) = false := by simp; omega
    have r1 : decide (-256 ≤ z) = true := by simp; omega
    have s1 : decide (z ≤ 255) = false := by simp; omega
    have HL : Hid (bitsI 12 (bits .and .u64 (IntKind.u64.wrap z) 4095) = bitsI 12 z) := by show _ = _; rw [wrap_is]; exact bits_low 12 z (by omega)
    have HBD : Hid (0 ≤ bits .and .u64 (IntKind.u64.wrap z) 4095 ∧ bits .and .u64 (IntKind.u64.wrap z) 4095 ≤ 18446744073709551615) := and_bd _ _ (by rw [wrap_is]; omega) (by omega)
    clear h0 n0 n1 h1 hn
    go_enter Tryd.func27, Tryd.ntmps27
    go_wp2_with fail
    refine (HP.out l 14 4 w H0.out (by omega) (by omega) (by omega) hb).mono ?_
    rintro e w1 ⟨rfl, ht, hs⟩
    have HT : Hid (TapeIs w1 base p (l ++ [true, true, true, false])) := ht
    have HS : Hid (w.Since base w1) := hs
    clear ht hs
    go_wp2_with fail
    refine (HP.out (l ++ [true, true, true, false]) _ 12 w1 HT.out HBD.out (by omega) (by simp; omega) (Nat.le_trans hb HS.out.size)).mono ?_
    rintro e w2 ⟨rfl, ht, hs⟩
    have HT2 : Hid (TapeIs w2 base p (l ++ ([true, true, true, false] ++ bitsI 12 z))) := by have h := ht; rw [HL.out, List.append_assoc] at h; exact h
    have HS2 : Hid (w.Since base w2) := HS.out.trans hs
    clear ht hs
    go_wp2
    go_end0
    exact ⟨rfl, HT2.out, HS2.out⟩
set_option maxHeartbeats 2000000 in
theorem step4 (base p : Nat) (l : List Bool) (z : Int) (w : World) (h : TapeIs w base p l) (hl : l.length ≤ 1099511627700) (hb : base ≤ w.heap.size) (h0 : z ≠ 0) (n0 : ¬ (-64 ≤ z ∧ z ≤ 63)) (n1 : ¬ (-256 ≤ z ∧ z ≤ 255)) (n2 : ¬ (-2048 ≤ z ∧ z ≤ 2047)) :
    Calls Tryd.prog 27 #[.pointer (some ⟨p, 0, none⟩), .int .i64 z] w fun e w' => e = .returned (.tuple #[]) ∧ TapeIs w' base p (l ++ ([true, true, true, true] ++ bitsI 64 z)) ∧ w.Since base w' := by
  have HP : Hid (∀ (l : List Bool) (v : Int) (k : Nat) (w : World), TapeIs w base p l → 0 ≤ v ∧ v ≤ 18446744073709551615 → k ≤ 64 → l.length ≤ 1099511627776 → base ≤ w.heap.size → Calls Tryd.prog 26 #[.pointer (some ⟨p, 0, none⟩), .int .u64 v, .int .i64 k] w fun e w' => e = .returned (.tuple #[]) ∧ TapeIs w' base p (l ++ bitsI k v) ∧ w.Since base w') := fun l v k w h hv hk hl hb => r_put base p l v k w h hv hk hl hb
  have H0 : Hid (TapeIs w base p l) := h
  clear h
  have q0 : (z == 0) = false := by simpa using h0
  by_cases hn : z < 0
  · have r0 : decide (-64 ≤ z) = false := by simp; omega
    have r1 : decide (-256 ≤ z) = false := by simp; omega
    have r2 : decide (-2048 ≤ z) = false := by simp; omega
    have HL : Hid (bitsI 64 (IntKind.u64.wrap z) = bitsI 64 z) := by show _ = _; rw [wrap_is]; exact bits_whole z
    have HBD : Hid (0 ≤ IntKind.u64.wrap z ∧ IntKind.u64.wrap z ≤ 18446744073709551615) := by show _ ∧ _; rw [wrap_is]; omega
    clear h0 n0 n1 n2 hn
    go_enter Tryd.func27, Tryd.ntmps27
    go_wp2_with fail
    refine (HP.out l 15 4 w H0.out (by omega) (by omega) (by omega) hb).mono ?_
    rintro e w1 ⟨rfl, ht, hs⟩
    have HT : Hid (TapeIs w1 base p (l ++ [true, true, true, true])) := ht
    have HS : Hid (w.Since base w1) := hs
    clear ht hs
    go_wp2_with fail
    refine (HP.out (l ++ [true, true, true, true]) _ 64 w1 HT.out HBD.out (by omega) (by simp; omega) (Nat.le_trans hb HS.out.size)).mono ?_
    rintro e w2 ⟨rfl, ht, hs⟩
    have HT2 : Hid (TapeIs w2 base p (l ++ ([true, true, true, true] ++ bitsI 64 z))) := by have h := ht; rw [HL.out, List.append_assoc] at h; exact h
    have HS2 : Hid (w.Since base w2) := HS.out.trans hs
    clear ht hs
    go_wp2
    go_end0
    exact ⟨rfl, HT2.out, HS2.out⟩
  · have r0 : decide (-64 ≤ z) = true := by simp; omega
    have s0 : decide (z ≤ 63) = false := by simp; omega
    have r1 : decide (-256 ≤ z) = true := by simp; omega
    have s1 : decide (z ≤ 255) = false := by simp; omega
    have r2 : decide (-2048 ≤ z) = true := by simp; omega
    have s2 : decide (z ≤ 2047) = false := by simp; omega
    have HL : Hid (bitsI 64 (IntKind.u64.wrap z) = bitsI 64 z) := by show _ = _; rw [wrap_is]; exact bits_whole z
    have HBD : Hid (0 ≤ IntKind.u64.wrap z ∧ IntKind.u64.wrap z ≤ 18446744073709551615) := by show _ ∧ _; rw [wrap_is]; omega
    clear h0 n0 n1 n2 hn
    go_enter Tryd.func27, Tryd.ntmps27
    go_wp2_with fail
    refine (HP.out l 15 4 w H0.out (by omega) (by omega) (by omega) hb).mono ?_
    rintro e w1 ⟨rfl, ht, hs⟩
    have HT : Hid (TapeIs w1 base p (l ++ [true, true, true, true])) := ht
    have HS : Hid (w.Since base w1) := hs
    clear ht hs
    go_wp2_with fail
    refine (HP.out (l ++ [true, true, true, true]) _ 64 w1 HT.out HBD.out (by omega) (by simp; omega) (Nat.le_trans hb HS.out.size)).mono ?_
    rintro e w2 ⟨rfl, ht, hs⟩
    have HT2 : Hid (TapeIs w2 base p (l ++ ([true, true, true, true] ++ bitsI 64 z))) := by have h := ht; rw [HL.out, List.append_assoc] at h; exact h
    have HS2 : Hid (w.Since base w2) := HS.out.trans hs
    clear ht hs
    go_wp2
    go_end0
    exact ⟨rfl, HT2.out, HS2.out⟩
theorem r_step (base p : Nat) (l : List Bool) (z : Int) (w : World) (h : TapeIs w base p l) (hl : l.length ≤ 1099511627700) (hb : base ≤ w.heap.size) :
    Calls Tryd.prog 27 #[.pointer (some ⟨p, 0, none⟩), .int .i64 z] w fun e w' => e = .returned (.tuple #[]) ∧ TapeIs w' base p (l ++ encZ z) ∧ w.Since base w' := by
  unfold encZ
  by_cases h0 : z = 0
  · rw [if_pos h0]; exact step0 base p l z w h hl hb h0
  · rw [if_neg h0]
    by_cases h1 : -64 ≤ z ∧ z ≤ 63
    · rw [if_pos h1]; exact step1 base p l z w h hl hb h0 h1
    · rw [if_neg h1]
      by_cases h2 : -256 ≤ z ∧ z ≤ 255
      · rw [if_pos h2]; exact step2 base p l z w h hl hb h0 h1 h2
      · rw [if_neg h2]
        by_cases h3 : -2048 ≤ z ∧ z ≤ 2047
        · rw [if_pos h3]; exact step3 base p l z w h hl hb h0 h1 h2 h3
        · rw [if_neg h3]; exact step4 base p l z w h hl hb h0 h1 h2 h3
end Go.Proofs.YteahhkpbjkcmhaaDoor
