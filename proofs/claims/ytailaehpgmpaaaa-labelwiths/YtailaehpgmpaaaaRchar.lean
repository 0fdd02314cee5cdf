/- The document's own char. -/
import Derived.Test.YtailaehpgmpaaaaRname
namespace Go.Proofs.Ytailaehpgmpaaaa
open Go.RowKit
set_option linter.unusedVariables false

theorem and_mask (b : Int) (k : Nat) (h0 : 0 ≤ b) (h1 : b ≤ 255) (hk : k ≤ 8) : bits .and .u8 b ((2 ^ k - 1 : Nat) : Int) = b % ((2 ^ k : Nat) : Int) := by
  have hp : 2 ^ k ≤ 256 := Nat.pow_le_pow_right (by decide) hk
  rw [u8_and b _ h0 (by omega) (by omega) (by omega), Int.toNat_natCast, Nat.and_two_pow_sub_one_eq_mod]
  obtain ⟨B, rfl⟩ := Int.eq_ofNat_of_zero_le h0
  rw [Int.toNat_natCast, Int.natCast_emod]
theorem and31 (b : Int) (h : 0 ≤ b ∧ b ≤ 255) : bits .and .u8 b 31 = b % 32 := and_mask b 5 h.1 h.2 (by decide)
theorem and15 (b : Int) (h : 0 ≤ b ∧ b ≤ 255) : bits .and .u8 b 15 = b % 16 := and_mask b 4 h.1 h.2 (by decide)
theorem and7 (b : Int) (h : 0 ≤ b ∧ b ≤ 255) : bits .and .u8 b 7 = b % 8 := and_mask b 3 h.1 h.2 (by decide)
theorem and63 (b : Int) (h : 0 ≤ b ∧ b ≤ 255) : bits .and .u8 b 63 = b % 64 := and_mask b 6 h.1 h.2 (by decide)
set_option maxRecDepth 100000 in
theorem and192 (b : Int) (h : 0 ≤ b ∧ b ≤ 255) : bits .and .u8 b 192 = b / 64 * 64 := by
  rw [u8_and b 192 h.1 (by omega) (by decide) (by decide)]
  have key : ∀ V : Fin 256, V.val &&& 192 = V.val / 64 * 64 := by decide
  have := key ⟨b.toNat, by omega⟩
  simp only at this
  rw [show (192 : Int).toNat = 192 from rfl, this]
  omega

def cont (s : ByteArray) (p : Nat) : Nat → Nat → Int → Option Int
  | 0, _, v => some v
  | m + 1, i, v => if byteAt s (p + i) / 64 = 2 then cont s p m (i + 1) (v * 64 + byteAt s (p + i) % 64) else none
def fin (n least v : Int) : Int := if v < least ∨ 1114111 < v ∨ 55296 ≤ v ∧ v ≤ 57343 then 0 else n
def fini (n least : Int) : Option Int → Int
  | none => 0
  | some v => fin n least v
def multi (s : ByteArray) (p n : Nat) (least v : Int) : Int := if s.size < p + n then 0 else fini n least (cont s p (n - 1) 1 v)
def charR (s : ByteArray) (p : Nat) : Int :=
  if byteAt s p < 128 then 1
  else if 192 ≤ byteAt s p ∧ byteAt s p < 224 then multi s p 2 128 (byteAt s p % 32)
  else if 224 ≤ byteAt s p ∧ byteAt s p < 240 then multi s p 3 2048 (byteAt s p % 16)
  else if 240 ≤ byteAt s p ∧ byteAt s p < 248 then multi s p 4 65536 (byteAt s p % 8)
  else 0
def ContAt (s : ByteArray) (p n : Nat) (least : Int) (i : Nat) (v R : Int) : Prop := fini n least (cont s p (n - i) i v) = R
theorem ContAt.next {s : ByteArray} {p n i : Nat} {least v R : Int} (h : ContAt s p n least i v R) (hi : i < n) : (if byteAt s (p + i) / 64 = 2 then fini n least (cont s p (n - (i + 1)) (i + 1) (v * 64 + byteAt s (p + i) % 64)) else 0) = R := by
  unfold ContAt at h
  rw [show n - i = (n - (i + 1)) + 1 by omega, cont] at h
  split at h
  · rw [if_pos (by assumption)]; exact h
  · rw [if_neg (by assumption)]; exact h



set_option maxHeartbeats 2000000 in
theorem char2 (s : ByteArray) (p : Nat) (R : Int) (w : World) (hp : p < s.size) (hs : s.size ≤ 1000000000) (h1 : 192 ≤ byteAt s p ∧ byteAt s p < 224) (hR : multi s p 2 128 (byteAt s p % 32) = R) :
    Calls Try.prog 72 #[.string s, .int .i64 p] w fun e w' => e = .returned (.int .i64 R) ∧ w = w' := by
  have hidx := idx9 s p hp
  have hcb := byteAt_bd s p
  unfold multi at hR
  have hv := and31 (byteAt s p) hcb
  generalize byteAt s p = c at hidx hcb h1 hR hv
  have q1 : decide (c < 128) = false := by simp; omega
  have t0 : decide (192 ≤ c) = true := by simp; omega
  have t1 : decide (c < 224) = true := by simp; omega
  have hpi : (p : Int) < (s.size : Int) := by omega
  by_cases hl : s.size < p + 2
  · rw [if_pos hl] at hR
    subst hR
    have q4 : decide ((s.size : Int) < (p : Int) + 2) = true := by simp; omega
    clear h1 hl
    go_enter Try.func72, Try.ntmps72
    go_wp2
    go_ret
    exact ⟨rfl, rfl⟩
  · rw [if_neg hl] at hR
    have H0 : Hid (ContAt s p 2 128 1 (c % 32) R) := hR
    have q4 : decide ((s.size : Int) < (p : Int) + 2) = false := by simp; omega
    clear h1 hR
    go_enter Try.func72, Try.ntmps72
    go_wp2
    go_loop [8, 9] (fun t8 t9 => ∃ (i : Nat) (v : Int), 1 ≤ i ∧ i ≤ 2 ∧ t9 = .int .i64 i ∧ t8 = .int .i32 v ∧ 0 ≤ v ∧ v < 8388608 ∧ (i ≤ 3 → v < 131072) ∧ (i ≤ 2 → v < 2048) ∧ (i ≤ 1 → v < 32) ∧ ContAt s p 2 128 i v R) (fun _ t9 => 2 - (intOf t9).toNat)
    case atStart => exact ⟨1, c % 32, by omega, by omega, rfl, rfl, by omega, by omega, fun _ => by omega, fun _ => by omega, fun _ => by omega, H0.out⟩
    case round =>
      obtain ⟨i, v, hi1, hi, rfl, rfl, v0, v1, v2, v3, v4, hc⟩ := hrel
      have HC : Hid (ContAt s p 2 128 i v R) := hc
      clear hc H0 hidx hv q1 q4
      by_cases hlt : i < 2
      · have hidx : ∀ w, (Instr.index 9 (.string s) (.int .i64 ((p : Int) + (i : Int)))).run Try.prog w = .ok (.int .u8 (byteAt s (p + i))) w := by
          have h := idx9 s (p + i) (by omega)
          rwa [Int.natCast_add] at h
        have hbb := byteAt_bd s (p + i)
        have hm1 := and192 _ hbb
        have hm2 := and63 _ hbb
        have HN : Hid (_ = R) := HC.out.next hlt
        generalize byteAt s (p + i) = b at hidx hbb hm1 hm2 HN
        have hvv : v < 131072 := v2 (by omega)
        have hor := i32_or6 (x := v * 64) (y := b % 64) (by omega) (by omega) (by omega) (by omega) (by omega)
        have HB : Hid ((i + 1 ≤ 3 → v * 64 + b % 64 < 131072) ∧ (i + 1 ≤ 2 → v * 64 + b % 64 < 2048)) := ⟨fun h => by have := v3 (by omega); omega, fun h => by have := v4 (by omega); omega⟩
        clear v2 v3 v4
        by_cases h2 : b / 64 = 2
        · have q5 : (b / 64 * 64 != 128) = false := by simp; omega
          have HS : Hid (ContAt s p 2 128 (i + 1) (v * 64 + b % 64) R) := by have h := HN.out; rw [if_pos h2] at h; exact h
          clear h2 HN
          go_wp2
          go_round
          case rel => exact ⟨i + 1, v * 64 + b % 64, by omega, by omega, by go_num, by first | rfl | (rw [hor]) | (simp [hor]), by omega, by omega, HB.out.1, HB.out.2, fun h => by omega, HS.out⟩
          case measure => simp [intOf]; omega
        · have q5 : (b / 64 * 64 != 128) = true := by simp; omega
          have HS : Hid ((0 : Int) = R) := by have h := HN.out; rw [if_neg h2] at h; exact h
          clear h2 HN
          go_wp2
          go_ret
          exact ⟨ret_int HS.out, rfl⟩
      · obtain rfl : i = 2 := by omega
        have HF : Hid (fin 2 128 v = R) := by
          have h := HC.out
          unfold ContAt at h
          rw [Nat.sub_self, cont] at h
          exact h
        clear v2 v3 v4 hlt HC
        by_cases hb : v < 128 ∨ 1114111 < v ∨ 55296 ≤ v ∧ v ≤ 57343
        · have HS : Hid ((0 : Int) = R) := by have h := HF.out; unfold fin at h; rw [if_pos hb] at h; exact h
          clear HF
          by_cases b1 : v < 128
          · have r1 : decide (v < 128) = true := by simpa using b1
            clear hb b1
            go_wp2
            go_ret
            exact ⟨ret_int HS.out, rfl⟩
          · have r1 : decide (v < 128) = false := by simpa using b1
            by_cases b2 : 1114111 < v
            · have r2 : decide (1114111 < v) = true := by simpa using b2
              clear hb b1 b2
              go_wp2
              go_ret
              exact ⟨ret_int HS.out, rfl⟩
            · have r2 : decide (1114111 < v) = false := by simpa using b2
              have r3 : decide (55296 ≤ v) = true := by simp; omega
              have r4 : decide (v ≤ 57343) = true := by simp; omega
              clear hb b1 b2
              go_wp2
              go_ret
              exact ⟨ret_int HS.out, rfl⟩
        · have HS : Hid ((2 : Int) = R) := by have h := HF.out; unfold fin at h; rw [if_neg hb] at h; exact h
          clear HF
          have r1 : decide (v < 128) = false := by simp; omega
          have r2 : decide (1114111 < v) = false := by simp; omega
          by_cases b1 : 55296 ≤ v
          · have r3 : decide (55296 ≤ v) = true := by simpa using b1
            have r4 : decide (v ≤ 57343) = false := by simp; omega
            clear hb b1
            go_wp2
            go_ret
            exact ⟨ret_int HS.out, rfl⟩
          · have r3 : decide (55296 ≤ v) = false := by simpa using b1
            clear hb b1
            go_wp2
            go_ret
            exact ⟨ret_int HS.out, rfl⟩

set_option maxHeartbeats 2000000 in
theorem char3 (s : ByteArray) (p : Nat) (R : Int) (w : World) (hp : p < s.size) (hs : s.size ≤ 1000000000) (h1 : 224 ≤ byteAt s p ∧ byteAt s p < 240) (hR : multi s p 3 2048 (byteAt s p % 16) = R) :
    Calls Try.prog 72 #[.string s, .int .i64 p] w fun e w' => e = .returned (.int .i64 R) ∧ w = w' := by
  have hidx := idx9 s p hp
  have hcb := byteAt_bd s p
  unfold multi at hR
  have hv := and15 (byteAt s p) hcb
  generalize byteAt s p = c at hidx hcb h1 hR hv
  have q1 : decide (c < 128) = false := by simp; omega
  have t0 : decide (192 ≤ c) = true := by simp; omega
  have t1 : decide (c < 224) = false := by simp; omega
  have t2 : decide (224 ≤ c) = true := by simp; omega
  have t3 : decide (c < 240) = true := by simp; omega
  have hpi : (p : Int) < (s.size : Int) := by omega
  by_cases hl : s.size < p + 3
  · rw [if_pos hl] at hR
    subst hR
    have q4 : decide ((s.size : Int) < (p : Int) + 3) = true := by simp; omega
    clear h1 hl
    go_enter Try.func72, Try.ntmps72
    go_wp2
    go_ret
    exact ⟨rfl, rfl⟩
  · rw [if_neg hl] at hR
    have H0 : Hid (ContAt s p 3 2048 1 (c % 16) R) := hR
    have q4 : decide ((s.size : Int) < (p : Int) + 3) = false := by simp; omega
    clear h1 hR
    go_enter Try.func72, Try.ntmps72
    go_wp2
    go_loop [8, 9] (fun t8 t9 => ∃ (i : Nat) (v : Int), 1 ≤ i ∧ i ≤ 3 ∧ t9 = .int .i64 i ∧ t8 = .int .i32 v ∧ 0 ≤ v ∧ v < 8388608 ∧ (i ≤ 3 → v < 131072) ∧ (i ≤ 2 → v < 2048) ∧ (i ≤ 1 → v < 32) ∧ ContAt s p 3 2048 i v R) (fun _ t9 => 3 - (intOf t9).toNat)
    case atStart => exact ⟨1, c % 16, by omega, by omega, rfl, rfl, by omega, by omega, fun _ => by omega, fun _ => by omega, fun _ => by omega, H0.out⟩
    case round =>
      obtain ⟨i, v, hi1, hi, rfl, rfl, v0, v1, v2, v3, v4, hc⟩ := hrel
      have HC : Hid (ContAt s p 3 2048 i v R) := hc
      clear hc H0 hidx hv q1 q4
      by_cases hlt : i < 3
      · have hidx : ∀ w, (Instr.index 9 (.string s) (.int .i64 ((p : Int) + (i : Int)))).run Try.prog w = .ok (.int .u8 (byteAt s (p + i))) w := by
          have h := idx9 s (p + i) (by omega)
          rwa [Int.natCast_add] at h
        have hbb := byteAt_bd s (p + i)
        have hm1 := and192 _ hbb
        have hm2 := and63 _ hbb
        have HN : Hid (_ = R) := HC.out.next hlt
        generalize byteAt s (p + i) = b at hidx hbb hm1 hm2 HN
        have hvv : v < 131072 := v2 (by omega)
        have hor := i32_or6 (x := v * 64) (y := b % 64) (by omega) (by omega) (by omega) (by omega) (by omega)
        have HB : Hid ((i + 1 ≤ 3 → v * 64 + b % 64 < 131072) ∧ (i + 1 ≤ 2 → v * 64 + b % 64 < 2048)) := ⟨fun h => by have := v3 (by omega); omega, fun h => by have := v4 (by omega); omega⟩
        clear v2 v3 v4
        by_cases h2 : b / 64 = 2
        · have q5 : (b / 64 * 64 != 128) = false := by simp; omega
          have HS : Hid (ContAt s p 3 2048 (i + 1) (v * 64 + b % 64) R) := by have h := HN.out; rw [if_pos h2] at h; exact h
          clear h2 HN
          go_wp2
          go_round
          case rel => exact ⟨i + 1, v * 64 + b % 64, by omega, by omega, by go_num, by first | rfl | (rw [hor]) | (simp [hor]), by omega, by omega, HB.out.1, HB.out.2, fun h => by omega, HS.out⟩
          case measure => simp [intOf]; omega
        · have q5 : (b / 64 * 64 != 128) = true := by simp; omega
          have HS : Hid ((0 : Int) = R) := by have h := HN.out; rw [if_neg h2] at h; exact h
          clear h2 HN
          go_wp2
          go_ret
          exact ⟨ret_int HS.out, rfl⟩
      · obtain rfl : i = 3 := by omega
        have HF : Hid (fin 3 2048 v = R) := by
          have h := HC.out
          unfold ContAt at h
          rw [Nat.sub_self, cont] at h
          exact h
        clear v2 v3 v4 hlt HC
        by_cases hb : v < 2048 ∨ 1114111 < v ∨ 55296 ≤ v ∧ v ≤ 57343
        · have HS : Hid ((0 : Int) = R) := by have h := HF.out; unfold fin at h; rw [if_pos hb] at h; exact h
          clear HF
          by_cases b1 : v < 2048
          · have r1 : decide (v < 2048) = true := by simpa using b1
            clear hb b1
            go_wp2
            go_ret
            exact ⟨ret_int HS.out, rfl⟩
          · have r1 : decide (v < 2048) = false := by simpa using b1
            by_cases b2 : 1114111 < v
            · have r2 : decide (1114111 < v) = true := by simpa using b2
              clear hb b1 b2
              go_wp2
              go_ret
              exact ⟨ret_int HS.out, rfl⟩
            · have r2 : decide (1114111 < v) = false := by simpa using b2
              have r3 : decide (55296 ≤ v) = true := by simp; omega
              have r4 : decide (v ≤ 57343) = true := by simp; omega
              clear hb b1 b2
              go_wp2
              go_ret
              exact ⟨ret_int HS.out, rfl⟩
        · have HS : Hid ((3 : Int) = R) := by have h := HF.out; unfold fin at h; rw [if_neg hb] at h; exact h
          clear HF
          have r1 : decide (v < 2048) = false := by simp; omega
          have r2 : decide (1114111 < v) = false := by simp; omega
          by_cases b1 : 55296 ≤ v
          · have r3 : decide (55296 ≤ v) = true := by simpa using b1
            have r4 : decide (v ≤ 57343) = false := by simp; omega
            clear hb b1
            go_wp2
            go_ret
            exact ⟨ret_int HS.out, rfl⟩
          · have r3 : decide (55296 ≤ v) = false := by simpa using b1
            clear hb b1
            go_wp2
            go_ret
            exact ⟨ret_int HS.out, rfl⟩

set_option maxHeartbeats 2000000 in
theorem char4 (s : ByteArray) (p : Nat) (R : Int) (w : World) (hp : p < s.size) (hs : s.size ≤ 1000000000) (h1 : 240 ≤ byteAt s p ∧ byteAt s p < 248) (hR : multi s p 4 65536 (byteAt s p % 8) = R) :
    Calls Try.prog 72 #[.string s, .int .i64 p] w fun e w' => e = .returned (.int .i64 R) ∧ w = w' := by
  have hidx := idx9 s p hp
  have hcb := byteAt_bd s p
  unfold multi at hR
  have hv := and7 (byteAt s p) hcb
  generalize byteAt s p = c at hidx hcb h1 hR hv
  have q1 : decide (c < 128) = false := by simp; omega
  have t0 : decide (192 ≤ c) = true := by simp; omega
  have t1 : decide (c < 224) = false := by simp; omega
  have t2 : decide (224 ≤ c) = true := by simp; omega
  have t3 : decide (c < 240) = false := by simp; omega
  have t4 : decide (240 ≤ c) = true := by simp; omega
  have t5 : decide (c < 248) = true := by simp; omega
  have hpi : (p : Int) < (s.size : Int) := by omega
  by_cases hl : s.size < p + 4
  · rw [if_pos hl] at hR
    subst hR
    have q4 : decide ((s.size : Int) < (p : Int) + 4) = true := by simp; omega
    clear h1 hl
    go_enter Try.func72, Try.ntmps72
    go_wp2
    go_ret
    exact ⟨rfl, rfl⟩
  · rw [if_neg hl] at hR
    have H0 : Hid (ContAt s p 4 65536 1 (c % 8) R) := hR
    have q4 : decide ((s.size : Int) < (p : Int) + 4) = false := by simp; omega
    clear h1 hR
    go_enter Try.func72, Try.ntmps72
    go_wp2
    go_loop [8, 9] (fun t8 t9 => ∃ (i : Nat) (v : Int), 1 ≤ i ∧ i ≤ 4 ∧ t9 = .int .i64 i ∧ t8 = .int .i32 v ∧ 0 ≤ v ∧ v < 8388608 ∧ (i ≤ 3 → v < 131072) ∧ (i ≤ 2 → v < 2048) ∧ (i ≤ 1 → v < 32) ∧ ContAt s p 4 65536 i v R) (fun _ t9 => 4 - (intOf t9).toNat)
    case atStart => exact ⟨1, c % 8, by omega, by omega, rfl, rfl, by omega, by omega, fun _ => by omega, fun _ => by omega, fun _ => by omega, H0.out⟩
    case round =>
      obtain ⟨i, v, hi1, hi, rfl, rfl, v0, v1, v2, v3, v4, hc⟩ := hrel
      have HC : Hid (ContAt s p 4 65536 i v R) := hc
      clear hc H0 hidx hv q1 q4
      by_cases hlt : i < 4
      · have hidx : ∀ w, (Instr.index 9 (.string s) (.int .i64 ((p : Int) + (i : Int)))).run Try.prog w = .ok (.int .u8 (byteAt s (p + i))) w := by
          have h := idx9 s (p + i) (by omega)
          rwa [Int.natCast_add] at h
        have hbb := byteAt_bd s (p + i)
        have hm1 := and192 _ hbb
        have hm2 := and63 _ hbb
        have HN : Hid (_ = R) := HC.out.next hlt
        generalize byteAt s (p + i) = b at hidx hbb hm1 hm2 HN
        have hvv : v < 131072 := v2 (by omega)
        have hor := i32_or6 (x := v * 64) (y := b % 64) (by omega) (by omega) (by omega) (by omega) (by omega)
        have HB : Hid ((i + 1 ≤ 3 → v * 64 + b % 64 < 131072) ∧ (i + 1 ≤ 2 → v * 64 + b % 64 < 2048)) := ⟨fun h => by have := v3 (by omega); omega, fun h => by have := v4 (by omega); omega⟩
        clear v2 v3 v4
        by_cases h2 : b / 64 = 2
        · have q5 : (b / 64 * 64 != 128) = false := by simp; omega
          have HS : Hid (ContAt s p 4 65536 (i + 1) (v * 64 + b % 64) R) := by have h := HN.out; rw [if_pos h2] at h; exact h
          clear h2 HN
          go_wp2
          go_round
          case rel => exact ⟨i + 1, v * 64 + b % 64, by omega, by omega, by go_num, by first | rfl | (rw [hor]) | (simp [hor]), by omega, by omega, HB.out.1, HB.out.2, fun h => by omega, HS.out⟩
          case measure => simp [intOf]; omega
        · have q5 : (b / 64 * 64 != 128) = true := by simp; omega
          have HS : Hid ((0 : Int) = R) := by have h := HN.out; rw [if_neg h2] at h; exact h
          clear h2 HN
          go_wp2
          go_ret
          exact ⟨ret_int HS.out, rfl⟩
      · obtain rfl : i = 4 := by omega
        have HF : Hid (fin 4 65536 v = R) := by
          have h := HC.out
          unfold ContAt at h
          rw [Nat.sub_self, cont] at h
          exact h
        clear v2 v3 v4 hlt HC
        by_cases hb : v < 65536 ∨ 1114111 < v ∨ 55296 ≤ v ∧ v ≤ 57343
        · have HS : Hid ((0 : Int) = R) := by have h := HF.out; unfold fin at h; rw [if_pos hb] at h; exact h
          clear HF
          by_cases b1 : v < 65536
          · have r1 : decide (v < 65536) = true := by simpa using b1
            clear hb b1
            go_wp2
            go_ret
            exact ⟨ret_int HS.out, rfl⟩
          · have r1 : decide (v < 65536) = false := by simpa using b1
            by_cases b2 : 1114111 < v
            · have r2 : decide (1114111 < v) = true := by simpa using b2
              clear hb b1 b2
              go_wp2
              go_ret
              exact ⟨ret_int HS.out, rfl⟩
            · have r2 : decide (1114111 < v) = false := by simpa using b2
              have r3 : decide (55296 ≤ v) = true := by simp; omega
              have r4 : decide (v ≤ 57343) = true := by simp; omega
              clear hb b1 b2
              go_wp2
              go_ret
              exact ⟨ret_int HS.out, rfl⟩
        · have HS : Hid ((4 : Int) = R) := by have h := HF.out; unfold fin at h; rw [if_neg hb] at h; exact h
          clear HF
          have r1 : decide (v < 65536) = false := by simp; omega
          have r2 : decide (1114111 < v) = false := by simp; omega
          by_cases b1 : 55296 ≤ v
          · have r3 : decide (55296 ≤ v) = true := by simpa using b1
            have r4 : decide (v ≤ 57343) = false := by simp; omega
            clear hb b1
            go_wp2
            go_ret
            exact ⟨ret_int HS.out, rfl⟩
          · have r3 : decide (55296 ≤ v) = false := by simpa using b1
            clear hb b1
            go_wp2
            go_ret
            exact ⟨ret_int HS.out, rfl⟩


theorem r_char (s : ByteArray) (p : Nat) (R : Int) (w : World) (hp : p < s.size) (hs : s.size ≤ 1000000000) (hR : charR s p = R) :
    Calls Try.prog 72 #[.string s, .int .i64 p] w fun e w' => e = .returned (.int .i64 R) ∧ w = w' := by
  unfold charR at hR
  have hcb := byteAt_bd s p
  by_cases h1 : byteAt s p < 128
  · rw [if_pos h1] at hR
    subst hR
    have hidx := idx9 s p hp
    generalize byteAt s p = c at hidx h1 hcb
    have q1 : decide (c < 128) = true := by simpa using h1
    have hpi : (p : Int) < (s.size : Int) := by omega
    clear h1
    go_enter Try.func72, Try.ntmps72
    go_wp2
    go_ret
    exact ⟨rfl, rfl⟩
  · rw [if_neg h1] at hR
    by_cases h2 : 192 ≤ byteAt s p ∧ byteAt s p < 224
    · rw [if_pos h2] at hR; exact char2 s p R w hp hs h2 hR
    · rw [if_neg h2] at hR
      by_cases h3 : 224 ≤ byteAt s p ∧ byteAt s p < 240
      · rw [if_pos h3] at hR; exact char3 s p R w hp hs h3 hR
      · rw [if_neg h3] at hR
        by_cases h4 : 240 ≤ byteAt s p ∧ byteAt s p < 248
        · rw [if_pos h4] at hR; exact char4 s p R w hp hs h4 hR
        · rw [if_neg h4] at hR
          subst hR
          have hidx := idx9 s p hp
          generalize byteAt s p = c at hidx h1 h2 h3 h4 hcb
          have q1 : decide (c < 128) = false := by simpa using h1
          have hpi : (p : Int) < (s.size : Int) := by omega
          by_cases h5 : 192 ≤ c
          · have t0 : decide (192 ≤ c) = true := by simpa using h5
            have t1 : decide (c < 224) = false := by simp; omega
            have t2 : decide (224 ≤ c) = true := by simp; omega
            have t3 : decide (c < 240) = false := by simp; omega
            have t4 : decide (240 ≤ c) = true := by simp; omega
            have t5 : decide (c < 248) = false := by simp; omega
            clear h1 h2 h3 h4 h5
            go_enter Try.func72, Try.ntmps72
            go_wp2
            go_ret
            exact ⟨rfl, rfl⟩
          · have t0 : decide (192 ≤ c) = false := by simpa using h5
            have t2 : decide (224 ≤ c) = false := by simp; omega
            have t4 : decide (240 ≤ c) = false := by simp; omega
            clear h1 h2 h3 h4 h5
            go_enter Try.func72, Try.ntmps72
            go_wp2
            go_ret
            exact ⟨rfl, rfl⟩

theorem fini_bd (n least : Int) (hn : 0 ≤ n ∧ n ≤ 4) (o : Option Int) : 0 ≤ fini n least o ∧ fini n least o ≤ 4 := by
  cases o with
  | none => simp [fini]
  | some v => simp only [fini, fin]; split <;> omega
theorem multi_bd (s : ByteArray) (p n : Nat) (least v : Int) (hn : n ≤ 4) : 0 ≤ multi s p n least v ∧ multi s p n least v ≤ 4 := by
  unfold multi
  split
  · omega
  · exact fini_bd _ _ (by omega) _
theorem charR_bd (s : ByteArray) (p : Nat) : 0 ≤ charR s p ∧ charR s p ≤ 4 := by
  unfold charR
  split
  · omega
  · split
    · exact multi_bd _ _ _ _ _ (by omega)
    · split
      · exact multi_bd _ _ _ _ _ (by omega)
      · split
        · exact multi_bd _ _ _ _ _ (by omega)
        · omega
def vfrom (s : ByteArray) (p : Nat) : Bool :=
  if h : p < s.size ∧ 0 < charR s p then vfrom s (p + (charR s p).toNat) else decide (s.size ≤ p)
termination_by s.size - p
decreasing_by omega
def validR (s : ByteArray) : Bool := decide (0 < s.size) && decide (s.size ≤ 256) && vfrom s 0

set_option maxHeartbeats 400000 in
theorem valid_loop (s : ByteArray) (R : Bool) (w : World) (h1 : 1 ≤ s.size) (h2 : s.size ≤ 256) (hR : vfrom s 0 = R) :
    Calls Try.prog 49 #[.string s] w fun e w' => e = .returned (.bool R) ∧ w = w' := by
  have H0 : Hid (vfrom s 0 = R) := hR
  clear hR
  have q1 : decide ((s.size : Int) < 1) = false := by simp; omega
  have q2 : decide ((256 : Int) < (s.size : Int)) = false := by simp; omega
  go_enter Try.func49, Try.ntmps49
  go_wp2
  go_loop [3] (fun i => ∃ k : Nat, k ≤ s.size + 4 ∧ i = .int .i64 k ∧ vfrom s k = R) (fun i => s.size + 5 - (intOf i).toNat)
  case atStart => exact ⟨0, by omega, rfl, H0.out⟩
  case round =>
    obtain ⟨k, hk, rfl, hv⟩ := hrel
    have HV : Hid (vfrom s k = R) := hv
    clear hv H0
    by_cases hlt : k < s.size
    · have HC : Hid (∀ w, Calls Try.prog 72 #[.string s, .int .i64 k] w fun e w' => e = .returned (.int .i64 (charR s k)) ∧ w = w') := fun w => r_char s k _ w hlt (by omega) rfl
      have hb := charR_bd s k
      have HN : Hid ((if 0 < charR s k then vfrom s (k + (charR s k).toNat) else false) = R) := by
        have h := HV.out
        rw [vfrom] at h
        show _ = R
        rw [← h]
        by_cases hc : 0 < charR s k
        · rw [if_pos hc, dif_pos ⟨hlt, hc⟩]
        · rw [if_neg hc, dif_neg (by intro x; exact hc x.2)]
          exact (decide_eq_false (by omega)).symm
      obtain ⟨m, hm⟩ := Int.eq_ofNat_of_zero_le hb.1
      rw [hm] at HC HN hb
      have hki : (k : Int) < (s.size : Int) := by omega
      by_cases hz : m = 0
      · have q3 : ((m : Int) == 0) = true := by simpa using hz
        have HS : Hid (false = R) := by have h := HN.out; rw [if_neg (by omega)] at h; exact h
        clear HN hz hm
        go_wp2_with (go_at_call 72; refine (HC.out _).mono ?_; rintro e w1 ⟨rfl, rfl⟩)
        go_ret
        exact ⟨ret_bool HS.out, rfl⟩
      · have q3 : ((m : Int) == 0) = false := by simpa using hz
        have HS : Hid (vfrom s (k + m) = R) := by have h := HN.out; rw [if_pos (by omega), Int.toNat_natCast] at h; exact h
        clear HN hm
        go_wp2_with (go_at_call 72; refine (HC.out _).mono ?_; rintro e w1 ⟨rfl, rfl⟩)
        go_round
        case rel => exact ⟨k + m, by omega, by go_num, HS.out⟩
        case measure => simp [intOf]; omega
    · have HS : Hid (true = R) := by
        have h := HV.out
        rw [vfrom, dif_neg (by omega)] at h
        rw [← h]
        exact (decide_eq_true (by omega)).symm
      have hki : ¬ (k : Int) < (s.size : Int) := by omega
      go_wp2
      go_ret
      exact ⟨ret_bool HS.out, rfl⟩
theorem r_valid (s : ByteArray) (w : World) :
    Calls Try.prog 49 #[.string s] w fun e w' => e = .returned (.bool (validR s)) ∧ w = w' := by
  by_cases h1 : s.size < 1
  · have e : validR s = false := by unfold validR; rw [decide_eq_false (by omega : ¬ 0 < s.size)]; simp
    rw [e]
    have q1 : decide ((s.size : Int) < 1) = true := by simp; omega
    clear e
    go_enter Try.func49, Try.ntmps49
    go_wp2
    go_ret
    exact ⟨rfl, rfl⟩
  · by_cases h2 : 256 < s.size
    · have e : validR s = false := by unfold validR; rw [decide_eq_false (by omega : ¬ s.size ≤ 256)]; simp
      rw [e]
      have q1 : decide ((s.size : Int) < 1) = false := by simp; omega
      have q2 : decide ((256 : Int) < (s.size : Int)) = true := by simp; omega
      clear e
      go_enter Try.func49, Try.ntmps49
      go_wp2
      go_ret
      exact ⟨rfl, rfl⟩
    · have e : validR s = vfrom s 0 := by
        unfold validR
        rw [decide_eq_true (by omega : 0 < s.size), decide_eq_true (by omega : s.size ≤ 256)]
        simp
      rw [e]
      exact valid_loop s _ w (by omega) (by omega) rfl
end Go.Proofs.Ytailaehpgmpaaaa
