/- The program's reader: its method number. -/
import Derived.Test.YtailaehpgmpaaaaDnum
import Derived.Test.YtailaehpgmpaaaaCframe
import Derived.Test.YtailaehpgmpaaaaCtext
namespace Go.Proofs.Ytailaehpgmpaaaa
open Go.RowKit
set_option linter.unusedVariables false

/-- A reader: its bytes and its place. -/
def At (w : World) (r : Nat) (a : Option Addr) (L cap : Nat) (p : Int) : Prop := w.heap[r]? = some (.cells #[.slice a L cap, .int .i64 p] 95 (0, 0))
section
variable {w w' : World} {r : Nat} {a : Option Addr} {L cap : Nat} {p : Int}
theorem At.bytes (h : At w r a L cap p) : w.cell? ⟨r, 0, none⟩ = some (.slice a L cap) := by rw [cell_of_row w r 0 _ _ _ h]; rfl
theorem At.place (h : At w r a L cap p) : w.cell? ⟨r, 1, none⟩ = some (.int .i64 p) := by rw [cell_of_row w r 1 _ _ _ h]; rfl
theorem At.free (h : At w r a L cap p) : w.frozen? ⟨r, 1, none⟩ = false := by unfold At at h; simp [World.frozen?, h]
theorem At.lt (h : At w r a L cap p) : r < w.heap.size := (Array.getElem?_eq_some_iff.1 h).1
theorem At.set (h : At w r a L cap p) (q : Int) : At (w.setCell ⟨r, 1, none⟩ (.int .i64 q)) r a L cap q := by
  unfold At
  rw [setCell_eq_setRow w r 1 _ 95 (0, 0) _ h, setRow_heap w r _ _ 95 _ h]
  rfl
theorem At.grown (h : At w r a L cap p) (hg : w.grownBy w' none) : At w' r a L cap p := (hg.block r h.lt (by simp)).trans h
theorem At.draw (h : At w r a L cap p) (n : Nat) : At (w.drewN n) r a L cap p := h
end
theorem ret2 {a a' b b' : Int} {ka kb : IntKind} (h : a = a') (h1 : b = b') : Ending.returned (.tuple #[.int ka a, .int kb b]) = .returned (.tuple #[.int ka a', .int kb b']) := by rw [h, h1]

theorem num_out (r : Nat) (a : Option Addr) (L cap : Nat) (p : Int) (w : World) (h : At w r a L cap p) (hp : p < 0 ∨ (L : Int) < p) :
    Calls Try.prog 86 #[.pointer (some ⟨r, 0, none⟩)] w fun e w' => e = .returned (.tuple #[.int .u64 0, .int .i64 20]) ∧ w.grownBy w' none := by
  have c0 := h.bytes
  have c1 := h.place
  clear h
  by_cases h0 : p < 0
  · have d1 : decide (p < 0) = true := by simpa using h0
    clear h0 hp
    go_enter Try.func86, Try.ntmps86
    go_wp2
    go_quiet (fail)
    go_wp2
    go_ret2
    exact ⟨rfl, gb_drewN _ _⟩
  · have d1 : decide (p < 0) = false := by simpa using h0
    have d2 : decide ((L : Int) < p) = true := by simp; omega
    clear h0 hp
    go_enter Try.func86, Try.ntmps86
    go_wp2
    go_quiet (fail)
    go_wp2
    go_ret2
    exact ⟨rfl, gb_drewN _ _⟩

theorem or7b (v c : Int) (i : Nat) (hv0 : 0 ≤ v) (hv : v < 2 ^ (7 * i)) (hi : i ≤ 9) (hc : 0 ≤ c ∧ c ≤ 255) (h9 : i = 9 → c ≤ 1) :
    bits .or .u64 v (IntKind.u64.wrap (c % 128 * 2 ^ (i * 7))) = v + c % 128 * 2 ^ (7 * i) ∧ v + c % 128 * 2 ^ (7 * i) ≤ 18446744073709551615 ∧ (i < 9 → v + c % 128 * 2 ^ (7 * i) < 2 ^ (7 * (i + 1))) := by
  have h := or7 v c i hv0 hv hi hc h9
  have e1 : bits .and .u8 c 127 = c % 128 := by
    rw [u8_and c 127 hc.1 (by omega) (by decide) (by decide)]
    have : (127 : Int).toNat = 127 := rfl
    rw [this, nat_mask7]
    omega
  rw [e1, show IntKind.u64.wrap (c % 128) = c % 128 by rw [IntKind.wrap_u64]; omega] at h
  rw [Nat.mul_comm i 7]
  exact h

set_option maxHeartbeats 2000000 in
theorem num_in (r : Nat) (a : Option Addr) (zs : List Int) (L cap : Nat) (p : Nat) (r1 r2 r3 : Int) (w : World) (h : At w r a L cap p) (hr : Rd w a zs) (hL : zs.length = L) (hcap : L ≤ cap) (hz : (L : Int) ≤ 140737488355000) (hp : p ≤ L) (hR : ud zs p 10 0 0 = (r1, r2, r3)) :
    Calls Try.prog 86 #[.pointer (some ⟨r, 0, none⟩)] w fun e w' => e = .returned (.tuple #[.int .u64 r1, .int .i64 r3]) ∧ w.grownBy w' (some r) ∧ (r3 = 0 → At w' r a L cap r2) := by
  have d1 : decide ((p : Int) < 0) = false := by simp
  have d2 : decide ((L : Int) < (p : Int)) = false := by simp; omega
  have d3 : decide (L < p) = false := by simp; omega
  have c0 := h.bytes
  have c1 := h.place
  have HA : Hid (At w r a L cap p) := h
  have HR : Hid (Rd w a zs) := hr
  have HL : Hid (zs.length = L) := hL
  have H0 : Hid (URel zs p 0 0 r1 r2 r3) := hR
  have hsl : ∀ w, (Instr.slice 26 (.slice a L cap) (some (.int .i64 (p : Int))) none none).run Try.prog w = .ok (.slice (if cap = p then a else a.map (·.add p)) (L - p) (cap - p)) w := by
    intro w
    have e5 : Try.prog.elem 26 = 5 := by simp [Program.elem, Try.underlying26]
    rw [run_slice_l w 26 a L cap (by rw [e5]; exact Try.underlying26) .i64 (p : Int) (by omega) (by omega), e5]
    have hz5 : (sizeOf 5).run Try.prog w = .ok 1 w := by
      obtain ⟨i0, hi, _, hz1, _⟩ := info_parts info5
      simp [sizeOf, typeInfo, hi, hz1]
    rw [hz5]
    simp [Result.andThen, sliced]
  generalize hv : (if cap = p then a else a.map (·.add p)) = v at hsl
  have HG0 : Hid (w.grownBy w none) := World.grownBy.refl _ _
  clear h hr hL hR
  obtain ⟨w0, ew⟩ : ∃ w0, w0 = w := ⟨_, rfl⟩
  have HW : Hid (w0 = w) := ew
  rw [← HW.out]
  rw [ew.symm] at c0 c1 HA HR
  have HG0 : Hid (w0.grownBy w0 none) := World.grownBy.refl _ _
  clear ew
  go_enter Try.func86, Try.ntmps86
  go_wp2
  go_quiet (fail)
  obtain ⟨w1, ew⟩ : ∃ w1, w1 = w0.drewN nq := ⟨_, rfl⟩
  rw [← ew]
  have d0 : w1.cell? ⟨r, 0, none⟩ = some (.slice a L cap) := by rw [ew]; exact c0
  have d1 : w1.cell? ⟨r, 1, none⟩ = some (.int .i64 (p : Int)) := by rw [ew]; exact c1
  have HA1 : Hid (At w1 r a L cap p) := by show At _ _ _ _ _ _; rw [ew]; exact HA.out
  have HR1 : Hid (Rd w1 a zs) := by show Rd _ _ _; rw [ew]; exact HR.out
  have HG1 : Hid (w0.grownBy w1 none) := by show World.grownBy _ _ _; rw [ew]; exact gb_drewN _ _
  clear ew c0 c1 HA HR
  go_wp2
  go_quiet (fail)
  obtain ⟨w2, ew⟩ : ∃ w2, w2 = w1.drewN nq := ⟨_, rfl⟩
  rw [← ew]
  have c0 : w2.cell? ⟨r, 0, none⟩ = some (.slice a L cap) := by rw [ew]; exact d0
  have c1 : w2.cell? ⟨r, 1, none⟩ = some (.int .i64 (p : Int)) := by rw [ew]; exact d1
  have HA : Hid (At w2 r a L cap p) := by show At _ _ _ _ _ _; rw [ew]; exact HA1.out
  have HR : Hid (Rd w2 a zs) := by show Rd _ _ _; rw [ew]; exact HR1.out
  have HG : Hid (w0.grownBy w2 none) := by show World.grownBy _ _ _; rw [ew]; exact HG1.out.trans (gb_drewN _ _)
  clear ew d0 d1 HA1 HR1 HG1
  go_wp2
  go_loop [4, 34] (fun t4 t34 => ∃ (i : Nat) (v : Int), i ≤ 9 ∧ 0 ≤ v ∧ v ≤ 9223372036854775807 ∧ v < 2 ^ (7 * i) ∧ URel zs p i v r1 r2 r3 ∧ t4 = .int .u64 v ∧ t34 = .int .i64 i) (fun _ t34 => 10 - (intOf t34).toNat)
  case atStart => exact ⟨0, 0, by omega, by omega, by omega, by decide, H0.out, rfl, rfl⟩
  case round =>
    obtain ⟨i, x, hi, hx0, hx1, hx2, hu, rfl, rfl⟩ := hrel
    have HU : Hid (URel zs p i x r1 r2 r3) := hu
    have HV : Hid (x < 2 ^ (7 * i)) := hx2
    clear hu hx2 H0
    by_cases hlt : i < L - p
    · have hl := HL.out
      obtain ⟨b, off, rfl, hc⟩ := HR.out.at (by omega)
      obtain rfl : v = some ⟨b, off + p, none⟩ := by
        rw [← hv, if_neg (by omega)]
        by_cases h0 : p = 0
        · subst h0; rfl
        · simp [Addr.add, h0]
      have hcell := hc (p + i) (by omega)
      rw [← Nat.add_assoc] at hcell
      have hby := HR.out.byte (p + i)
      have HlZ : Hid (p + i < zs.length) := by show _ < _; omega
      obtain ⟨c, ec⟩ : ∃ c, c = zs.getD (p + i) 0 := ⟨_, rfl⟩
      rw [← ec] at hcell hby
      have HC : Hid (c = zs.getD (p + i) 0) := ec
      clear hc ec hl hv
      have HB1 : Hid (∀ w b, (b = true ↔ 0 < i ∧ c = 0) → Calls Try.prog 94 #[.int .i64 i, .int .u8 c] w fun e w' => e = .returned (.bool b) ∧ w = w') := fun w b h => g_needless i c w b h
      have HB2 : Hid (∀ w b, (b = true ↔ i = 9 ∧ 1 < c) → Calls Try.prog 95 #[.int .i64 i, .int .u8 c] w fun e w' => e = .returned (.bool b) ∧ w = w') := fun w b h => g_above i c w b h
      by_cases hform : i = 9 ∧ 1 < c ∨ 0 < i ∧ c = 0
      · have HRes : Hid (r1 = 0 ∧ r2 = 0 ∧ r3 = 21) := HU.out.form hi HlZ.out (by rw [← HC.out]; exact hform)
        by_cases hn : 0 < i ∧ c = 0
        · have HQ : Hid (0 < i ∧ c = 0) := hn
          clear HU HV HlZ HC hform hn
          go_wp2_with (go_at_call 94; refine (HB1.out _ true (by simpa using HQ.out)).mono ?_; rintro e w1 ⟨rfl, rfl⟩)
          go_ret2
          exact ⟨ret2 HRes.out.1.symm HRes.out.2.2.symm, gb_any HG.out _, fun h => by have := HRes.out.2.2; omega⟩
        · have HQ : Hid ((i = 9 ∧ 1 < c) ∧ ¬ (0 < i ∧ c = 0)) := ⟨by omega, hn⟩
          clear HU HV HlZ HC hform hn
          go_wp2_with (first | (go_at_call 94; refine (HB1.out _ false (by simpa using HQ.out.2)).mono ?_; rintro e w1 ⟨rfl, rfl⟩) | (go_at_call 95; refine (HB2.out _ true (by simpa using HQ.out.1)).mono ?_; rintro e w1 ⟨rfl, rfl⟩))
          go_ret2
          exact ⟨ret2 HRes.out.1.symm HRes.out.2.2.symm, gb_any HG.out _, fun h => by have := HRes.out.2.2; omega⟩
      · have HQ : Hid (¬ (i = 9 ∧ 1 < c) ∧ ¬ (0 < i ∧ c = 0)) := ⟨by omega, by omega⟩
        have HNF : Hid (¬ (i = 9 ∧ 1 < zs.getD (p + i) 0 ∨ 0 < i ∧ zs.getD (p + i) 0 = 0)) := by rw [← HC.out]; exact hform
        have HO7 : Hid (_ ∧ _ ∧ _) := or7b x c i hx0 HV.out hi hby (fun h => by omega)
        have hi7 : ((i : Int) * 7) ≤ 63 := by omega
        by_cases h128 : c < 128
        · have e1 : decide (c < 128) = true := by simpa using h128
          have HRes : Hid (_ ∧ _ ∧ _) := HU.out.done hi HlZ.out HNF.out (by rw [← HC.out]; exact h128)
          have hfro := HA.out.free
          have hpi : (p : Int) + ((i : Int) + 1) ≤ 140737488355001 := by omega
          clear HU HV HNF hform h128
          go_wp2_with (first | (go_at_call 94; refine (HB1.out _ false (by simpa using HQ.out.2)).mono ?_; rintro e w1 ⟨rfl, rfl⟩) | (go_at_call 95; refine (HB2.out _ false (by simpa using HQ.out.1)).mono ?_; rintro e w1 ⟨rfl, rfl⟩))
          go_ret2
          refine ⟨ret2 ?_ HRes.out.2.2, ?_, fun h => ?_⟩
          · rw [← HRes.out.1, ← HC.out]; exact HO7.out.1
          · exact gb_trans (gb_any HG.out (some r)) (gb_set rfl) (fun k hk => .inr hk)
          · rw [← HRes.out.2.1, Int.add_assoc]
            exact HA.out.set _
        · have e1 : decide (c < 128) = false := by simpa using h128
          have HS : Hid (URel zs p (i + 1) (x + c % 128 * 2 ^ (7 * i)) r1 r2 r3) := by
            have h := HU.out.step hi HlZ.out HNF.out (by rw [← HC.out]; exact h128)
            rw [← HC.out] at h
            exact h
          have h9' : i < 9 := by omega
          have HNN : Hid (0 ≤ x + c % 128 * 2 ^ (7 * i) ∧ x + c % 128 * 2 ^ (7 * i) ≤ 9223372036854775807) := by
            have hp : (0 : Int) < 2 ^ (7 * i) := Int.pow_pos (by decide)
            have := Int.mul_nonneg (show 0 ≤ c % 128 by omega) (Int.le_of_lt hp)
            have h1 := HO7.out.2.2 h9'
            have h2 : (2 : Int) ^ (7 * (i + 1)) ≤ 2 ^ 63 := by exact_mod_cast Nat.pow_le_pow_right (by decide) (by omega : 7 * (i + 1) ≤ 63)
            constructor <;> omega
          clear HU HV HNF hform h128
          go_wp2_with (first | (go_at_call 94; refine (HB1.out _ false (by simpa using HQ.out.2)).mono ?_; rintro e w1 ⟨rfl, rfl⟩) | (go_at_call 95; refine (HB2.out _ false (by simpa using HQ.out.1)).mono ?_; rintro e w1 ⟨rfl, rfl⟩))
          go_round
          case rel => exact ⟨i + 1, x + c % 128 * 2 ^ (7 * i), by omega, HNN.out.1, HNN.out.2, HO7.out.2.2 h9', HS.out, by rw [HO7.out.1], by go_num⟩
          case measure => simp [intOf]; omega
    · have HRes : Hid (r1 = 0 ∧ r2 = 0 ∧ r3 = 20) := HU.out.over hi (by have := HL.out; omega)
      go_wp2
      go_ret2
      exact ⟨ret2 HRes.out.1.symm HRes.out.2.2.symm, gb_any HG.out _, fun h => by have := HRes.out.2.2; omega⟩

/-- What the method number answers, and where the reader stands then. -/
theorem g_num (r : Nat) (a : Option Addr) (zs : List Int) (L cap : Nat) (p r1 r2 r3 : Int) (w : World) (h : At w r a L cap p) (hr : Rd w a zs) (hL : zs.length = L) (hcap : L ≤ cap) (hz : (L : Int) ≤ 140737488355000) (hR : uintR zs p = (r1, r2, r3)) :
    Calls Try.prog 86 #[.pointer (some ⟨r, 0, none⟩)] w fun e w' => e = .returned (.tuple #[.int .u64 r1, .int .i64 r3]) ∧ w.grownBy w' (some r) ∧ (r3 = 0 → At w' r a L cap r2) := by
  unfold uintR at hR
  by_cases hp : p < 0 ∨ (zs.length : Int) < p
  · rw [if_pos hp] at hR
    simp only [Prod.mk.injEq] at hR
    obtain ⟨rfl, rfl, rfl⟩ := hR
    refine (num_out r a L cap p w h (by omega)).mono ?_
    rintro e w' ⟨rfl, hg⟩
    exact ⟨rfl, gb_any hg _, fun h => by omega⟩
  · rw [if_neg hp] at hR
    obtain ⟨q, rfl⟩ := Int.eq_ofNat_of_zero_le (show 0 ≤ p by omega)
    rw [Int.toNat_natCast] at hR
    exact num_in r a zs L cap q r1 r2 r3 w h hr hL hcap hz (by omega) hR
end Go.Proofs.Ytailaehpgmpaaaa
