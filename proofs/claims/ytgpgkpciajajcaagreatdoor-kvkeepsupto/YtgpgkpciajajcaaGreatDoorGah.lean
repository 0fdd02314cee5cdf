/- Several texts in one: Dnumb, Dread, Dnext, Dcat, Ccrc, Dsum. -/
import Derived.Test.YtgpgkpciajajcaaGreatDoorGag
import Derived.Lib.SlBytesRow
import Derived.Lib.AppendZeros
/- The program's reader: its method number. -/
namespace Go.Proofs.YtgpgkpciajajcaaGreatDoor
open Go.RowKit
set_option linter.unusedVariables false

/-- A reader: its bytes and its place. -/
def At (w : World) (r : Nat) (a : Option Addr) (L cap : Nat) (p : Int) : Prop := w.heap[r]? = some (.cells #[.slice a L cap, .int .i64 p] 174 (0, 0))
section
variable {w w' : World} {r : Nat} {a : Option Addr} {L cap : Nat} {p : Int}
theorem At.bytes (h : At w r a L cap p) : w.cell? ⟨r, 0, none⟩ = some (.slice a L cap) := by rw [cell_of_row w r 0 _ _ _ h]; rfl
theorem At.place (h : At w r a L cap p) : w.cell? ⟨r, 1, none⟩ = some (.int .i64 p) := by rw [cell_of_row w r 1 _ _ _ h]; rfl
theorem At.free (h : At w r a L cap p) : w.frozen? ⟨r, 1, none⟩ = false := by unfold At at h; simp [World.frozen?, h]
theorem At.lt (h : At w r a L cap p) : r < w.heap.size := (Array.getElem?_eq_some_iff.1 h).1
theorem At.set (h : At w r a L cap p) (q : Int) : At (w.setCell ⟨r, 1, none⟩ (.int .i64 q)) r a L cap q := by
  unfold At
  rw [setCell_eq_setRow w r 1 _ 174 (0, 0) _ h, setRow_heap w r _ _ 174 _ h]
  rfl
theorem At.grown (h : At w r a L cap p) (hg : w.grownBy w' none) : At w' r a L cap p := (hg.block r h.lt (by simp)).trans h
theorem At.draw (h : At w r a L cap p) (n : Nat) : At (w.drewN n) r a L cap p := h
end
theorem ret2 {a a' b b' : Int} {ka kb : IntKind} (h : a = a') (h1 : b = b') : Ending.returned (.tuple #[.int ka a, .int kb b]) = .returned (.tuple #[.int ka a', .int kb b']) := by rw [h, h1]

theorem num_out (r : Nat) (a : Option Addr) (L cap : Nat) (p : Int) (w : World) (h : At w r a L cap p) (hp : p < 0 ∨ (L : Int) < p) :
    Calls Tryz.prog 156 #[.pointer (some ⟨r, 0, none⟩)] w fun e w' => e = .returned (.tuple #[.int .u64 0, .int .i64 20]) ∧ w.grownBy w' none := by
  have c0 := h.bytes
  have c1 := h.place
  clear h
  by_cases h0 : p < 0
  · have d1 : decide (p < 0) = true := by simpa using h0
    clear h0 hp
    go_enter Tryz.func156, Tryz.ntmps156
    go_wp2
    go_quiet (fail)
    go_wp2
    go_ret2
    exact ⟨rfl, gb_drewN _ _⟩
  · have d1 : decide (p < 0) = false := by simpa using h0
    have d2 : decide ((L : Int) < p) = true := by simp; omega
    clear h0 hp
    go_enter Tryz.func156, Tryz.ntmps156
    go_wp2
    go_quiet (fail)
    go_wp2
    go_ret2
    exact ⟨rfl, gb_drewN _ _⟩

theorem or7b (v c : Int) (i : Nat) (hv0 : 0 ≤ v) (hv : v < 2 ^ (7 * i)) (hi : i ≤ 9) (hc : 0 ≤ c ∧ c ≤ 255) (h9 : i = 9 → c ≤ 1) :
    bits .or .u64 v (IntKind.u64.wrap (c % 128 * 2 ^ (i * 7))) = v + c % 128 * 2 ^ (7 * i) ∧ v + c % 128 * 2 ^ (7 * i) ≤ 18446744073709551615 ∧ (i < 9 → v + c % 128 * 2 ^ (7 * i) < 2 ^ (7 * (i + 1))) := by
  have h := or7 v c i hv0 hv hi hc h9
  have e1 : bits .and .u8 c 127 = c % 128 := by
    rw [u8_and c 127 hc.1 (by omega) (by decide) (by decide)]
    have : (127 : Int).toNat = 127 := rfl
    rw [this, nat_mask7]
    omega
  rw [e1, show IntKind.u64.wrap (c % 128) = c % 128 by rw [IntKind.wrap_u64]; omega] at h
  rw [Nat.mul_comm i 7]
  exact h

set_option maxHeartbeats 2000000 in
theorem num_in (r : Nat) (a : Option Addr) (zs : List Int) (L cap : Nat) (p : Nat) (r1 r2 r3 : Int) (w : World) (h : At w r a L cap p) (hr : Rd w a zs) (hL : zs.length = L) (hcap : L ≤ cap) (hz : (L : Int) ≤ 140737488355000) (hp : p ≤ L) (hR : ud zs p 10 0 0 = (r1, r2, r3)) :
    Calls Tryz.prog 156 #[.pointer (some ⟨r, 0, none⟩)] w fun e w' => e = .returned (.tuple #[.int .u64 r1, .int .i64 r3]) ∧ w.grownBy w' (some r) ∧ (r3 = 0 → At w' r a L cap r2) := by
  have d1 : decide ((p : Int) < 0) = false := by simp
  have d2 : decide ((L : Int) < (p : Int)) = false := by simp; omega
  have d3 : decide (L < p) = false := by simp; omega
  have c0 := h.bytes
  have c1 := h.place
  have HA : Hid (At w r a L cap p) := h
  have HR : Hid (Rd w a zs) := hr
  have HL : Hid (zs.length = L) := hL
  have H0 : Hid (URel zs p 0 0 r1 r2 r3) := hR
  have hsl : ∀ w, (Instr.slice 37 (.slice a L cap) (some (.int .i64 (p : Int))) none none).run Tryz.prog w = .ok (.slice (if cap = p then a else a.map (·.add p)) (L - p) (cap - p)) w := by
    intro w
    have e5 : Tryz.prog.elem 37 = 5 := by simp [Program.elem, Tryz.underlying37]
    rw [run_slice_l w 37 a L cap (by rw [e5]; exact Tryz.underlying37) .i64 (p : Int) (by omega) (by omega), e5]
    have hz5 : (sizeOf 5).run Tryz.prog w = .ok 1 w := by
      obtain ⟨i0, hi, _, hz1, _⟩ := info_parts info5
      simp [sizeOf, typeInfo, hi, hz1]
    rw [hz5]
    simp [Result.andThen, sliced]
  generalize hv : (if cap = p then a else a.map (·.add p)) = v at hsl
  have HG0 : Hid (w.grownBy w none) := World.grownBy.refl _ _
  clear h hr hL hR
  obtain ⟨w0, ew⟩ : ∃ w0, w0 = w := ⟨_, rfl⟩
  have HW : Hid (w0 = w) := ew
  rw [← HW.out]
  rw [ew.symm] at c0 c1 HA HR
  have HG0 : Hid (w0.grownBy w0 none) := World.grownBy.refl _ _
  clear ew
  go_enter Tryz.func156, Tryz.ntmps156
  go_wp2
  go_quiet (fail)
  obtain ⟨w1, ew⟩ : ∃ w1, w1 = w0.drewN nq := ⟨_, rfl⟩
  rw [← ew]
  have d0 : w1.cell? ⟨r, 0, none⟩ = some (.slice a L cap) := by rw [ew]; exact c0
  have d1 : w1.cell? ⟨r, 1, none⟩ = some (.int .i64 (p : Int)) := by rw [ew]; exact c1
  have HA1 : Hid (At w1 r a L cap p) := by show At _ _ _ _ _ _; rw [ew]; exact HA.out
  have HR1 : Hid (Rd w1 a zs) := by show Rd _ _ _; rw [ew]; exact HR.out
  have HG1 : Hid (w0.grownBy w1 none) := by show World.grownBy _ _ _; rw [ew]; exact gb_drewN _ _
  clear ew c0 c1 HA HR
  go_wp2
  go_quiet (fail)
  obtain ⟨w2, ew⟩ : ∃ w2, w2 = w1.drewN nq := ⟨_, rfl⟩
  rw [← ew]
  have c0 : w2.cell? ⟨r, 0, none⟩ = some (.slice a L cap) := by rw [ew]; exact d0
  have c1 : w2.cell? ⟨r, 1, none⟩ = some (.int .i64 (p : Int)) := by rw [ew]; exact d1
  have HA : Hid (At w2 r a L cap p) := by show At _ _ _ _ _ _; rw [ew]; exact HA1.out
  have HR : Hid (Rd w2 a zs) := by show Rd _ _ _; rw [ew]; exact HR1.out
  have HG : Hid (w0.grownBy w2 none) := by show World.grownBy _ _ _; rw [ew]; exact HG1.out.trans (gb_drewN _ _)
  clear ew d0 d1 HA1 HR1 HG1
  go_wp2
  go_loop [4, 34] (fun t4 t34 => ∃ (i : Nat) (v : Int), i ≤ 9 ∧ 0 ≤ v ∧ v ≤ 9223372036854775807 ∧ v < 2 ^ (7 * i) ∧ URel zs p i v r1 r2 r3 ∧ t4 = .int .u64 v ∧ t34 = .int .i64 i) (fun _ t34 => 10 - (intOf t34).toNat)
  case atStart => exact ⟨0, 0, by omega, by omega, by omega, by decide, H0.out, rfl, rfl⟩
  case round =>
    obtain ⟨i, x, hi, hx0, hx1, hx2, hu, rfl, rfl⟩ := hrel
    have HU : Hid (URel zs p i x r1 r2 r3) := hu
    have HV : Hid (x < 2 ^ (7 * i)) := hx2
    clear hu hx2 H0
    by_cases hlt : i < L - p
    · have hl := HL.out
      obtain ⟨b, off, rfl, hc⟩ := HR.out.at (by omega)
      obtain rfl : v = some ⟨b, off + p, none⟩ := by
        rw [← hv, if_neg (by omega)]
        by_cases h0 : p = 0
        · subst h0; rfl
        · simp [Addr.add, h0]
      have hcell := hc (p + i) (by omega)
      rw [← Nat.add_assoc] at hcell
      have hby := HR.out.byte (p + i)
      have HlZ : Hid (p + i < zs.length) := by show _ < _; omega
      obtain ⟨c, ec⟩ : ∃ c, c = zs.getD (p + i) 0 := ⟨_, rfl⟩
      rw [← ec] at hcell hby
      have HC : Hid (c = zs.getD (p + i) 0) := ec
      clear hc ec hl hv
      have HB1 : Hid (∀ w b, (b = true ↔ 0 < i ∧ c = 0) → Calls Tryz.prog 176 #[.int .i64 i, .int .u8 c] w fun e w' => e = .returned (.bool b) ∧ w = w') := fun w b h => g_needless i c w b h
      have HB2 : Hid (∀ w b, (b = true ↔ i = 9 ∧ 1 < c) → Calls Tryz.prog 177 #[.int .i64 i, .int .u8 c] w fun e w' => e = .returned (.bool b) ∧ w = w') := fun w b h => g_above i c w b h
      by_cases hform : i = 9 ∧ 1 < c ∨ 0 < i ∧ c = 0
      · have HRes : Hid (r1 = 0 ∧ r2 = 0 ∧ r3 = 21) := HU.out.form hi HlZ.out (by rw [← HC.out]; exact hform)
        by_cases hn : 0 < i ∧ c = 0
        · have HQ : Hid (0 < i ∧ c = 0) := hn
          clear HU HV HlZ HC hform hn
          go_wp2_with (go_at_call 176; refine (HB1.out _ true (by simpa using HQ.out)).mono ?_; rintro e w1 ⟨rfl, rfl⟩)
          go_ret2
          exact ⟨ret2 HRes.out.1.symm HRes.out.2.2.symm, gb_any HG.out _, fun h => by have := HRes.out.2.2; omega⟩
        · have HQ : Hid ((i = 9 ∧ 1 < c) ∧ ¬ (0 < i ∧ c = 0)) := ⟨by omega, hn⟩
          clear HU HV HlZ HC hform hn
          go_wp2_with (first | (go_at_call 176; refine (HB1.out _ false (by simpa using HQ.out.2)).mono ?_; rintro e w1 ⟨rfl, rfl⟩) | (go_at_call 177; refine (HB2.out _ true (by simpa using HQ.out.1)).mono ?_; rintro e w1 ⟨rfl, rfl⟩))
          go_ret2
          exact ⟨ret2 HRes.out.1.symm HRes.out.2.2.symm, gb_any HG.out _, fun h => by have := HRes.out.2.2; omega⟩
      · have HQ : Hid (¬ (i = 9 ∧ 1 < c) ∧ ¬ (0 < i ∧ c = 0)) := ⟨by omega, by omega⟩
        have HNF : Hid (¬ (i = 9 ∧ 1 < zs.getD (p + i) 0 ∨ 0 < i ∧ zs.getD (p + i) 0 = 0)) := by rw [← HC.out]; exact hform
        have HO7 : Hid (_ ∧ _ ∧ _) := or7b x c i hx0 HV.out hi hby (fun h => by omega)
        have hi7 : ((i : Int) * 7) ≤ 63 := by omega
        by_cases h128 : c < 128
        · have e1 : decide (c < 128) = true := by simpa using h128
          have HRes : Hid (_ ∧ _ ∧ _) := HU.out.done hi HlZ.out HNF.out (by rw [← HC.out]; exact h128)
          have hfro := HA.out.free
          have hpi : (p : Int) + ((i : Int) + 1) ≤ 140737488355001 := by omega
          clear HU HV HNF hform h128
          go_wp2_with (first | (go_at_call 176; refine (HB1.out _ false (by simpa using HQ.out.2)).mono ?_; rintro e w1 ⟨rfl, rfl⟩) | (go_at_call 177; refine (HB2.out _ false (by simpa using HQ.out.1)).mono ?_; rintro e w1 ⟨rfl, rfl⟩))
          go_ret2
          refine ⟨ret2 ?_ HRes.out.2.2, ?_, fun h => ?_⟩
          · rw [← HRes.out.1, ← HC.out]; exact HO7.out.1
          · exact gb_trans (gb_any HG.out (some r)) (gb_set rfl) (fun k hk => .inr hk)
          · rw [← HRes.out.2.1, Int.add_assoc]
            exact HA.out.set _
        · have e1 : decide (c < 128) = false := by simpa using h128
          have HS : Hid (URel zs p (i + 1) (x + c % 128 * 2 ^ (7 * i)) r1 r2 r3) := by
            have h := HU.out.step hi HlZ.out HNF.out (by rw [← HC.out]; exact h128)
            rw [← HC.out] at h
            exact h
          have h9' : i < 9 := by omega
          have HNN : Hid (0 ≤ x + c % 128 * 2 ^ (7 * i) ∧ x + c % 128 * 2 ^ (7 * i) ≤ 9223372036854775807) := by
            have hp : (0 : Int) < 2 ^ (7 * i) := Int.pow_pos (by decide)
            have := Int.mul_nonneg (show 0 ≤ c % 128 by omega) (Int.le_of_lt hp)
            have h1 := HO7.out.2.2 h9'
            have h2 : (2 : Int) ^ (7 * (i + 1)) ≤ 2 ^ 63 := by exact_mod_cast Nat.pow_le_pow_right (by decide) (by omega : 7 * (i + 1) ≤ 63)
            constructor <;> omega
          clear HU HV HNF hform h128
          go_wp2_with (first | (go_at_call 176; refine (HB1.out _ false (by simpa using HQ.out.2)).mono ?_; rintro e w1 ⟨rfl, rfl⟩) | (go_at_call 177; refine (HB2.out _ false (by simpa using HQ.out.1)).mono ?_; rintro e w1 ⟨rfl, rfl⟩))
          go_round
          case rel => exact ⟨i + 1, x + c % 128 * 2 ^ (7 * i), by omega, HNN.out.1, HNN.out.2, HO7.out.2.2 h9', HS.out, by rw [HO7.out.1], by go_num⟩
          case measure => simp [intOf]; omega
    · have HRes : Hid (r1 = 0 ∧ r2 = 0 ∧ r3 = 20) := HU.out.over hi (by have := HL.out; omega)
      go_wp2
      go_ret2
      exact ⟨ret2 HRes.out.1.symm HRes.out.2.2.symm, gb_any HG.out _, fun h => by have := HRes.out.2.2; omega⟩

/-- What the method number answers, and where the reader stands then. -/
theorem g_num (r : Nat) (a : Option Addr) (zs : List Int) (L cap : Nat) (p r1 r2 r3 : Int) (w : World) (h : At w r a L cap p) (hr : Rd w a zs) (hL : zs.length = L) (hcap : L ≤ cap) (hz : (L : Int) ≤ 140737488355000) (hR : uintR zs p = (r1, r2, r3)) :
    Calls Tryz.prog 156 #[.pointer (some ⟨r, 0, none⟩)] w fun e w' => e = .returned (.tuple #[.int .u64 r1, .int .i64 r3]) ∧ w.grownBy w' (some r) ∧ (r3 = 0 → At w' r a L cap r2) := by
  unfold uintR at hR
  by_cases hp : p < 0 ∨ (zs.length : Int) < p
  · rw [if_pos hp] at hR
    simp only [Prod.mk.injEq] at hR
    obtain ⟨rfl, rfl, rfl⟩ := hR
    refine (num_out r a L cap p w h (by omega)).mono ?_
    rintro e w' ⟨rfl, hg⟩
    exact ⟨rfl, gb_any hg _, fun h => by omega⟩
  · rw [if_neg hp] at hR
    obtain ⟨q, rfl⟩ := Int.eq_ofNat_of_zero_le (show 0 ≤ p by omega)
    rw [Int.toNat_natCast] at hR
    exact num_in r a zs L cap q r1 r2 r3 w h hr hL hcap hz (by omega) hR
end Go.Proofs.YtgpgkpciajajcaaGreatDoor

/- The program's readers: read at each of its types. -/
namespace Go.Proofs.YtgpgkpciajajcaaGreatDoor
open Go.RowKit
set_option linter.unusedVariables false

theorem ud_err (zs : List Int) (p : Nat) : ∀ (f i : Nat) (v r1 r2 r3 : Int), ud zs p f i v = (r1, r2, r3) → r3 ≠ 0 → r1 = 0 ∧ r2 = 0 := by
  intro f
  induction f with
  | zero => intro i v r1 r2 r3 h h3; simp only [ud, Prod.mk.injEq] at h; omega
  | succ f ih =>
    intro i v r1 r2 r3 h h3
    rw [ud] at h
    split at h
    · simp only [Prod.mk.injEq] at h; omega
    · split at h
      · simp only [Prod.mk.injEq] at h; omega
      · split at h
        · simp only [Prod.mk.injEq] at h; omega
        · exact ih _ _ _ _ _ h h3
theorem uintR_err {zs : List Int} {p r1 r2 r3 : Int} (h : uintR zs p = (r1, r2, r3)) (h3 : r3 ≠ 0) : r1 = 0 ∧ r2 = 0 := by
  unfold uintR at h
  split at h
  · simp only [Prod.mk.injEq] at h; omega
  · exact ud_err _ _ _ _ _ _ _ _ h h3
theorem at_new (w : World) (a : Option Addr) (L cap : Nat) (p : Int) : At (w.alloc (.cells #[.slice a L cap, .int .i64 p] 174)) w.heap.size a L cap p := heap_alloc_new w _
theorem gb_reader {w w' : World} {o : Obj} (h : (w.alloc o).grownBy w' (some w.heap.size)) : w.grownBy w' none := gb_trans (World.grownBy_alloc w o none) h (fun k hk => .inl (by simp at hk; omega))
end Go.Proofs.YtgpgkpciajajcaaGreatDoor

/- The program's readers: signed, next, text; Int, Text. -/
namespace Go.Proofs.YtgpgkpciajajcaaGreatDoor
open Go.RowKit
set_option linter.unusedVariables false

theorem next_end (r : Nat) (a : Option Addr) (L cap k : Nat) (n : Int) (w : World) (h : At w r a L cap k) (hz : (L : Int) ≤ 140737488355000) (hk : k ≤ L) (hn : (L : Int) - k < n) (hn64 : n ≤ 18446744073709551615) :
    Calls Tryz.prog 175 #[.pointer (some ⟨r, 0, none⟩), .int .u64 n] w fun e w' => e = .returned (.tuple #[.slice none 0 0, .int .i64 20]) ∧ w.grownBy w' none := by
  have c0 := h.bytes
  have c1 := h.place
  have hd : decide ((L : Int) - (k : Int) < n) = true := by simpa using hn
  have hk' : (k : Int) ≤ (L : Int) := by omega
  clear h hn
  go_enter Tryz.func175, Tryz.ntmps175
  go_wp2
  go_quiet (fail)
  go_wp2
  go_ret2
  exact ⟨rfl, gb_drewN _ _⟩

set_option maxHeartbeats 400000 in
theorem next_ok (r : Nat) (a : Option Addr) (zs : List Int) (L cap k n : Nat) (w : World) (h : At w r a L cap k) (hr : Rd w a zs) (hne : ∀ x, a = some x → x.block ≠ r) (hL : zs.length = L) (hcap : L ≤ cap) (hz : (L : Int) ≤ 140737488355000) (hn : k + n ≤ L) :
    Calls Tryz.prog 175 #[.pointer (some ⟨r, 0, none⟩), .int .u64 n] w fun e w' => ∃ v, e = .returned (.tuple #[.slice v n (cap - k), .int .i64 0]) ∧ Rd w' v ((zs.drop k).take n) ∧ w.grownBy w' (some r) ∧ At w' r a L cap (k + n : Nat) := by
  have c0 := h.bytes
  have c1 := h.place
  have hd : decide ((L : Int) - (k : Int) < (n : Int)) = false := by simp; omega
  have hk' : (k : Int) ≤ (L : Int) := by omega
  have HA : Hid (At w r a L cap k) := h
  have hsl : ∀ w, (Instr.slice 37 (.slice a L cap) (some (.int .i64 (k : Int))) (some (.int .i64 ((k : Int) + (n : Int)))) none).run Tryz.prog w = .ok (.slice (if cap = k then a else a.map (·.add k)) n (cap - k)) w := by
    intro w
    have e5 : Tryz.prog.elem 37 = 5 := by simp [Program.elem, Tryz.underlying37]
    rw [run_slice_lh w 37 a L cap (by rw [e5]; exact Tryz.underlying37) .i64 .i64 (k : Int) ((k : Int) + (n : Int)) (by omega) (by omega) (by omega), e5]
    have hz5 : (sizeOf 5).run Tryz.prog w = .ok 1 w := by
      obtain ⟨i0, hi, _, hz1, _⟩ := info_parts info5
      simp [sizeOf, typeInfo, hi, hz1]
    rw [hz5, show ((k : Int) + (n : Int)).toNat = k + n by omega]
    simp [Result.andThen, sliced]
  have HV : Hid (∀ w', Rd w' a zs → Rd w' (if cap = k then a else a.map (·.add k)) ((zs.drop k).take n)) := by
    intro w' hr'
    by_cases h0 : n = 0
    · subst h0
      exact ⟨.inl (by simp), by simp⟩
    · obtain ⟨b, off, rfl, hc⟩ := hr'.at (by omega)
      have e : (if cap = k then some (⟨b, off, none⟩ : Addr) else (some (⟨b, off, none⟩ : Addr)).map (·.add k)) = some ⟨b, off + k, none⟩ := by
        rw [if_neg (by omega)]
        by_cases h0 : k = 0
        · subst h0; rfl
        · simp [Addr.add, h0]
      rw [e]
      exact (rd_window hc hr'.2 k n (by omega)).1
  have hR0 : Rd w a zs := hr
  generalize (if cap = k then a else a.map (·.add k)) = v at hsl HV
  have HR : Hid (Rd w a zs) := hR0
  have HNE : Hid (∀ x, a = some x → some x.block ≠ some r) := fun x hx e => hne x hx (Option.some.inj e)
  have hkn : (k : Int) + (n : Int) ≤ 140737488355000 := by omega
  have hnl : (n : Int) ≤ 140737488355000 := by omega
  clear h hr hL hR0 hn hne
  go_enter Tryz.func175, Tryz.ntmps175
  go_wp2
  go_quiet (fail)
  obtain ⟨w1, ew⟩ : ∃ w1, w1 = w.drewN nq := ⟨_, rfl⟩
  rw [← ew]
  have d0 : w1.cell? ⟨r, 0, none⟩ = some (.slice a L cap) := by rw [ew]; exact c0
  have d1 : w1.cell? ⟨r, 1, none⟩ = some (.int .i64 (k : Int)) := by rw [ew]; exact c1
  have HA1 : Hid (At w1 r a L cap k) := by show At _ _ _ _ _ _; rw [ew]; exact HA.out
  have hfro := HA1.out.free
  have HA2 : Hid (At (w1.setCell ⟨r, 1, none⟩ (.int .i64 ((k : Int) + (n : Int)))) r a L cap ((k : Int) + (n : Int))) := HA1.out.set _
  have HG2 : Hid (w.grownBy (w1.setCell ⟨r, 1, none⟩ (.int .i64 ((k : Int) + (n : Int)))) (some r)) := by
    show World.grownBy _ _ _
    rw [ew]
    exact gb_trans (gb_any (gb_drewN w nq) (some r)) (gb_set rfl) (fun k hk => .inr hk)
  clear ew c0 c1 HA
  go_wp2
  obtain ⟨w2, ew⟩ : ∃ w2, w2 = w1.setCell ⟨r, 1, none⟩ (.int .i64 ((k : Int) + (n : Int))) := ⟨_, rfl⟩
  rw [← ew] at HA2 HG2 ⊢
  have c0 := HA2.out.bytes
  have c1 := HA2.out.place
  have HR2 : Hid (Rd w2 a zs) := HR.out.grown HG2.out HNE.out
  clear ew d0 d1 hfro HA1
  go_quiet (fail)
  go_wp2
  go_ret2
  refine ⟨v, rfl, (HV.out w2 HR2.out).drewN _, gb_drewR HG2.out _, ?_⟩
  have := HA2.out.draw nq
  rwa [← Int.natCast_add] at this
end Go.Proofs.YtgpgkpciajajcaaGreatDoor

/- slices.Concat over slices of bytes, as the program calls it. -/
namespace Go.Proofs.YtgpgkpciajajcaaGreatDoor
open Go.RowKit
set_option linter.unusedVariables false

/-- append(out, xs...): out is the call's own or none, xs whatever is read. -/
theorem wpList_append_vv {w : World} {ops : Array Oper} {rest : List Oper} {o : Oper} {a : Act} {Q : Exit → Act → World → Prop} (hgd : o.guard = none) (s x : Operand)
    (ho : o.op = .call { callee := .builtin .append, args := #[s, x], argTypes := #[37, 37] }) (base : Nat) (v : Value) (n : Nat) (xs : List Int) (hs : a.eval s = v) (hown : OwnV w base v n xs)
    (src : Option Addr) (zs : List Int) (m cap : Nat) (hx : a.eval x = .slice src m cap) (hm : zs.length = m) (hr : Rd w src zs) (hnil : src = none → cap = 0) (hlen : n + m ≤ 140737488355328) (hb : base ≤ w.heap.size)
    (h : ∀ v' w', OwnV w' base v' (n + m) (xs ++ zs) → w.grownBy w' v.ownBlock → wpList Tryz.prog ops Q rest (a.put o.dst v') w') : wpList Tryz.prog ops Q (o :: rest) a w := by
  obtain ⟨i0, hi, hz0, hz1, hz2⟩ := info_parts info5
  subst hm
  cases src with
  | none =>
    obtain rfl := hnil rfl
    obtain rfl := hr.none
    refine wpList_append_own_none hgd s x 37 ho base 5 i0 1 Tryz.underlying37 hi v n (bs xs) hs hown.1 hx ?_
    have := h v w (by simpa using hown) (World.grownBy.refl _ _)
    simpa using this
  | some ad =>
    refine wpList_append_own _ hgd s x 37 ho base 5 i0 (.int .u8 0) 1 1 Tryz.underlying37 hi hz0 hz1 hz2 rfl (by decide) _ n (bs xs) hs hown.1 ad zs.length cap (bs zs) hx (by rw [bs_len]; omega) hr.news (bs_one zs) (by unfold maxLen; omega) (by omega) hb ?_
    intro v' w' hown' hg hne
    rw [← bs_app] at hown'
    exact h v' w' ⟨hown', fun z hz => by
      rcases List.mem_append.1 hz with h1 | h1
      · exact hown.2 z h1
      · exact hr.2 z h1⟩ hg

theorem zero_cells_size (z : Value) (hz : z.cells.size = 1) (n : Nat) : (Builtin.zeroCells z.cells n).size = n := by
  rw [size_zeroCells, hz]; omega

set_option maxHeartbeats 400000 in
theorem g_grow (n : Nat) (w : World) (hn : n ≤ 140737488355328) :
    Calls Tryz.prog 94 #[.slice none 0 0, .int .i64 n] w fun e w' => ∃ v, e = .returned v ∧ OwnV w' w.heap.size v 0 [] ∧ w.grownBy w' none := by
  obtain ⟨i0, hi, hz0, hz1, hz2⟩ := info_parts info5
  by_cases h0 : 0 < n
  · have hrz := fun ty => Lib.run_append_nil_zeros (P := Tryz.prog) w 37 3 ty 5 i0 (.int .u8 0) .i64 .i64 Tryz.underlying37 Tryz.underlying3 hi hz0 n h0 (by omega) (by omega) (by rw [hz2]; omega)
    have hGn : n ≤ grownCap w n 0 5 := grownCap_ge w _ _ _
    have hG63 := grownCap_le_maxLen w n 0 5 (by unfold maxLen; omega)
    obtain ⟨G, hG⟩ : ∃ G, G = grownCap w n 0 5 := ⟨_, rfl⟩
    rw [← hG] at hrz hGn hG63
    have HO : Hid (OwnV (w.drew.alloc (.cells (Builtin.zeroCells (Value.int .u8 0).cells n ++ Builtin.zeroCells (Value.int .u8 0).cells (G - n)) 5)) w.heap.size (.slice (some ⟨w.heap.size, 0, none⟩) 0 G) 0 []) :=
      ⟨World.ownsRow_made (e := 5) (size := 1) w.drew _ G (Nat.le_refl _) hG63 (by rw [Array.size_append, zero_cells_size _ rfl, zero_cells_size _ rfl]; omega), by simp⟩
    have HG : Hid (w.grownBy (w.drew.alloc (.cells (Builtin.zeroCells (Value.int .u8 0).cells n ++ Builtin.zeroCells (Value.int .u8 0).cells (G - n)) 5)) none) := (gb_drew (World.grownBy.refl w none)).trans (World.grownBy_alloc w.drew _ none)
    generalize Builtin.zeroCells (Value.int .u8 0).cells n ++ Builtin.zeroCells (Value.int .u8 0).cells (G - n) = Z at hrz HO HG
    have hGm : (G : Int) ≤ 9223372036854775807 := by unfold maxLen at hG63; omega
    clear hG hz0 hz1 hz2 hi hG63
    go_enter Tryz.func94, Tryz.ntmps94
    go_wp2_with (at_builtin; refine Lib.wpList_append_run _ rfl _ _ _ _ rfl _ _ rfl rfl _ _ (hrz _) ?_)
    go_ret
    exact ⟨_, rfl, HO.out, HG.out⟩
  · obtain rfl : n = 0 := by omega
    go_enter Tryz.func94, Tryz.ntmps94
    go_wp2
    go_ret
    exact ⟨_, rfl, OwnV.nil _ _, World.grownBy.refl _ _⟩

/-- One of the slices that are joined. -/
structure Piece where
  a : Option Addr
  n : Nat
  c : Nat
  zs : List Int
def Piece.val (p : Piece) : Value := .slice p.a p.n p.c
def Piece.ok (w : World) (p : Piece) : Prop := Rd w p.a p.zs ∧ p.zs.length = p.n ∧ (p.a = none → p.c = 0)
def total (ps : List Piece) : Nat := (ps.map (·.n)).sum
def joined (ps : List Piece) : List Int := ps.flatMap (·.zs)
theorem total_next {ps : List Piece} {i : Nat} {p : Piece} (h : ps[i]? = some p) : total (ps.take (i + 1)) = total (ps.take i) + p.n := by
  unfold total
  rw [List.take_add_one, h]
  simp
theorem joined_next {ps : List Piece} {i : Nat} {p : Piece} (h : ps[i]? = some p) : joined (ps.take (i + 1)) = joined (ps.take i) ++ p.zs := by
  unfold joined
  rw [List.take_add_one, h]
  simp
theorem total_le (ps : List Piece) (i : Nat) : total (ps.take i) ≤ total ps := by
  have h : total ps = total (ps.take i) + total (ps.drop i) := by
    unfold total
    rw [← List.sum_append, ← List.map_append, List.take_append_drop]
  omega

set_option maxHeartbeats 1000000 in
theorem g_concat (b : Nat) (ps : List Piece) (k : Nat) (w : World) (hk : ps.length = k) (hk8 : k ≤ 8) (hcells : ∀ i p, ps[i]? = some p → w.cell? ⟨b, i, none⟩ = some p.val) (hok : ∀ p ∈ ps, p.ok w) (hsz : total ps ≤ 140737488355328) (hpos : 0 < total ps) :
    Calls Tryz.prog 70 #[.slice (some ⟨b, 0, none⟩) k k] w fun e w' => ∃ g c N, e = .returned (.slice (some ⟨g, 0, none⟩) N c) ∧ Own w' w.heap.size g N c (joined ps) ∧ w.grownBy w' none := by
  have HK : Hid (ps.length = k) := hk
  have HC : Hid (∀ i p, ps[i]? = some p → w.cell? ⟨b, i, none⟩ = some p.val) := hcells
  have HO : Hid (∀ p ∈ ps, p.ok w) := hok
  have HP : Hid (0 < total ps) := hpos
  clear hk hcells hok hpos
  go_enter Tryz.func70, Tryz.ntmps70
  go_wp2
  go_loop [3, 11] (fun t3 t11 => ∃ (i : Nat), i ≤ k ∧ t11 = .int .i64 i ∧ t3 = .int .i64 (total (ps.take i) : Nat)) (fun _ t11 => k - (intOf t11).toNat)
  case atStart => exact ⟨0, Nat.zero_le _, rfl, by simp [total]⟩
  case round =>
    obtain ⟨i, hi, rfl, rfl⟩ := hrel
    by_cases hlt : i < k
    · obtain ⟨p, hp⟩ : ∃ p, ps[i]? = some p := ⟨_, List.getElem?_eq_getElem (by have := HK.out; omega)⟩
      have hcell := HC.out i p hp
      unfold Piece.val at hcell
      have HT : Hid (total (ps.take (i + 1)) = total (ps.take i) + p.n) := total_next hp
      have htl := total_le ps (i + 1)
      rw [HT.out] at htl
      generalize total (ps.take i) = S at HT htl ⊢
      clear hp
      obtain ⟨pa, pn, pc, pz⟩ := p
      simp only at hcell HT htl
      go_wp2
      go_round
      case rel => exact ⟨i + 1, by omega, by go_num, by rw [HT.out]; go_num⟩
      case measure => simp [intOf]; omega
    · obtain rfl : i = k := by omega
      have HT : Hid (total (ps.take i) = total ps) := by
        show _ = _
        rw [List.take_of_length_le (by have := HK.out; omega)]
      rw [HT.out]
      have HGR := g_grow (total ps) w hsz
      go_wp2_with fail
      refine HGR.mono ?_
      rintro e w1 ⟨v1, rfl, ho1, hg1⟩
      have HO1 : Hid (OwnV w1 w.heap.size v1 0 []) := ho1
      have HG1 : Hid (w.grownBy w1 none) := hg1
      clear ho1 hg1
      go_wp2
      go_loopw [6, 27] (fun t6 t27 wr => ∃ (m : Nat), m ≤ i ∧ t27 = .int .i64 m ∧ OwnV wr w.heap.size t6 (total (ps.take m)) (joined (ps.take m)) ∧ w.grownBy wr none) (fun _ t27 _ => i - (intOf t27).toNat)
      case atStart => exact ⟨0, Nat.zero_le _, rfl, by simpa [total, joined] using HO1.out, HG1.out⟩
      case round =>
        obtain ⟨m, hm, rfl, ho, hg⟩ := hrel
        have HV : Hid (OwnV wr w.heap.size u6 (total (ps.take m)) (joined (ps.take m))) := ho
        have HG : Hid (w.grownBy wr none) := hg
        clear ho hg HO1 HG1
        by_cases hlt2 : m < i
        · obtain ⟨p, hp⟩ : ∃ p, ps[m]? = some p := ⟨_, List.getElem?_eq_getElem (by have := HK.out; omega)⟩
          have hcell := HG.out.cell (HC.out m p hp) (by simp)
          have hpo := HO.out p (List.mem_of_getElem? hp)
          unfold Piece.val at hcell
          unfold Piece.ok at hpo
          have HR : Hid (Rd wr p.a p.zs) := hpo.1.grown HG.out (by simp)
          have HL : Hid (p.zs.length = p.n) := hpo.2.1
          have HNil : Hid (p.a = none → p.c = 0) := hpo.2.2
          have HT : Hid (total (ps.take (m + 1)) = total (ps.take m) + p.n) := total_next hp
          have HJ : Hid (joined (ps.take (m + 1)) = joined (ps.take m) ++ p.zs) := joined_next hp
          have htl := total_le ps (m + 1)
          rw [HT.out] at htl
          have HW : Hid (w.heap.size ≤ wr.heap.size) := HG.out.size
          have HGo : Hid (∀ w2, wr.grownBy w2 u6.ownBlock → w.grownBy w2 none) := fun w2 h => gb_trans HG.out h (fun q hq => .inl (HV.out.block q hq).1)
          generalize total (ps.take m) = S at HT HV htl ⊢
          generalize joined (ps.take m) = J at HJ HV ⊢
          clear hp hpo
          obtain ⟨pa, pn, pc, pz⟩ := p
          simp only at hcell HR HL HNil HT HJ htl
          go_wp2_with (at_builtin; refine wpList_append_vv rfl (.tmp 31) (.tmp 32) rfl w.heap.size u6 S J rfl HV.out pa pz pn pc rfl HL.out HR.out HNil.out (by omega) HW.out ?_; intro v2 w2 ho2 hg2)
          go_roundw
          case rel => exact ⟨m + 1, by omega, by go_num, by rw [HT.out, HJ.out]; exact ho2, HGo.out _ hg2⟩
          case measure => simp [intOf]; omega
        · obtain rfl : m = i := by omega
          have HV2 : Hid (∃ g c, u6 = .slice (some ⟨g, 0, none⟩) (total ps) c ∧ Own wr w.heap.size g (total ps) c (joined ps)) := by
            have h := HV.out
            rw [List.take_of_length_le (by have := HK.out; omega)] at h
            refine Own.of h.1 ?_ h.2
            intro e
            rcases h.1.2 with ⟨_, h'⟩ | ⟨g, cap, cur, h', _⟩
            · have := HP.out; omega
            · rw [e] at h'; simp at h'
          clear HV
          go_wp2
          go_ret
          obtain ⟨g, c, e, h⟩ := HV2.out
          exact ⟨g, c, _, by rw [e]; rfl, h, HG.out⟩
end Go.Proofs.YtgpgkpciajajcaaGreatDoor

/- The sum: bit by bit, by a table, and that no two bytes give one. -/
namespace Go.Proofs.YtgpgkpciajajcaaGreatDoor

def stepN (c : Nat) : Nat := if c % 2 = 1 then c / 2 ^^^ 3988292384 else c / 2
def stepsN : Nat → Nat → Nat
  | 0, c => c
  | k + 1, c => stepsN k (stepN c)
theorem half_xor (a b : Nat) : (a ^^^ b) / 2 = a / 2 ^^^ b / 2 := by
  have h := Nat.shiftRight_xor_distrib (a := a) (b := b) (i := 1)
  simpa [Nat.shiftRight_succ] using h
theorem odd_xor (a b : Nat) : (a ^^^ b) % 2 = (a % 2 + b % 2) % 2 := by
  have h := Nat.xor_mod_two_pow (a := a) (b := b) (n := 1)
  rw [Nat.pow_one] at h
  rw [h]
  rcases Nat.mod_two_eq_zero_or_one a with ha | ha <;> rcases Nat.mod_two_eq_zero_or_one b with hb | hb <;> rw [ha, hb] <;> rfl
theorem stepN_xor (a b : Nat) : stepN (a ^^^ b) = stepN a ^^^ stepN b := by
  unfold stepN
  rw [half_xor, odd_xor]
  rcases Nat.mod_two_eq_zero_or_one a with ha | ha <;> rcases Nat.mod_two_eq_zero_or_one b with hb | hb
  · simp [ha, hb]
  · simp [ha, hb, Nat.xor_assoc]
  · simp only [ha, hb]
    simp only [if_true, Nat.zero_ne_one, if_false]
    rw [Nat.xor_assoc, Nat.xor_assoc, Nat.xor_comm 3988292384]
  · simp only [ha, hb]
    simp only [Nat.reduceAdd, Nat.mod_self, Nat.zero_ne_one, if_false, if_true]
    rw [Nat.xor_assoc, Nat.xor_comm 3988292384, Nat.xor_assoc, Nat.xor_self, Nat.xor_zero]
theorem stepsN_xor (k a b : Nat) : stepsN k (a ^^^ b) = stepsN k a ^^^ stepsN k b := by
  induction k generalizing a b with
  | zero => rfl
  | succ k ih => simp only [stepsN]; rw [stepN_xor, ih]
theorem stepN_even (y : Nat) : stepN (2 * y) = y := by
  unfold stepN
  rw [if_neg (by omega)]; omega
theorem stepsN_pow (k y : Nat) : stepsN k (2 ^ k * y) = y := by
  induction k with
  | zero => simp [stepsN]
  | succ k ih =>
    simp only [stepsN]
    rw [Nat.pow_succ, show 2 ^ k * 2 * y = 2 * (2 ^ k * y) by rw [Nat.mul_comm (2 ^ k) 2, Nat.mul_assoc], stepN_even]
    exact ih
theorem split8 (x : Nat) : x = x % 256 ^^^ 2 ^ 8 * (x / 256) := by
  apply Nat.eq_of_testBit_eq
  intro i
  rw [Nat.testBit_xor, show 256 = 2 ^ 8 from rfl, Nat.testBit_mod_two_pow, Nat.testBit_two_pow_mul, Nat.testBit_div_two_pow]
  by_cases h : i < 8
  · have h8 : ¬ 8 ≤ i := by omega
    simp [h, h8]
  · have h8 : 8 ≤ i := by omega
    have : i - 8 + 8 = i := by omega
    simp [h, h8, this]
/-- By a table of 256: the low byte's sum, and the rest shifted. -/
theorem steps8 (x : Nat) : stepsN 8 x = stepsN 8 (x % 256) ^^^ x / 256 := by
  conv => lhs; rw [split8 x]
  rw [stepsN_xor, stepsN_pow]
theorem stepN_lt (c : Nat) (h : c < 2 ^ 32) : stepN c < 2 ^ 32 := by
  unfold stepN
  split
  · exact Nat.xor_lt_two_pow (by omega) (by omega)
  · omega
theorem crc1_nat (c : Nat) (h : c < 2 ^ 32) : crc1 (c : Int) = (stepN c : Int) := by
  unfold crc1 stepN
  by_cases ho : c % 2 = 1
  · rw [if_pos (by omega), if_pos ho, show (c : Int) / 2 = ((c / 2 : Nat) : Int) by omega, show (3988292384 : Int) = ((3988292384 : Nat) : Int) from rfl, u32_xor_nat _ _ (by omega) (by omega)]
  · rw [if_neg (by omega), if_neg ho]; omega
theorem crcN_nat (k : Nat) : ∀ (c : Nat), c < 2 ^ 32 → crcN k (c : Int) = (stepsN k c : Int) := by
  induction k with
  | zero => intro c _; rfl
  | succ k ih => intro c h; simp only [crcN, stepsN]; rw [crc1_nat c h]; exact ih _ (stepN_lt c h)
theorem crcB_nat (c z : Nat) (hc : c < 2 ^ 32) (hz : z < 256) : crcB (c : Int) (z : Int) = (stepsN 8 (c ^^^ z) : Int) := by
  unfold crcB
  rw [u32_xor_nat c z (by omega) (by omega)]
  exact crcN_nat 8 _ (Nat.xor_lt_two_pow hc (by omega))
end Go.Proofs.YtgpgkpciajajcaaGreatDoor

/- The program's Sum. -/
namespace Go.Proofs.YtgpgkpciajajcaaGreatDoor
open Go.RowKit
set_option linter.unusedVariables false

set_option maxHeartbeats 400000 in
theorem g_eight (c0 R : Int) (w : World) (hc : 0 ≤ c0 ∧ c0 ≤ 4294967295) (hR : crcN 8 c0 = R) :
    Calls Tryz.prog 178 #[.int .u32 c0] w fun e w' => e = .returned (.int .u32 R) ∧ w = w' := by
  have HX : Hid (0 ≤ c0 ∧ c0 ≤ 4294967295) := hc
  have HR : Hid (crcN 8 c0 = R) := hR
  clear hR
  go_enter Tryz.func178, Tryz.ntmps178
  go_wp2
  go_loop [0, 3] (fun t0 t3 => ∃ (k : Nat) (d : Int), k ≤ 8 ∧ CrcAt c0 k d ∧ t0 = .int .u32 d ∧ t3 = .int .i64 k) (fun _ t3 => 8 - (intOf t3).toNat)
  case atStart => exact ⟨0, c0, by omega, rfl, rfl, rfl⟩
  case round =>
    obtain ⟨k, d, hk, hd, rfl, rfl⟩ := hrel
    have HD : Hid (CrcAt c0 k d) := hd
    have hdb := hd.bd HX.out
    clear hd
    by_cases hk8 : k < 8
    · by_cases hodd : d % 2 = 1
      · have e1 : (d % 2 == 0) = false := by simp; omega
        have HDN : Hid (CrcAt c0 (k + 1) (bits .xor .u32 (d / 2) 3988292384)) := HD.out.odd hodd
        clear hodd
        go_wp2
        go_round
        case rel => exact ⟨k + 1, _, by omega, HDN.out, rfl, by go_num⟩
        case measure => simp [intOf]; omega
      · have e1 : (d % 2 == 0) = true := by simp; omega
        have HDN : Hid (CrcAt c0 (k + 1) (d / 2)) := HD.out.even hodd
        clear hodd
        go_wp2
        go_round
        case rel => exact ⟨k + 1, _, by omega, HDN.out, rfl, by go_num⟩
        case measure => simp [intOf]; omega
    · have hk' : k = 8 := by omega
      subst hk'
      go_wp2
      go_ret
      exact ⟨ret_int (by have := HD.out; unfold CrcAt at this; rw [this]; exact HR.out), rfl⟩

set_option maxHeartbeats 400000 in
theorem g_plain (a : Option Addr) (zs : List Int) (L cap : Nat) (R : Int) (w : World) (hr : Rd w a zs) (hL : zs.length = L) (hz : (L : Int) ≤ 140737488355328) (hR : sumR zs = R) :
    Calls Tryz.prog 157 #[.slice a L cap] w fun e w' => e = .returned (.int .u32 R) ∧ w = w' := by
  have HR : Hid (Rd w a zs) := hr
  have HL : Hid (zs.length = L) := hL
  have HS : Hid (sumR zs = R) := hR
  clear hr hL hR
  go_enter Tryz.func157, Tryz.ntmps157
  go_wp2
  go_loop [3, 8] (fun t3 t8 => ∃ (j : Nat) (c : Int), j ≤ L ∧ SumAt zs j c ∧ t3 = .int .u32 c ∧ t8 = .int .i64 j) (fun _ t8 => L - (intOf t8).toNat)
  case atStart => exact ⟨0, 4294967295, Nat.zero_le _, rfl, rfl, rfl⟩
  case round =>
    obtain ⟨j, c, hj, hs, rfl, rfl⟩ := hrel
    have HJ : Hid (SumAt zs j c) := hs
    have hcb := hs.bd HR.out.2
    clear hs
    by_cases hlt : j < L
    · have hl := HL.out
      obtain ⟨b, off, rfl, hc⟩ := HR.out.at (by omega)
      have hcell := hc j (by omega)
      have hby := HR.out.byte j
      have HN : Hid (SumAt zs (j + 1) (crcB c (zs.getD j 0))) := HJ.out.next (by omega)
      obtain ⟨z, ez⟩ : ∃ z, z = zs.getD j 0 := ⟨_, rfl⟩
      rw [← ez] at hcell hby HN
      have hxb := xor32_bd c z hcb (by omega)
      have HC : Hid (Calls Tryz.prog 178 #[.int .u32 (bits .xor .u32 c z)] w fun e w' => e = .returned (.int .u32 (crcB c z)) ∧ w = w') := g_eight _ _ w hxb rfl
      clear hc ez hl HJ
      go_wp2_with (go_at_call 178; refine HC.out.mono ?_; rintro e w1 ⟨rfl, rfl⟩)
      go_round
      case rel => exact ⟨j + 1, _, by omega, HN.out, rfl, by go_num⟩
      case measure => simp [intOf]; omega
    · have HE : Hid (bits .xor .u32 c 4294967295 = R) := by
        have h1 := HJ.out
        unfold SumAt at h1
        rw [List.take_of_length_le (by have := HL.out; omega)] at h1
        show _ = _
        rw [h1]; exact HS.out
      go_wp2
      go_ret
      exact ⟨ret_int HE.out, rfl⟩


def tab (i : Nat) : Value := .int .u32 (crcN 8 (i : Int))
def tabs : List Value := (List.range 256).map tab

theorem info125 : (Tryz.prog.info? 181).map (fun i => (i.zero, i.size)) = some (some (.agg (Array.replicate 256 (.int .u32 0))), 256) := by kernel_rfl
theorem size54 : (Tryz.prog.info? 181).map (·.size) = some 256 := by kernel_rfl
theorem under54 : Tryz.prog.underlying 181 = some (.array 256 152) := by kernel_rfl
theorem zero54 (w : World) : (zeroValue 181).run Tryz.prog w = .ok (.agg (Array.replicate 256 (.int .u32 0))) w := by
  have h := info125
  cases hq : Tryz.prog.info? 181 with
  | none => rw [hq] at h; simp at h
  | some i =>
    rw [hq] at h
    simp only [Option.map_some, Option.some.injEq, Prod.mk.injEq] at h
    simp [zeroValue, typeInfo, hq, h.1]

/-- The table, as far as it is made. -/
def TabAt (w : World) (g k : Nat) : Prop := ∃ cur : Array Value, w.heap[g]? = some (.cells cur 181 (0, 0)) ∧ cur.size = 256 ∧ (∀ j, j < k → cur[j]? = some (tab j)) ∧ cur.all (·.oneCell') = true
theorem TabAt.set {w : World} {g k : Nat} (h : TabAt w g k) (hk : k < 256) : TabAt (w.setCell ⟨g, k, none⟩ (tab k)) g (k + 1) := by
  obtain ⟨cur, h1, h2, h3, h4⟩ := h
  refine ⟨cur.setIfInBounds k (tab k), ?_, by simpa using h2, ?_, ?_⟩
  · rw [setCell_eq_setRow w g k cur 181 (0, 0) (tab k) h1, setRow_heap w g cur _ 181 _ h1]
  · intro j hj
    by_cases e : j = k
    · subst e; simp [h2, hk]
    · rw [Array.getElem?_setIfInBounds_ne (by omega)]
      exact h3 j (by omega)
  · rw [Array.all_eq_true] at h4 ⊢
    intro j hj
    rw [Array.getElem_setIfInBounds]
    split
    · rfl
    · exact h4 j (by simpa using hj)
theorem TabAt.done {w : World} {g : Nat} (h : TabAt w g 256) : w.heap[g]? = some (.cells tabs.toArray 181 (0, 0)) := by
  obtain ⟨cur, h1, h2, h3, h4⟩ := h
  rw [h1]
  have : cur = tabs.toArray := by
    apply Array.ext
    · rw [h2]; simp [tabs]
    · intro j hj hj'
      have := h3 j (by omega)
      rw [Array.getElem?_eq_getElem hj] at this
      simp only [Option.some.injEq] at this
      rw [this]
      simp [tabs]
  rw [this]
theorem tabs_size : tabs.toArray.size = 256 := by simp [tabs]
theorem tabs_one : tabs.toArray.all (·.oneCell') = true := by
  rw [Array.all_eq_true]
  intro j hj
  simp [tabs, tab]
  rfl

theorem alloc_size (w : World) (o : Obj) : (w.alloc o).heap.size = w.heap.size + 1 := Array.size_push _
theorem alloc2_new (w : World) (o1 o2 : Obj) : ((w.alloc o1).alloc o2).heap[w.heap.size + 1]? = some o2 := by
  have := heap_alloc_new (w.alloc o1) o2
  rwa [alloc_size] at this
theorem alloc2_old (w : World) (o1 o2 : Obj) : ((w.alloc o1).alloc o2).heap[w.heap.size]? = some o1 := by
  rw [(World.grownBy_alloc (w.alloc o1) o2 none).block w.heap.size (by rw [alloc_size]; omega) (by simp)]
  exact heap_alloc_new w o1
theorem Z_one : (Array.replicate 256 (Value.int .u32 0)).all (·.oneCell') = true := by
  rw [Array.all_eq_true]; intro j hj; rw [Array.getElem_replicate]; rfl

theorem results_cell {fn : Func} {p : Tmp} {ty : TypeId} (h : fn.results = #[.cell p ty]) (tmps : Array Value) (P : Program) (w : World) (ad : Addr) (v : Value) (h1 : tmps.getD p undef = .pointer (some ad)) (h2 : (loadVar ty ad).run P w = .ok v w) :
    (results fn tmps).run P w = .ok v w := by
  rw [Array.getD_eq_getD_getElem?] at h1
  simp only [results, h]
  simp [h1, asAddr, h2]

set_option maxRecDepth 100000 in
set_option maxHeartbeats 1000000 in
theorem g_sums (w : World) :
    Calls Tryz.prog 159 #[] w fun e w' => e = .returned (.agg tabs.toArray) ∧ w.grownBy w' none := by
  have hz : ∀ w, (zeroValue 181).run Tryz.prog w = .ok (.agg (Array.replicate 256 (.int .u32 0))) w := zero54
  have HZ : Hid (TabAt ((w.alloc (.cells (Array.replicate 256 (.int .u32 0)) 181)).alloc (.cells (Array.replicate 256 (.int .u32 0)) 181)) (w.heap.size + 1) 0) :=
    ⟨Array.replicate 256 (.int .u32 0), alloc2_new _ _ _, Array.size_replicate, by simp, Z_one⟩
  have HS : Hid ((Array.replicate 256 (Value.int .u32 0)).size = 256) := Array.size_replicate
  generalize Array.replicate 256 (Value.int .u32 0) = Z at hz HZ HS
  have HDn : Hid (∀ w' : World, TabAt w' (w.heap.size + 1) 256 → w'.heap[w.heap.size + 1]? = some (.cells tabs.toArray 181 (0, 0))) := fun _ h => h.done
  have HTs : Hid (tabs.toArray.size = 256) := tabs_size
  have HTo : Hid (tabs.toArray.all (·.oneCell') = true) := tabs_one
  generalize tabs.toArray = T at HDn HTs HTo ⊢
  have u54 := under54
  go_enter Tryz.func159, Tryz.ntmps159
  go_wp2
  go_loopw [3] (fun t3 wr => ∃ (i : Nat), i ≤ 256 ∧ t3 = .int .i64 i ∧ TabAt wr (w.heap.size + 1) i ∧ w.grownBy wr none ∧ wr.heap[w.heap.size]? = some (.cells Z 181 (0, 0)) ∧ w.heap.size + 1 < wr.heap.size) (fun t3 _ => 256 - (intOf t3).toNat)
  case atStart => exact ⟨0, by omega, rfl, HZ.out, (World.grownBy_alloc w _ none).trans (World.grownBy_alloc _ _ none), alloc2_old _ _ _, by rw [alloc_size, alloc_size]; omega⟩
  case round =>
    obtain ⟨i, hi, rfl, ht, hg, hb, hsz⟩ := hrel
    have HT : Hid (TabAt wr (w.heap.size + 1) i) := ht
    have HG : Hid (w.grownBy wr none) := hg
    have HB : Hid (wr.heap[w.heap.size]? = some (.cells Z 181 (0, 0))) := hb
    have HW : Hid (w.heap.size + 1 < wr.heap.size) := hsz
    clear HZ hg hb hsz
    by_cases hlt : i < 256
    · have hcell : ∃ v, wr.cell? ⟨w.heap.size + 1, i, none⟩ = some v := by
        obtain ⟨cur, h1, h2, _⟩ := ht
        exact ⟨cur[i], by rw [cell_of_row wr _ i cur 181 _ h1, Array.getElem?_eq_getElem (by omega)]⟩
      obtain ⟨v0, hcell⟩ := hcell
      have hfro : wr.frozen? ⟨w.heap.size + 1, i, none⟩ = false := by
        obtain ⟨cur, h1, h2, _⟩ := ht
        simp [World.frozen?, h1]
      have HC : Hid (Calls Tryz.prog 178 #[.int .u32 (i : Int)] wr fun e w' => e = .returned (tab i) ∧ wr = w') := g_eight _ _ wr (by omega) rfl
      have HN : Hid (TabAt (wr.setCell ⟨w.heap.size + 1, i, none⟩ (tab i)) (w.heap.size + 1) (i + 1)) := HT.out.set hlt
      unfold tab at HC HN
      generalize crcN 8 (i : Int) = r at HC HN
      clear ht
      go_wp2_with (go_at_call 178; refine HC.out.mono ?_; rintro e w1 ⟨rfl, rfl⟩)
      go_roundw
      case rel => exact ⟨i + 1, by omega, by go_num, HN.out, gb_trans HG.out (gb_set rfl) (fun k hk => by simp at hk; subst hk; exact .inl (by omega)), ((gb_set (w := wr) (p := ⟨w.heap.size + 1, i, none⟩) (u := .int .u32 r) rfl).block w.heap.size (by have := HW.out; omega) (by simp)).trans HB.out, Nat.lt_of_lt_of_le HW.out (gb_set (w := wr) (p := ⟨w.heap.size + 1, i, none⟩) (u := .int .u32 r) rfl).size⟩
      case measure => simp [intOf]; omega
    · obtain rfl : i = 256 := by omega
      have hrow := HDn.out wr HT.out
      have HROW : Hid (wr.heap[w.heap.size + 1]? = some (.cells T 181 (0, 0))) := hrow
      have hst : (storeCells ⟨w.heap.size, 0, none⟩ T.toList).run Tryz.prog wr = .ok () (wr.setRow w.heap.size T) := by
        have := run_storeCells_from (P := Tryz.prog) w.heap.size 181 T.toList 0 Z wr HB.out (by have := HS.out; have := HTs.out; simp; omega) (fun v hv => (Array.all_eq_true_iff_forall_mem.1 HTo.out) v (by simpa using hv))
        simpa using this
      have HH : Hid ((wr.setRow w.heap.size T).heap[w.heap.size]? = some (.cells T 181 (0, 0))) := setRow_heap wr _ Z _ 181 _ HB.out
      have HGB : Hid (w.grownBy (wr.setRow w.heap.size T) none) := by
        refine ⟨HG.out.os, HG.out.tape, HG.out.output, ?_, ?_⟩
        · have := HG.out.size
          simpa [World.setRow] using this
        · intro k hk _
          rw [← HG.out.block k hk (by simp)]
          simp only [World.setRow]
          rw [Array.getElem?_modify]
          simp [show ¬ w.heap.size = k by omega]
      generalize wr.setRow w.heap.size T = w9 at hst HH HGB
      clear hrow ht
      go_wp2
      refine wp_load_row 181 (.tmp 1) rfl _ rfl 181 T (0, 0) _ HROW.out under54 rfl (by rw [size54, HTs.out]) ?_
      go_wp2
      have hl : (loadVar 181 ⟨w.heap.size, 0, none⟩).run Tryz.prog w9 = .ok (.agg T) w9 := run_loadVar_row w9 _ 181 181 _ _ _ HH.out under54 rfl (by rw [size54, HTs.out])
      refine bodyPost_ret (v := .agg T) (results_cell Tryz.results159 _ _ _ _ _ rfl hl) rfl ⟨rfl, HGB.out⟩
end Go.Proofs.YtgpgkpciajajcaaGreatDoor

