/- The document's own Whole and Read (layer 1). -/
import Derived.Test.YteahhkpbjkcmhaaDoorMs
import Derived.Test.YteahhkpbjkcmhaaDoorMh
namespace Go.Proofs.YteahhkpbjkcmhaaDoor
open Go.RowKit
set_option linter.unusedVariables false
def widthB (n : Int) : Bool := decide (0 ≤ n ∧ n ≤ 64)
def wholeB (zs : List Int) (n : Int) : Bool :=
  decide (0 ≤ n) && (decide ((zs.length : Int) = (n + 7) / 8) && (decide (n % 8 = 0) || decide (zs.getD (zs.length - 1) 0 * 2 ^ (n % 8).toNat % 256 = 0)))
def readB (zs : List Int) (n p k : Int) : Bool := wholeB zs n && (widthB k && (decide (0 ≤ p) && decide (p ≤ n - k)))
theorem wholeB_n {zs : List Int} {n : Int} (h : wholeB zs n = true) : 0 ≤ n ∧ (zs.length : Int) = (n + 7) / 8 ∧ n ≤ 8 * zs.length := by
  simp [wholeB] at h
  omega
theorem widthB_n {n : Int} (h : widthB n = true) : 0 ≤ n ∧ n ≤ 64 := by simpa [widthB] using h
theorem readB_n {zs : List Int} {n p k : Int} (h : readB zs n p k = true) : wholeB zs n = true ∧ widthB k = true ∧ 0 ≤ p ∧ p ≤ n - k := by simpa [readB] using h

theorem byte_clear (z : Int) (r : Nat) (hr : r < 8) (hr1 : 0 < r) :
    z * 2 ^ r % 256 = 0 ↔ ∀ s, r ≤ s → s < 8 → z / 2 ^ (7 - s) % 2 = 0 := by
  have e7 := fun (h : ∀ s, r ≤ s → s < 8 → z / 2 ^ (7 - s) % 2 = 0) => h 7
  constructor
  · intro h s hs hs8
    have hc : r = 1 ∨ r = 2 ∨ r = 3 ∨ r = 4 ∨ r = 5 ∨ r = 6 ∨ r = 7 := by omega
    have hd : s = 1 ∨ s = 2 ∨ s = 3 ∨ s = 4 ∨ s = 5 ∨ s = 6 ∨ s = 7 := by omega
    rcases hc with rfl | rfl | rfl | rfl | rfl | rfl | rfl <;> rcases hd with rfl | rfl | rfl | rfl | rfl | rfl | rfl <;> simp at h ⊢ <;> omega
  · intro h
    have a1 : r ≤ 1 → z / 64 % 2 = 0 := fun g => by simpa using h 1 g (by omega)
    have a2 : r ≤ 2 → z / 32 % 2 = 0 := fun g => by simpa using h 2 g (by omega)
    have a3 : r ≤ 3 → z / 16 % 2 = 0 := fun g => by simpa using h 3 g (by omega)
    have a4 : r ≤ 4 → z / 8 % 2 = 0 := fun g => by simpa using h 4 g (by omega)
    have a5 : r ≤ 5 → z / 4 % 2 = 0 := fun g => by simpa using h 5 g (by omega)
    have a6 : r ≤ 6 → z / 2 % 2 = 0 := fun g => by simpa using h 6 g (by omega)
    have a7 : r ≤ 7 → z % 2 = 0 := fun g => by simpa using h 7 g (by omega)
    have hc : r = 1 ∨ r = 2 ∨ r = 3 ∨ r = 4 ∨ r = 5 ∨ r = 6 ∨ r = 7 := by omega
    clear h e7
    rcases hc with rfl | rfl | rfl | rfl | rfl | rfl | rfl <;> simp at a1 a2 a3 a4 a5 a6 a7 ⊢ <;> omega

/-- A string of bits is whole just if the bits behind the n-th are 0. -/
theorem wholeB_iff (zs : List Int) (n : Nat) (hl : (zs.length : Int) = ((n : Int) + 7) / 8) :
    wholeB zs n = true ↔ ∀ j, n ≤ j → j < 8 * zs.length → bitOf zs j = 0 := by
  have h0 : (0 : Int) ≤ (n : Int) := by omega
  by_cases h8 : n % 8 = 0
  · have e : wholeB zs n = true := by simp [wholeB, hl]; left; omega
    simp only [e, true_iff]
    intro j h1 h2
    omega
  · have e : wholeB zs n = decide (zs.getD (zs.length - 1) 0 * 2 ^ ((n : Int) % 8).toNat % 256 = 0) := by
      have : ¬ (n : Int) % 8 = 0 := by omega
      simp only [wholeB, hl, this, h0]; simp
    have e2 : ((n : Int) % 8).toNat = n % 8 := by omega
    rw [e, e2, decide_eq_true_iff, byte_clear _ _ (by omega) (by omega)]
    constructor
    · intro h j h1 h2
      have := h (j % 8) (by omega) (by omega)
      have ej : j / 8 = zs.length - 1 := by omega
      unfold bitOf
      rw [ej]; exact this
    · intro h s h1 h2
      have := h (8 * (zs.length - 1) + s) (by omega) (by omega)
      unfold bitOf at this
      have e1 : (8 * (zs.length - 1) + s) / 8 = zs.length - 1 := by omega
      have e2 : (8 * (zs.length - 1) + s) % 8 = s := by omega
      rwa [e1, e2] at this

set_option maxHeartbeats 400000 in
theorem rwhole_len (a : Option Addr) (L : Nat) (cap : Nat) (n : Int) (w : World) (h0 : 0 ≤ n) (h1 : n ≤ 9223372036854775807) (hl : ¬ (L : Int) = (n + 7) / 8) :
    Calls Tryd.prog 55 #[.slice a L cap, .int .i64 n] w fun e w' => e = .returned (.bool false) ∧ w = w' := by
  have HL : ((L : Int) != (n / 8 + (n % 8 + 7) / 8)) = true := by simp; omega
  have hn : decide (n < 0) = false := by simp; omega
  clear hl
  go_enter Tryd.func55, Tryd.ntmps55
  go_wp2
  go_ret
  exact ⟨rfl, rfl⟩

set_option maxHeartbeats 400000 in
theorem rwhole_neg (a : Option Addr) (L : Nat) (cap : Nat) (n : Int) (w : World) (h0 : n < 0) :
    Calls Tryd.prog 55 #[.slice a L cap, .int .i64 n] w fun e w' => e = .returned (.bool false) ∧ w = w' := by
  have hn : decide (n < 0) = true := by simp; omega
  go_enter Tryd.func55, Tryd.ntmps55
  go_wp2
  go_ret
  exact ⟨rfl, rfl⟩

set_option maxHeartbeats 400000 in
theorem rwhole_loop (a : Option Addr) (zs : List Int) (cap : Nat) (n : Nat) (w : World) (hr : Rd w a zs) (hz : (zs.length : Int) ≤ 140737488351232) (hl : (zs.length : Int) = ((n : Int) + 7) / 8) :
    Calls Tryd.prog 55 #[.slice a zs.length cap, .int .i64 n] w fun e w' => e = .returned (.bool (wholeB zs n)) ∧ w = w' := by
  have HL : ((zs.length : Int) != ((n : Int) / 8 + ((n : Int) % 8 + 7) / 8)) = false := by simp; omega
  have hn : decide ((n : Int) < 0) = false := by simp
  have hn2 : n ≤ 8 * zs.length := by omega
  have HI : Hid (wholeB zs n = true ↔ ∀ j, n ≤ j → j < 8 * zs.length → bitOf zs j = 0) := wholeB_iff zs n hl
  have HR : Hid (Rd w a zs) := hr
  obtain ⟨L, hL⟩ : ∃ L, L = zs.length := ⟨_, rfl⟩
  have H5 : Hid (L = zs.length) := hL
  rw [← hL] at hz HL hn2 ⊢
  clear hl hr hL
  go_enter Tryd.func55, Tryd.ntmps55
  go_wp2
  go_loop [5] (fun i => ∃ k : Nat, n ≤ k ∧ k ≤ 8 * L ∧ i = .int .i64 k ∧ ∀ j, n ≤ j → j < k → bitOf zs j = 0) (fun i => 8 * L - (intOf i).toNat)
  case atStart => exact ⟨n, Nat.le_refl _, hn2, rfl, fun j h1 h2 => by omega⟩
  case round =>
    obtain ⟨k, hk1, hk2, rfl, hall⟩ := hrel
    have HA : Hid (∀ j, n ≤ j → j < k → bitOf zs j = 0) := hall
    clear hall
    by_cases hlt : k < 8 * L
    · have h5 := H5.out
      obtain ⟨b, off, rfl, hc⟩ := HR.out.at (by omega)
      have hcell := hc (k / 8) (by omega)
      have hby := HR.out.byte (k / 8)
      obtain ⟨z, ez⟩ : ∃ z, z = zs.getD (k / 8) 0 := ⟨_, rfl⟩
      have HZ : Hid (z = zs.getD (k / 8) 0) := ez
      rw [← ez] at hcell hby
      have H7 : Hid (bits .and .u8 (z / 2 ^ (7 - k % 8)) 1 = bitOf zs k) := by
        show _ = _
        rw [and_one z _ hby.1 hby.2, bitOf, ez]
      have h8 : k / 8 < L := by omega
      clear hc ez h5
      by_cases hbit : bitOf zs k = 1
      · have hb1 : (bits .and .u8 (z / 2 ^ (7 - k % 8)) 1 == 1) = true := by rw [H7.out, hbit]; rfl
        have HB : Hid (bitOf zs k = 1) := hbit
        clear hbit
        go_wp2
        go_ret
        refine ⟨ret_bool ?_, rfl⟩
        rw [eq_comm, Bool.eq_false_iff]
        intro h
        have := HI.out.1 h k hk1 (by have := H5.out; omega)
        rw [HB.out] at this
        omega
      · have hb1 : (bits .and .u8 (z / 2 ^ (7 - k % 8)) 1 == 1) = false := by rw [H7.out]; simpa using hbit
        have HB : Hid (¬ bitOf zs k = 1) := hbit
        clear hbit
        go_wp2
        go_round
        case rel =>
          refine ⟨k + 1, by omega, by omega, by go_num, fun j h1 h2 => ?_⟩
          by_cases hj : j < k
          · exact HA.out j h1 hj
          · have : j = k := by omega
            subst this
            have := bitOf_01 zs j
            have := HB.out
            omega
        case measure => simp [intOf]; omega
    · go_wp2
      go_ret
      refine ⟨ret_bool ?_, rfl⟩
      rw [eq_comm]
      refine HI.out.2 fun j h1 h2 => HA.out j h1 (by have := H5.out; omega)

/-- The document's Whole is P1.1's answer, too. -/
theorem rwhole_any (a : Option Addr) (zs : List Int) (cap : Nat) (n : Int) (w : World) (hr : Rd w a zs) (hz : (zs.length : Int) ≤ 140737488351232) (h1 : n ≤ 9223372036854775807) :
    Calls Tryd.prog 55 #[.slice a zs.length cap, .int .i64 n] w fun e w' => e = .returned (.bool (wholeB zs n)) ∧ w = w' := by
  by_cases h0 : 0 ≤ n
  · by_cases hl : (zs.length : Int) = (n + 7) / 8
    · obtain ⟨m, rfl⟩ := Int.eq_ofNat_of_zero_le h0
      exact rwhole_loop a zs cap m w hr hz hl
    · have e : wholeB zs n = false := by simp [wholeB, hl]
      rw [e]; exact rwhole_len a _ cap n w h0 h1 hl
  · have e : wholeB zs n = false := by simp [wholeB, h0]
    rw [e]; exact rwhole_neg a _ cap n w (by omega)

set_option maxHeartbeats 800000 in
theorem rread_no (a : Option Addr) (zs : List Int) (cap : Nat) (n p k : Int) (w : World) (hr : Rd w a zs) (hz : (zs.length : Int) ≤ 140737488351232) (hn : n ≤ 9223372036854775807) (hno : readB zs n p k = false) :
    Calls Tryd.prog 42 #[.slice a zs.length cap, .int .i64 n, .int .i64 p, .int .i64 k] w fun e w' => e = .returned (.tuple #[.int .u64 0, .bool false]) ∧ w = w' := by
  by_cases hW : wholeB zs n = true
  · have hWn := wholeB_n hW
    by_cases hK : k < 0
    · have hd : decide (k < 0) = true := by simpa using hK
      clear hno
      go_enter Tryd.func42, Tryd.ntmps42
      go_wp2_with (go_at_call 55; refine (rwhole_any _ _ _ _ _ hr hz hn).mono ?_; rintro e w' ⟨rfl, rfl⟩)
      go_ret2
      exact ⟨rfl, rfl⟩
    · have hd : decide (k < 0) = false := by simpa using hK
      by_cases hK' : 64 < k
      · have hd' : decide (64 < k) = true := by simpa using hK'
        clear hno
        go_enter Tryd.func42, Tryd.ntmps42
        go_wp2_with (go_at_call 55; refine (rwhole_any _ _ _ _ _ hr hz hn).mono ?_; rintro e w' ⟨rfl, rfl⟩)
        go_ret2
        exact ⟨rfl, rfl⟩
      · have hd' : decide (64 < k) = false := by simpa using hK'
        by_cases hp : p < 0
        · have hdp : decide (p < 0) = true := by simpa using hp
          clear hno
          go_enter Tryd.func42, Tryd.ntmps42
          go_wp2_with (go_at_call 55; refine (rwhole_any _ _ _ _ _ hr hz hn).mono ?_; rintro e w' ⟨rfl, rfl⟩)
          go_ret2
          exact ⟨rfl, rfl⟩
        · have hdp : decide (p < 0) = false := by simpa using hp
          have hq : decide (n - k < p) = true := by
            have hKB : widthB k = true := by simp [widthB]; omega
            simp [readB, hW, hKB] at hno
            simp; omega
          clear hno
          go_enter Tryd.func42, Tryd.ntmps42
          go_wp2_with (go_at_call 55; refine (rwhole_any _ _ _ _ _ hr hz hn).mono ?_; rintro e w' ⟨rfl, rfl⟩)
          go_ret2
          exact ⟨rfl, rfl⟩
  · have hW' : wholeB zs n = false := by simpa using hW
    clear hno hW
    go_enter Tryd.func42, Tryd.ntmps42
    go_wp2_with (go_at_call 55; refine (rwhole_any _ _ _ _ _ hr hz hn).mono ?_; rintro e w' ⟨rfl, rfl⟩)
    go_ret2
    exact ⟨rfl, rfl⟩

set_option maxHeartbeats 400000 in
theorem rread_yes (a : Option Addr) (zs : List Int) (cap : Nat) (n : Int) (p k : Nat) (w : World) (hr : Rd w a zs) (hn : n ≤ 9223372036854775807) (hz : (zs.length : Int) ≤ 140737488351232) (hy : readB zs n p k = true) :
    Calls Tryd.prog 42 #[.slice a zs.length cap, .int .i64 n, .int .i64 p, .int .i64 k] w fun e w' => e = .returned (.tuple #[.int .u64 (rdv zs p k), .bool true]) ∧ w = w' := by
  obtain ⟨hW, hK, hp0, hp1⟩ := readB_n hy
  have hWn := wholeB_n hW
  have hKn := widthB_n hK
  have d1 : decide ((k : Int) < 0) = false := by simp
  have d2 : decide ((64 : Int) < (k : Int)) = false := by simp; omega
  have d3 : decide ((p : Int) < 0) = false := by simp
  have d4 : decide (n - (k : Int) < (p : Int)) = false := by simp; omega
  have HR : Hid (Rd w a zs) := hr
  have H5 : p + k ≤ 8 * zs.length := by omega
  clear hy
  go_enter Tryd.func42, Tryd.ntmps42
  go_wp2_with (go_at_call 55; refine (rwhole_any _ _ _ _ _ hr hz hn).mono ?_; rintro e w' ⟨rfl, rfl⟩)
  clear hr
  go_loop [10, 11] (fun v i => ∃ q : Nat, q ≤ k ∧ i = .int .i64 ((p : Int) + q) ∧ v = .int .u64 (rdv zs p q)) (fun _ i => p + k - (intOf i).toNat)
  case atStart => exact ⟨0, Nat.zero_le _, rfl, rfl⟩
  case round =>
    obtain ⟨q, hq, rfl, rfl⟩ := hrel
    by_cases hlt : q < k
    · obtain ⟨b, off, rfl, hc⟩ := HR.out.at (by omega)
      have hcell := hc ((p + q) / 8) (by omega)
      have hby := HR.out.byte ((p + q) / 8)
      obtain ⟨z, ez⟩ : ∃ z, z = zs.getD ((p + q) / 8) 0 := ⟨_, rfl⟩
      rw [← ez] at hcell hby
      have hvb := rdv_63 zs p q (by omega)
      have H3 : Hid (bits .or .u64 (rdv zs p q * 2) (IntKind.u64.wrap (bits .and .u8 (z / 2 ^ (7 - (p + q) % 8)) 1)) = rdv zs p (q + 1)) := by
        show _ = _
        rw [or_step _ z _ hvb.1 hvb.2 hby.1 hby.2]
        simp only [rdv, bitOf, ez]
      have h8 : (p + q) / 8 < zs.length := by omega
      clear hc ez
      go_wp2
      go_round
      case rel => exact ⟨q + 1, by omega, by go_num, by rw [H3.out]⟩
      case measure => simp [intOf]; omega
    · have : q = k := by omega
      subst this
      go_wp2
      go_ret2
      exact ⟨rfl, rfl⟩
end Go.Proofs.YteahhkpbjkcmhaaDoor
