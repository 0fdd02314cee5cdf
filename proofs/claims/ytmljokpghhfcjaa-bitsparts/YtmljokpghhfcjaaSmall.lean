/- The small calls of package bits: how many bytes some bits take, whether a width may be, whether a string of bits is one. -/
import Derived.Test.YtmljokpghhfcjaaRows
import Derived.WalkKit
import Derived.WalkSpells
import Derived.WalkLawsBesides
namespace Go.Proofs.Ytmljokpghhfcjaa
open Go.RowKit

theorem ret_int {k : IntKind} {a b : Int} (h : a = b) : Ending.returned (.int k a) = .returned (.int k b) := by rw [h]
theorem ret_bool {a b : Bool} (h : a = b) : Ending.returned (.bool a) = .returned (.bool b) := by rw [h]

set_option maxHeartbeats 400000 in
theorem bytesOf_any (n : Int) (w : World) (h0 : 0 ≤ n) (h1 : n ≤ 9223372036854775807) :
    Calls Try.prog 23 #[.int .i64 n] w fun e w' => e = .returned (.int .i64 ((n + 7) / 8)) ∧ w = w' := by
  by_cases h : n % 8 = 0
  · have H : Hid (n / 8 = (n + 7) / 8) := by show _ = _; omega
    go_enter Try.func23, Try.ntmps23
    go_wp2
    go_ret
    exact ⟨ret_int H.out, rfl⟩
  · have H : Hid (n / 8 + 1 = (n + 7) / 8) := by show _ = _; omega
    go_enter Try.func23, Try.ntmps23
    go_wp2
    go_ret
    exact ⟨ret_int H.out, rfl⟩

def widthB (n : Int) : Bool := decide (0 ≤ n ∧ n ≤ 64)
set_option maxHeartbeats 400000 in
theorem isWidth_any (n : Int) (w : World) :
    Calls Try.prog 22 #[.int .i64 n] w fun e w' => e = .returned (.bool (widthB n)) ∧ w = w' := by
  by_cases h : 0 ≤ n
  · go_enter Try.func22, Try.ntmps22
    go_wp2
    go_ret
    exact ⟨ret_bool (by simp [widthB, h]), rfl⟩
  · go_enter Try.func22, Try.ntmps22
    go_wp2
    go_ret
    exact ⟨ret_bool (by simp [widthB]; omega), rfl⟩

/-- What is read of a slice of bytes: its cells, wherever it lies. -/
def Rd (w : World) (a : Option Addr) (zs : List Int) : Prop :=
  (zs = [] ∨ ∃ b off, a = some ⟨b, off, none⟩ ∧ ∀ i, i < zs.length → w.cell? ⟨b, off + i, none⟩ = some (.int .u8 (zs.getD i 0))) ∧ ∀ z ∈ zs, 0 ≤ z ∧ z ≤ 255

theorem Rd.at {w : World} {a : Option Addr} {zs : List Int} (h : Rd w a zs) (hz : 0 < zs.length) :
    ∃ b off, a = some ⟨b, off, none⟩ ∧ ∀ i, i < zs.length → w.cell? ⟨b, off + i, none⟩ = some (.int .u8 (zs.getD i 0)) := by
  rcases h.1 with rfl | h
  · simp at hz
  · exact h
theorem Rd.byte {w : World} {a : Option Addr} {zs : List Int} (h : Rd w a zs) (i : Nat) : 0 ≤ zs.getD i 0 ∧ zs.getD i 0 ≤ 255 := by
  by_cases hi : i < zs.length
  · have := h.2 zs[i] (List.getElem_mem hi)
    simpa [List.getD_eq_getElem?_getD, hi] using this
  · simp [List.getD_eq_getElem?_getD, List.getElem?_eq_none (Nat.le_of_not_lt hi)]

def wholeB (zs : List Int) (n : Int) : Bool :=
  decide (0 ≤ n) && (decide ((zs.length : Int) = (n + 7) / 8) && (decide (n % 8 = 0) || decide (zs.getD (zs.length - 1) 0 * 2 ^ (n % 8).toNat % 256 = 0)))

set_option maxHeartbeats 400000 in
theorem whole_odd (a : Option Addr) (zs : List Int) (cap : Nat) (n : Int) (w : World) (hr : Rd w a zs) (h0 : 0 ≤ n) (h1 : n ≤ 9223372036854775807) (hl : (zs.length : Int) = (n + 7) / 8) (h8 : ¬ n % 8 = 0) :
    Calls Try.prog 11 #[.slice a zs.length cap, .int .i64 n] w fun e w' => e = .returned (.bool (decide (zs.getD (zs.length - 1) 0 * 2 ^ (n % 8).toNat % 256 = 0))) ∧ w = w' := by
  obtain ⟨b, off, rfl, hc⟩ := hr.at (by omega)
  have hcell := hc (zs.length - 1) (by omega)
  have hb := hr.byte (zs.length - 1)
  clear hc hr
  obtain ⟨z, hz⟩ : ∃ z, z = zs.getD (zs.length - 1) 0 := ⟨_, rfl⟩
  rw [← hz] at hcell hb ⊢
  clear hz
  obtain ⟨L, hL⟩ : ∃ L, L = zs.length := ⟨_, rfl⟩
  rw [← hL] at hl hcell ⊢
  clear hL
  have HL : ((L : Int) != ((n + 7) / 8)) = false := by simp; omega
  have H8 : (n % 8 == 0) = false := by simp; omega
  have hn : decide (n < 0) = false := by simp; omega
  have hp : 1 ≤ (L : Int) ∧ (L : Int) ≤ 9223372036854775807 := by omega
  clear hl h8
  go_enter Try.func11, Try.ntmps11
  go_wp2_with (go_at_call 23; refine (bytesOf_any _ _ (by omega) (by omega)).mono ?_; rintro e w' ⟨rfl, rfl⟩)
  go_ret
  refine ⟨ret_bool ?_, rfl⟩
  by_cases hz : z * 2 ^ (n % 8).toNat % 256 = 0 <;> simp [hz]

set_option maxHeartbeats 400000 in
theorem whole_even (a : Option Addr) (L : Nat) (cap : Nat) (n : Int) (w : World) (h0 : 0 ≤ n) (h1 : n ≤ 9223372036854775807) (hl : (L : Int) = (n + 7) / 8) (h8 : n % 8 = 0) :
    Calls Try.prog 11 #[.slice a L cap, .int .i64 n] w fun e w' => e = .returned (.bool true) ∧ w = w' := by
  have HL : ((L : Int) != ((n + 7) / 8)) = false := by simp; omega
  have H8 : (n % 8 == 0) = true := by simp; omega
  have hn : decide (n < 0) = false := by simp; omega
  clear hl h8
  go_enter Try.func11, Try.ntmps11
  go_wp2_with (go_at_call 23; refine (bytesOf_any _ _ (by omega) (by omega)).mono ?_; rintro e w' ⟨rfl, rfl⟩)
  go_ret
  exact ⟨rfl, rfl⟩

set_option maxHeartbeats 400000 in
theorem whole_long (a : Option Addr) (L : Nat) (cap : Nat) (n : Int) (w : World) (h0 : 0 ≤ n) (h1 : n ≤ 9223372036854775807) (hl : ¬ (L : Int) = (n + 7) / 8) :
    Calls Try.prog 11 #[.slice a L cap, .int .i64 n] w fun e w' => e = .returned (.bool false) ∧ w = w' := by
  have HL : ((L : Int) != ((n + 7) / 8)) = true := by simp; omega
  have hn : decide (n < 0) = false := by simp; omega
  clear hl
  go_enter Try.func11, Try.ntmps11
  go_wp2_with (go_at_call 23; refine (bytesOf_any _ _ (by omega) (by omega)).mono ?_; rintro e w' ⟨rfl, rfl⟩)
  go_ret
  exact ⟨rfl, rfl⟩

set_option maxHeartbeats 400000 in
theorem whole_below (a : Option Addr) (L : Nat) (cap : Nat) (n : Int) (w : World) (h0 : n < 0) :
    Calls Try.prog 11 #[.slice a L cap, .int .i64 n] w fun e w' => e = .returned (.bool false) ∧ w = w' := by
  have hn : decide (n < 0) = true := by simp; omega
  go_enter Try.func11, Try.ntmps11
  go_wp2_with fail
  go_ret
  exact ⟨rfl, rfl⟩

/-- Whole, of any bytes and any number: P1.1's answer. -/
theorem whole_any (a : Option Addr) (zs : List Int) (cap : Nat) (n : Int) (w : World) (hr : Rd w a zs) (h1 : n ≤ 9223372036854775807) :
    Calls Try.prog 11 #[.slice a zs.length cap, .int .i64 n] w fun e w' => e = .returned (.bool (wholeB zs n)) ∧ w = w' := by
  by_cases h0 : 0 ≤ n
  · by_cases hl : (zs.length : Int) = (n + 7) / 8
    · by_cases h8 : n % 8 = 0
      · have e : wholeB zs n = true := by simp [wholeB, h0, hl, h8]
        rw [e]; exact whole_even a _ cap n w h0 h1 hl h8
      · have e : wholeB zs n = decide (zs.getD (zs.length - 1) 0 * 2 ^ (n % 8).toNat % 256 = 0) := by simp only [wholeB, h0, hl, h8]; simp
        rw [e]; exact whole_odd a zs cap n w hr h0 h1 hl h8
    · have e : wholeB zs n = false := by simp [wholeB, hl]
      rw [e]; exact whole_long a _ cap n w h0 h1 hl
  · have e : wholeB zs n = false := by simp [wholeB, h0]
    rw [e]; exact whole_below a _ cap n w (by omega)
end Go.Proofs.Ytmljokpghhfcjaa
