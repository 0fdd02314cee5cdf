/- The calls of package bits, as a statement uses them. -/
import Derived.Test.YtmljokpghhfcjaaFrame
namespace Go.Proofs.Ytmljokpghhfcjaa
open Go.RowKit

/-- Append, where it answers: all numbers by letters. -/
theorem append_go (a : Option Addr) (zs : List Int) (L cap : Nat) (n k : Nat) (nI kI M v : Int) (w : World) (hr : Rd w a zs) (hL : zs.length = L) (hz : L ≤ 140737488351240) (hn : nI = (n : Int)) (hk : kI = (k : Int)) (hM : (n : Int) + (k : Int) = M) (hv : 0 ≤ v ∧ v ≤ 18446744073709551615) (hW : wholeB zs n = true) (hk64 : k ≤ 64) :
    Calls Try.prog 10 #[.slice a L cap, .int .i64 nI, .int .u64 v, .int .i64 kI] w fun e w' => ∃ g c N, e = .returned (.tuple #[.slice (some ⟨g, 0, none⟩) N c, .int .i64 M, .bool true]) ∧ Own w' w.heap.size g N c (app zs n v k) ∧ w.grownBy w' none := by
  subst hL hn hk hM
  refine (append_yes a zs cap n k v w hr hz hv hW hk64).mono ?_
  rintro e w' ⟨g, c, rfl, ho, hg⟩
  exact ⟨g, c, _, rfl, ho, hg⟩

/-- What was appended to is whole, with as many bits. -/
theorem app_whole (zs : List Int) (n : Nat) (v : Int) (k : Nat) : wholeB (app zs n v k) ((n + k : Nat) : Int) = true := by
  refine (wholeB_iff (app zs n v k) (n + k) (by rw [app_len]; omega)).2 fun j h1 h2 => ?_
  rw [app_bit, appBit, if_neg (by omega), if_neg (by omega)]
theorem whole_nil : wholeB [] ((0 : Nat) : Int) = true := by decide

theorem and_low (x : Int) : 0 ≤ bits .and .i64 x 9223372036854775807 ∧ bits .and .i64 x 9223372036854775807 ≤ 9223372036854775807 := by
  have e : bits .and .i64 x 9223372036854775807 = IntKind.i64.wrap ((BitVec.ofInt 64 x &&& BitVec.ofInt 64 9223372036854775807).toNat : Int) := rfl
  have hb : (BitVec.ofInt 64 x &&& BitVec.ofInt 64 9223372036854775807).toNat ≤ 9223372036854775807 := by
    rw [BitVec.toNat_and]
    refine Nat.le_trans Nat.and_le_right ?_
    decide
  rw [e]
  generalize (BitVec.ofInt 64 x &&& BitVec.ofInt 64 9223372036854775807).toNat = t at *
  have : IntKind.i64.wrap (t : Int) = ((t : Int) + 9223372036854775808) % 18446744073709551616 - 9223372036854775808 := by
    simp [IntKind.wrap, IntKind.bits, IntKind.signed]
    split <;> omega
  omega

theorem Low_any (x : Int) (w : World) : Calls Try.prog 20 #[.int .i64 x] w fun e w' => ∃ r, e = .returned (.int .i64 r) ∧ 0 ≤ r ∧ r ≤ 9223372036854775807 ∧ w = w' := by
  have h := and_low x
  have H : Hid (0 ≤ bits .and .i64 x 9223372036854775807 ∧ bits .and .i64 x 9223372036854775807 ≤ 9223372036854775807) := h
  clear h
  go_enter Try.func20, Try.ntmps20
  go_wp2
  go_ret
  exact ⟨_, rfl, H.out.1, H.out.2, rfl⟩
end Go.Proofs.Ytmljokpghhfcjaa
