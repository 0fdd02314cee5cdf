/- decimal and Low. -/
import Derived.Test.YtkocdmkojoefoaaDe
namespace Go.Proofs.Ytkocdmkojoefoaa
open Go.RowKit
set_option linter.unusedVariables false
set_option maxRecDepth 20000

def boolM : Value → Nat
  | .bool true => 1
  | _ => 0
theorem rd_one (w : World) (x : Int) (hx : 0 ≤ x ∧ x ≤ 255) : Rd (w.alloc (.cells #[.int .u8 x] 5)) (some ⟨w.heap.size, 0, none⟩) [x] := rd_lit w [x] (fun z hz => by simp at hz; omega)
set_option maxHeartbeats 2000000 in
theorem r_decimal (n : Nat) (w : World) (hn : n < 1000000) : Calls Try.prog 14 #[.int .u64 (n : Int)] w fun e w' => (∃ D, e = .returned (.string (strOfNums D)) ∧ DcOk n D) ∧ w.grownBy w' none := by
  go_enter Try.func14, Try.ntmps14
  go_wp2
  go_loopw [0, 3, 4] (fun t0 t3 t4 wr => ∃ (u : Nat) (S : ByteArray) (l : List Int) (first : Bool), u ≤ 999999 ∧ t0 = .int .u64 (u : Int) ∧ t3 = .string S ∧ t4 = .bool first ∧ S = strOfNums l ∧ DcAt n u first l ∧ w.grownBy wr none) (fun t0 _ t4 _ => (intOf t0).toNat + boolM t4)
  case atStart => exact ⟨n, _, [], true, by omega, rfl, rfl, rfl, rfl, .inl ⟨rfl, rfl, rfl⟩, World.grownBy.refl _ _⟩
  case round =>
    obtain ⟨u, S, l, first, hu, rfl, rfl, rfl, hS, hd, hg⟩ := hrel
    have HD : Hid (DcAt n u first l) := hd
    have HG : Hid (w.grownBy wr none) := hg
    have HS : Hid (S = strOfNums l) := hS
    have hsz : S.size ≤ 6 := by rw [hS, strOfNums_size]; exact hd.len hn
    clear hd hg hS
    by_cases hc : first = true ∨ 0 < u
    · have HN : Hid (DcAt n (u / 10) false (((48 + u % 10 : Nat) : Int) :: l)) := HD.out.next hc
      have hcv : (convert 30 9 (.slice (some ⟨wr.heap.size, 0, none⟩) 1 1)).run Try.prog (wr.alloc (.cells #[.int .u8 (48 + (u : Int) % 10)] 5)) = .ok (.string ⟨#[UInt8.ofNat (48 + u % 10)]⟩) (wr.alloc (.cells #[.int .u8 (48 + (u : Int) % 10)] 5)) := by
        have h := conv_rd (wr.alloc (.cells #[.int .u8 (((48 + u % 10 : Nat) : Nat) : Int)] 5)) (some ⟨wr.heap.size, 0, none⟩) [(((48 + u % 10 : Nat) : Nat) : Int)] 1 1 (rd_one wr _ (by omega)) rfl
        rw [show strOfNums [(((48 + u % 10 : Nat) : Nat) : Int)] = ⟨#[UInt8.ofNat (48 + u % 10)]⟩ from rfl] at h
        rw [show (48 + (u : Int) % 10) = (((48 + u % 10 : Nat) : Nat) : Int) by omega]
        exact h
      have hb1 : (⟨#[UInt8.ofNat (48 + u % 10)]⟩ : ByteArray).size = 1 := rfl
      have HB : Hid ((⟨#[UInt8.ofNat (48 + u % 10)]⟩ : ByteArray) ++ S = strOfNums (((48 + u % 10 : Nat) : Int) :: l)) := by
        show _ = _
        rw [HS.out, one_str]
        congr 2
        simp
        omega
      generalize (⟨#[UInt8.ofNat (48 + u % 10)]⟩ : ByteArray) = b1 at hcv hb1 HB
      have hi0 : (0 : Int) ≤ (u : Int) := by omega
      have hi1 : (u : Int) ≤ 999999 := by omega
      have HGA : Hid (w.grownBy (wr.alloc (.cells #[.int .u8 (48 + (u : Int) % 10)] 5)) none) := HG.out.trans (World.grownBy_alloc _ _ none)
      cases first with
      | true =>
        clear hc
        go_wp2
        go_roundw
        case rel => exact ⟨u / 10, _, _, false, by omega, by go_num, rfl, rfl, HB.out, HN.out, HGA.out⟩
        case measure => simp [intOf, boolM]; omega
      | false =>
        have hu0 : 0 < u := by rcases hc with hc | hc; cases hc; exact hc
        have hq : decide ((0 : Int) < (u : Int)) = true := by simp; omega
        clear hc
        go_wp2
        go_roundw
        case rel => exact ⟨u / 10, _, _, false, by omega, by go_num, rfl, rfl, HB.out, HN.out, HGA.out⟩
        case measure => simp [intOf, boolM]; omega
    · have hf : first = false := by cases first with | true => exact absurd (.inl rfl) hc | false => rfl
      have h0 : u = 0 := by omega
      have HE : Hid (DcOk n l) := HD.out.done hf (by omega)
      subst hf h0
      clear hc
      go_wp2
      go_ret
      exact ⟨⟨l, ret_str HS.out, HE.out⟩, HG.out⟩
theorem r_low (x : Int) (w : World) : Calls Try.prog 15 #[.int .i64 x] w fun e w' => e = .returned (.int .i64 (bits .and .i64 x 9223372036854775807)) ∧ w = w' := by
  go_enter Try.func15, Try.ntmps15
  go_wp2
  go_ret
  exact ⟨rfl, rfl⟩
end Go.Proofs.Ytkocdmkojoefoaa
