/- The document's own Sum. -/
import Derived.Test.YtbhffjeoakalbaaGreatDoorCref
namespace Go.Proofs.YtbhffjeoakalbaaGreatDoor
open Go.RowKit

def SumAt (zs : List Int) (j : Nat) (c : Int) : Prop := c = crcL 4294967295 (zs.take j)
theorem SumAt.next {zs : List Int} {j : Nat} {c : Int} (h : SumAt zs j c) (hj : j < zs.length) : SumAt zs (j + 1) (crcB c (zs.getD j 0)) := by
  unfold SumAt at h ⊢
  rw [List.take_succ_eq_append_getElem hj, crcL_snoc, ← h]
  simp [List.getD_eq_getElem?_getD, List.getElem?_eq_getElem hj]
theorem SumAt.bd {zs : List Int} {j : Nat} {c : Int} (h : SumAt zs j c) (hz : ∀ z ∈ zs, 0 ≤ z ∧ z ≤ 255) : 0 ≤ c ∧ c ≤ 4294967295 := by
  unfold SumAt at h
  rw [h]
  exact crcL_bd _ _ (by omega) (fun z hm => hz z (List.mem_of_mem_take hm))
def CrcAt (c0 : Int) (k : Nat) (c : Int) : Prop := c = crcN k c0
theorem CrcAt.odd {c0 : Int} {k : Nat} {c : Int} (h : CrcAt c0 k c) (ho : c % 2 = 1) : CrcAt c0 (k + 1) (bits .xor .u32 (c / 2) 3988292384) := by
  unfold CrcAt at h ⊢
  rw [crcN_succ, ← h, crc1, if_pos ho]
theorem CrcAt.even {c0 : Int} {k : Nat} {c : Int} (h : CrcAt c0 k c) (ho : ¬ c % 2 = 1) : CrcAt c0 (k + 1) (c / 2) := by
  unfold CrcAt at h ⊢
  rw [crcN_succ, ← h, crc1, if_neg ho]
theorem CrcAt.bd {c0 : Int} {k : Nat} {c : Int} (h : CrcAt c0 k c) (h0 : 0 ≤ c0 ∧ c0 ≤ 4294967295) : 0 ≤ c ∧ c ≤ 4294967295 := by
  unfold CrcAt at h
  rw [h]; exact crcN_bd _ _ h0

set_option maxHeartbeats 1000000 in
theorem rsum (a : Option Addr) (zs : List Int) (L cap : Nat) (R : Int) (w : World) (hr : Rd w a zs) (hL : zs.length = L) (hz : (L : Int) ≤ 140737488355328) (hR : sumR zs = R) :
    Calls Tryz.prog 117 #[.slice a L cap] w fun e w' => e = .returned (.int .u32 R) ∧ w = w' := by
  have HR : Hid (Rd w a zs) := hr
  have HL : Hid (zs.length = L) := hL
  have HS : Hid (sumR zs = R) := hR
  clear hr hL hR
  go_enter Tryz.func117, Tryz.ntmps117
  go_wp2
  go_loop [3, 4] (fun t3 t4 => ∃ (j : Nat) (c : Int), j ≤ L ∧ SumAt zs j c ∧ t3 = .int .u32 c ∧ t4 = .int .i64 j) (fun _ t4 => L - (intOf t4).toNat)
  case atStart => exact ⟨0, 4294967295, Nat.zero_le _, rfl, rfl, rfl⟩
  case round =>
    obtain ⟨j, c, hj, hs, rfl, rfl⟩ := hrel
    have HJ : Hid (SumAt zs j c) := hs
    have hcb := hs.bd HR.out.2
    clear hs
    by_cases hlt : j < L
    · have hl := HL.out
      obtain ⟨b, off, rfl, hc⟩ := HR.out.at (by omega)
      have hcell := hc j (by omega)
      have hby := HR.out.byte j
      have HN : Hid (SumAt zs (j + 1) (crcB c (zs.getD j 0))) := HJ.out.next (by omega)
      obtain ⟨z, ez⟩ : ∃ z, z = zs.getD j 0 := ⟨_, rfl⟩
      rw [← ez] at hcell hby HN
      have hxb := xor32_bd c z hcb (by omega)
      have HX : Hid (0 ≤ bits .xor .u32 c z ∧ bits .xor .u32 c z ≤ 4294967295) := hxb
      clear hc ez hl HJ
      go_wp2
      obtain ⟨c0, ec0⟩ : ∃ c0, c0 = bits .xor .u32 c z := ⟨_, rfl⟩
      rw [← ec0] at HX ⊢
      have HN' : Hid (∀ c8, CrcAt c0 8 c8 → SumAt zs (j + 1) c8) := by
        intro c8 h
        unfold CrcAt at h
        rw [h, ec0]
        exact HN.out
      clear ec0 HN hcell hxb
      go_loop [3, 5] (fun t3 t5 => ∃ (k : Nat) (d : Int), k ≤ 8 ∧ CrcAt c0 k d ∧ t3 = .int .u32 d ∧ t5 = .int .i64 k) (fun _ t5 => 8 - (intOf t5).toNat)
      case atStart => exact ⟨0, c0, by omega, rfl, rfl, rfl⟩
      case round =>
        obtain ⟨k, d, hk, hd, rfl, rfl⟩ := hrel
        have HD : Hid (CrcAt c0 k d) := hd
        have hdb := hd.bd HX.out
        clear hd
        by_cases hk8 : k < 8
        · by_cases hodd : d % 2 = 1
          · have e1 : (bits .and .u32 d 1 == 1) = true := by rw [and_one32 d hdb, hodd]; rfl
            have HDN : Hid (CrcAt c0 (k + 1) (bits .xor .u32 (d / 2) 3988292384)) := HD.out.odd hodd
            clear hodd
            go_wp2
            go_round
            case rel => exact ⟨k + 1, _, by omega, HDN.out, rfl, by go_num⟩
            case measure => simp [intOf]; omega
          · have e1 : (bits .and .u32 d 1 == 1) = false := by rw [and_one32 d hdb]; simpa using hodd
            have HDN : Hid (CrcAt c0 (k + 1) (d / 2)) := HD.out.even hodd
            clear hodd
            go_wp2
            go_round
            case rel => exact ⟨k + 1, _, by omega, HDN.out, rfl, by go_num⟩
            case measure => simp [intOf]; omega
        · have hk' : k = 8 := by omega
          subst hk'
          go_wp2
          go_round
          case rel => exact ⟨j + 1, d, by omega, HN'.out d HD.out, rfl, by go_num⟩
          case measure => simp [intOf]; omega
    · have HE : Hid (bits .xor .u32 c 4294967295 = R) := by
        have h1 := HJ.out
        unfold SumAt at h1
        rw [List.take_of_length_le (by have := HL.out; omega)] at h1
        show _ = _
        rw [h1]; exact HS.out
      go_wp2
      go_ret
      exact ⟨ret_int HE.out, rfl⟩
end Go.Proofs.YtbhffjeoakalbaaGreatDoor
