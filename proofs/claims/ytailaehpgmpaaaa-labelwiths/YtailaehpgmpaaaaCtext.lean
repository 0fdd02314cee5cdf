/- The document's own Text and Unframe. -/
import Derived.Test.YtailaehpgmpaaaaCframe
namespace Go.Proofs.Ytailaehpgmpaaaa
open Go.RowKit

theorem rd_window {w : World} {b off : Nat} {zs : List Int} (hc : ∀ i, i < zs.length → w.cell? ⟨b, off + i, none⟩ = some (.int .u8 (zs.getD i 0))) (hz : ∀ z ∈ zs, 0 ≤ z ∧ z ≤ 255) (k n : Nat) (h : k + n ≤ zs.length) :
    Rd w (some ⟨b, off + k, none⟩) ((zs.drop k).take n) ∧ ((zs.drop k).take n).length = n := by
  have hl : ((zs.drop k).take n).length = n := by simp; omega
  refine ⟨⟨.inr ⟨b, off + k, rfl, fun i hi => ?_⟩, fun z hm => hz z (List.mem_of_mem_drop (List.mem_of_mem_take hm))⟩, hl⟩
  rw [hl] at hi
  rw [Nat.add_assoc, hc (k + i) (by omega)]
  simp [List.getD_eq_getElem?_getD, hi]

def textR (zs : List Int) (p : Int) : ByteArray × Int × Int :=
  if (uintR zs p).2.2 = 0 then
    if (zs.length : Int) - (uintR zs p).2.1 < (uintR zs p).1 then (⟨#[]⟩, 0, 20)
    else (strOfNums ((zs.drop (uintR zs p).2.1.toNat).take (uintR zs p).1.toNat), (uintR zs p).2.1 + (uintR zs p).1, 0)
  else (⟨#[]⟩, 0, (uintR zs p).2.2)

set_option maxHeartbeats 400000 in
theorem rtext (a : Option Addr) (zs : List Int) (L cap : Nat) (p : Int) (s : ByteArray) (r2 r3 : Int) (w : World) (hr : Rd w a zs) (hL : zs.length = L) (hcap : L ≤ cap) (hz : (L : Int) ≤ 140737488355000) (hR : textR zs p = (s, r2, r3)) :
    Calls Try.prog 55 #[.slice a L cap, .int .i64 p] w fun e w' => e = .returned (.tuple #[.string s, .int .i64 r2, .int .i64 r3]) ∧ w = w' := by
  obtain ⟨u1, u2, u3, hU⟩ : ∃ u1 u2 u3, uintR zs p = (u1, u2, u3) := ⟨_, _, _, rfl⟩
  have HC := ruint a zs L cap p u1 u2 u3 w hr hL hz hU
  unfold textR at hR
  rw [hU] at hR
  by_cases h3 : u3 = 0
  · subst h3
    have hok := uintR_ok hr.byte hU
    obtain ⟨b, off, rfl, hc⟩ := hr.at (by omega)
    obtain ⟨k, rfl⟩ := Int.eq_ofNat_of_zero_le (show 0 ≤ u2 by omega)
    have hub : 0 ≤ u1 ∧ u1 ≤ 18446744073709551615 := by omega
    simp only [if_true] at hR
    by_cases hlt : (zs.length : Int) - (k : Int) < u1
    · rw [if_pos hlt] at hR
      simp only [Prod.mk.injEq] at hR
      obtain ⟨rfl, rfl, rfl⟩ := hR
      have hd : decide ((L : Int) - (k : Int) < u1) = true := by simp; omega
      have hk : (k : Int) ≤ (L : Int) := by omega
      clear hlt hok hr hU hc hL
      go_enter Try.func55, Try.ntmps55
      go_wp2_with fail
      refine HC.mono ?_
      rintro e w' ⟨rfl, rfl⟩
      go_wp2
      go_ret3
      exact ⟨rfl, rfl⟩
    · rw [if_neg hlt] at hR
      obtain ⟨n, rfl⟩ := Int.eq_ofNat_of_zero_le hub.1
      simp only [Prod.mk.injEq, Int.toNat_natCast] at hR
      obtain ⟨rfl, rfl, rfl⟩ := hR
      have hd : decide ((L : Int) - (k : Int) < (n : Int)) = false := by simp; omega
      have hk : k + n ≤ L := by omega
      have hw := rd_window hc hr.2 k n (by omega)
      have hconv := fun c => conv_rd w _ _ n c hw.1 hw.2
      obtain ⟨t, ht⟩ : ∃ t, t = strOfNums ((zs.drop k).take n) := ⟨_, rfl⟩
      rw [← ht] at hconv ⊢
      by_cases hck : cap = k
      · obtain rfl : n = 0 := by omega
        have hcv0 := fun c => conv_rd w (some ⟨b, off, none⟩) [] 0 c ⟨.inl rfl, by simp⟩ rfl
        rw [show strOfNums [] = t by rw [ht]; simp] at hcv0
        subst hck
        clear hlt hok hr hU hc hL hw ht hub hconv
        go_enter Try.func55, Try.ntmps55
        go_wp2_with fail
        refine HC.mono ?_
        rintro e w' ⟨rfl, rfl⟩
        go_wp2
        go_ret3
        exact ⟨by simp, rfl⟩
      · clear hlt hok hr hU hc hL hw ht hub
        go_enter Try.func55, Try.ntmps55
        go_wp2_with fail
        refine HC.mono ?_
        rintro e w' ⟨rfl, rfl⟩
        go_wp2
        go_ret3
        exact ⟨rfl, rfl⟩
  · rw [if_neg h3] at hR
    simp only [Prod.mk.injEq] at hR
    obtain ⟨rfl, rfl, rfl⟩ := hR
    have e3 : (u3 != 0) = true := by simpa using h3
    clear hr hL hU h3
    go_enter Try.func55, Try.ntmps55
    go_wp2_with fail
    refine HC.mono ?_
    rintro e w' ⟨rfl, rfl⟩
    go_wp2
    go_ret3
    exact ⟨rfl, rfl⟩
end Go.Proofs.Ytailaehpgmpaaaa
