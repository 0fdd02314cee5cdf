/- The program's own Get, Contains, chosen, Keep, Without. -/
import Derived.Test.YtbncglhgllialaaDoorRget
namespace Go.Proofs.YtbncglhgllialaaDoor.Lb
open Go.RowKit
set_option linter.unusedVariables false

set_option maxHeartbeats 1000000 in
theorem f_get (a : Option Addr) (ls : List Lab) (L c : Nat) (n R : ByteArray) (w : World) (hx : SRd labE w a ls) (hL : ls.length = L) (hz : L ≤ 4398046511104) (hR : getR ls n = R) :
    Calls Tryd.prog 24 #[.slice a L c, .string n] w fun e w' => e = .returned (.string R) ∧ w.grownBy w' none := by
  have HX : Hid (SRd labE w a ls) := hx
  have HL : Hid (ls.length = L) := hL
  have H0 : Hid (GetAt ls n 0 R) := hR
  clear hx hL hR
  go_enter Tryd.func24, Tryd.ntmps24
  go_wp2
  go_loopw [9] (fun i wr => ∃ k : Nat, k ≤ L ∧ i = .int .i64 k ∧ w.grownBy wr none ∧ GetAt ls n k R) (fun i _ => L - (intOf i).toNat)
  case atStart => exact ⟨0, Nat.zero_le _, rfl, World.grownBy.refl _ _, H0.out⟩
  case round =>
    obtain ⟨k, hk, rfl, hg, hc⟩ := hrel
    have HG : Hid (w.grownBy wr none) := hg
    have HC : Hid (GetAt ls n k R) := hc
    clear hg hc H0
    by_cases hlt : k < L
    · have hl := HL.out
      obtain ⟨b, off, rfl, hcc⟩ := (HX.out.grown HG.out (by simp)).at (by omega)
      obtain ⟨⟨s1, s2⟩, ex⟩ : ∃ x, ls[k]? = some x := ⟨_, List.getElem?_eq_getElem (by omega)⟩
      have a0 : wr.cell? ⟨b, off + k * 2, none⟩ = some (.string s1) := hcc k _ 0 _ ex rfl
      have a1 : wr.cell? ⟨b, off + k * 2 + 1, none⟩ = some (.string s2) := by rw [Nat.add_assoc]; exact hcc k _ 1 _ ex rfl
      have HN : Hid (_ = R) := HC.out.next ex
      have hi1 : (k : Int) < (L : Int) := by omega
      clear hcc ex hl
      by_cases h1 : s1 = n
      · have q1 : (s1.toList == n.toList) = true := by rw [str_eq]; simpa using h1
        have HS : Hid (s2 = R) := by have h := HN.out; rw [if_pos h1] at h; exact h
        clear HN h1
        go_wp2
        go_ret
        exact ⟨ret_str HS.out, HG.out.trans (World.grownBy_alloc wr _ none)⟩
      · have q1 : (s1.toList == n.toList) = false := by rw [str_eq]; simpa using h1
        have HS : Hid (GetAt ls n (k + 1) R) := by have h := HN.out; rw [if_neg h1] at h; exact h
        clear HN h1
        go_wp2
        go_roundw
        case rel => exact ⟨k + 1, by omega, by go_num, HG.out.trans (World.grownBy_alloc wr _ none), HS.out⟩
        case measure => simp [intOf]; omega
    · have HS : Hid ((⟨#[]⟩ : ByteArray) = R) := by
        have h := HC.out
        unfold GetAt at h
        rw [List.drop_eq_nil_of_le (by have := HL.out; omega), getR] at h
        exact h
      have hki : ¬ (k : Int) < (L : Int) := by omega
      go_wp2
      go_ret
      exact ⟨ret_str HS.out, HG.out⟩

end Go.Proofs.YtbncglhgllialaaDoor.Lb
