/- The program's own Get, Contains, chosen, Keep, Without. -/
import Derived.Test.YtailaehpgmpaaaaRwith
namespace Go.Proofs.Ytailaehpgmpaaaa
open Go.RowKit
set_option linter.unusedVariables false

set_option maxHeartbeats 1000000 in
theorem f_get (a : Option Addr) (ls : List Lab) (L c : Nat) (n R : ByteArray) (w : World) (hx : SRd labE w a ls) (hL : ls.length = L) (hz : L ≤ 4398046511104) (hR : getR ls n = R) :
    Calls Try.prog 29 #[.slice a L c, .string n] w fun e w' => e = .returned (.string R) ∧ w.grownBy w' none := by
  have HX : Hid (SRd labE w a ls) := hx
  have HL : Hid (ls.length = L) := hL
  have H0 : Hid (GetAt ls n 0 R) := hR
  clear hx hL hR
  go_enter Try.func29, Try.ntmps29
  go_wp2
  go_loopw [9] (fun i wr => ∃ k : Nat, k ≤ L ∧ i = .int .i64 k ∧ w.grownBy wr none ∧ GetAt ls n k R) (fun i _ => L - (intOf i).toNat)
  case atStart => exact ⟨0, Nat.zero_le _, rfl, World.grownBy.refl _ _, H0.out⟩
  case round =>
    obtain ⟨k, hk, rfl, hg, hc⟩ := hrel
    have HG : Hid (w.grownBy wr none) := hg
    have HC : Hid (GetAt ls n k R) := hc
    clear hg hc H0
    by_cases hlt : k < L
    · have hl := HL.out
      obtain ⟨b, off, rfl, hcc⟩ := (HX.out.grown HG.out (by simp)).at (by omega)
      obtain ⟨⟨s1, s2⟩, ex⟩ : ∃ x, ls[k]? = some x := ⟨_, List.getElem?_eq_getElem (by omega)⟩
      have a0 : wr.cell? ⟨b, off + k * 2, none⟩ = some (.string s1) := hcc k _ 0 _ ex rfl
      have a1 : wr.cell? ⟨b, off + k * 2 + 1, none⟩ = some (.string s2) := by rw [Nat.add_assoc]; exact hcc k _ 1 _ ex rfl
      have HN : Hid (_ = R) := HC.out.next ex
      have hi1 : (k : Int) < (L : Int) := by omega
      clear hcc ex hl
      by_cases h1 : s1 = n
      · have q1 : (s1.toList == n.toList) = true := by rw [str_eq]; simpa using h1
        have HS : Hid (s2 = R) := by have h := HN.out; rw [if_pos h1] at h; exact h
        clear HN h1
        go_wp2
        go_ret
        exact ⟨ret_str HS.out, HG.out.trans (World.grownBy_alloc wr _ none)⟩
      · have q1 : (s1.toList == n.toList) = false := by rw [str_eq]; simpa using h1
        have HS : Hid (GetAt ls n (k + 1) R) := by have h := HN.out; rw [if_neg h1] at h; exact h
        clear HN h1
        go_wp2
        go_roundw
        case rel => exact ⟨k + 1, by omega, by go_num, HG.out.trans (World.grownBy_alloc wr _ none), HS.out⟩
        case measure => simp [intOf]; omega
    · have HS : Hid ((⟨#[]⟩ : ByteArray) = R) := by
        have h := HC.out
        unfold GetAt at h
        rw [List.drop_eq_nil_of_le (by have := HL.out; omega), getR] at h
        exact h
      have hki : ¬ (k : Int) < (L : Int) := by omega
      go_wp2
      go_ret
      exact ⟨ret_str HS.out, HG.out⟩

/-- slices.Index of texts: at or above 0 just if it is one of them. -/
theorem g_index (a : Option Addr) (ss : List ByteArray) (L c : Nat) (s : ByteArray) (R : Bool) (w : World) (hx : SRd strE w a ss) (hL : ss.length = L) (hz : L ≤ 8796093022208) (hR : inB ss s = R) :
    Calls Try.prog 89 #[.slice a L c, .string s] w fun e w' => ∃ x : Int, e = .returned (.int .i64 x) ∧ decide (0 ≤ x) = R ∧ w = w' := by
  have HX : Hid (SRd strE w a ss) := hx
  have HL : Hid (ss.length = L) := hL
  have H0 : Hid (InAt ss s 0 R) := hR
  clear hx hL hR
  go_enter Try.func89, Try.ntmps89
  go_wp2
  go_loop [8] (fun i => ∃ k : Nat, k ≤ L ∧ i = .int .i64 k ∧ InAt ss s k R) (fun i => L - (intOf i).toNat)
  case atStart => exact ⟨0, Nat.zero_le _, rfl, H0.out⟩
  case round =>
    obtain ⟨k, hk, rfl, hc⟩ := hrel
    have HC : Hid (InAt ss s k R) := hc
    clear hc H0
    by_cases hlt : k < L
    · have hl := HL.out
      obtain ⟨b, off, rfl, hcc⟩ := HX.out.at (by omega)
      obtain ⟨t, ex⟩ : ∃ x, ss[k]? = some x := ⟨_, List.getElem?_eq_getElem (by omega)⟩
      have a0 : w.cell? ⟨b, off + k, none⟩ = some (.string t) := by have h := hcc k _ 0 _ ex rfl; simpa [strE] using h
      have HN : Hid ((decide (t = s) || inB (ss.drop (k + 1)) s) = R) := by
        have h := HC.out
        unfold InAt inB at h
        obtain ⟨h1, h2⟩ := List.getElem?_eq_some_iff.1 ex
        rw [List.drop_eq_getElem_cons h1, h2, List.any_cons] at h
        exact h
      have hi1 : (k : Int) < (L : Int) := by omega
      clear hcc ex hl
      by_cases h1 : s = t
      · have q1 : (s.toList == t.toList) = true := by rw [str_eq]; simpa using h1
        have HS : Hid (true = R) := by have h := HN.out; rw [decide_eq_true h1.symm, Bool.true_or] at h; exact h
        clear HN h1
        go_wp2
        go_ret
        exact ⟨_, rfl, by rw [← HS.out]; simp, rfl⟩
      · have q1 : (s.toList == t.toList) = false := by rw [str_eq]; simpa using h1
        have HS : Hid (InAt ss s (k + 1) R) := by have h := HN.out; rw [decide_eq_false (fun e => h1 e.symm), Bool.false_or] at h; exact h
        clear HN h1
        go_wp2
        go_round
        case rel => exact ⟨k + 1, by omega, by go_num, HS.out⟩
        case measure => simp [intOf]; omega
    · have HS : Hid (false = R) := by
        have h := HC.out
        unfold InAt inB at h
        rw [List.drop_eq_nil_of_le (by have := HL.out; omega)] at h
        exact h
      have hki : ¬ (k : Int) < (L : Int) := by omega
      go_wp2
      go_ret
      exact ⟨_, rfl, by rw [← HS.out]; decide, rfl⟩
theorem g_contains (a : Option Addr) (ss : List ByteArray) (L c : Nat) (s : ByteArray) (R : Bool) (w : World) (hx : SRd strE w a ss) (hL : ss.length = L) (hz : L ≤ 8796093022208) (hR : inB ss s = R) :
    Calls Try.prog 77 #[.slice a L c, .string s] w fun e w' => e = .returned (.bool R) ∧ w = w' := by
  have HC := g_index a ss L c s R w hx hL hz hR
  clear hx hL hR
  go_enter Try.func77, Try.ntmps77
  go_wp2_with fail
  refine HC.mono ?_
  rintro e w1 ⟨x, rfl, hx, rfl⟩
  have HX : Hid (decide (0 ≤ x) = R) := hx
  clear hx
  go_wp2
  go_ret
  exact ⟨ret_bool HX.out, rfl⟩
end Go.Proofs.Ytailaehpgmpaaaa
