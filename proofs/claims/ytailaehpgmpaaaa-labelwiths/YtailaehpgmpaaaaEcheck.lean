/- The program's own fault, Check. -/
import Derived.Test.YtailaehpgmpaaaaEval
import Derived.Test.YtailaehpgmpaaaaEname
import Derived.Test.YtailaehpgmpaaaaRcheck
namespace Go.Proofs.Ytailaehpgmpaaaa
open Go.RowKit
set_option linter.unusedVariables false

def faultR (p : Lab) (q : ByteArray) : Int := if nameR p.1 = false then 31 else if validR p.2 = false then 32 else if leB p.1 q = true then 33 else 0
set_option maxHeartbeats 400000 in
theorem g_fault (s1 s2 q : ByteArray) (w : World) : Calls Try.prog 40 #[.agg #[.string s1, .string s2], .string q] w fun e w' => e = .returned (.int .i64 (faultR (s1, s2) q)) ∧ w.grownBy w' none := by
  have HCn : Hid (∀ w, Calls Try.prog 67 #[.string s1] w fun e w' => e = .returned (.bool (nameR s1)) ∧ w = w') := g_name s1
  have HCv : Hid (∀ w, Calls Try.prog 68 #[.string s2] w fun e w' => e = .returned (.bool (validR s2)) ∧ w = w') := g_value s2
  unfold faultR
  show Calls Try.prog 40 #[.agg #[.string s1, .string s2], .string q] w fun e w' => e = .returned (.int .i64 (if nameR s1 = false then 31 else if validR s2 = false then 32 else if leB s1 q = true then 33 else 0)) ∧ w.grownBy w' none
  generalize nameR s1 = b1 at HCn ⊢
  generalize validR s2 = b2 at HCv ⊢
  cases b1 with
  | false =>
    rw [if_pos rfl]
    clear HCv
    go_enter Try.func40, Try.ntmps40
    go_wp2_with (go_at_call 67; refine (HCn.out _).mono ?_; rintro e w1 ⟨rfl, rfl⟩)
    go_ret
    exact ⟨rfl, World.grownBy_alloc w _ none⟩
  | true =>
    rw [if_neg (by simp)]
    cases b2 with
    | false =>
      rw [if_pos rfl]
      go_enter Try.func40, Try.ntmps40
      go_wp2_with (first | (go_at_call 67; refine (HCn.out _).mono ?_; rintro e w1 ⟨rfl, rfl⟩) | (go_at_call 68; refine (HCv.out _).mono ?_; rintro e w1 ⟨rfl, rfl⟩))
      go_ret
      exact ⟨rfl, World.grownBy_alloc w _ none⟩
    | true =>
      rw [if_neg (by simp)]
      cases hs : leB s1 q with
      | true =>
        have hs' : (Op.bytesLess s1.toList q.toList || s1.toList == q.toList) = true := hs
        rw [if_pos rfl]
        clear hs
        go_enter Try.func40, Try.ntmps40
        go_wp2_with (first | (go_at_call 67; refine (HCn.out _).mono ?_; rintro e w1 ⟨rfl, rfl⟩) | (go_at_call 68; refine (HCv.out _).mono ?_; rintro e w1 ⟨rfl, rfl⟩))
        go_ret
        exact ⟨rfl, World.grownBy_alloc w _ none⟩
      | false =>
        have hs' : (Op.bytesLess s1.toList q.toList || s1.toList == q.toList) = false := hs
        rw [if_neg (by simp)]
        clear hs
        go_enter Try.func40, Try.ntmps40
        go_wp2_with (first | (go_at_call 67; refine (HCn.out _).mono ?_; rintro e w1 ⟨rfl, rfl⟩) | (go_at_call 68; refine (HCv.out _).mono ?_; rintro e w1 ⟨rfl, rfl⟩))
        go_ret
        exact ⟨rfl, World.grownBy_alloc w _ none⟩

theorem name_above (s : ByteArray) (h : nameR s = true) : leB s ⟨#[]⟩ = false := by
  have h0 : 0 < s.size := by
    unfold nameR at h
    simp only [Bool.and_eq_true, decide_eq_true_eq] at h
    exact h.1.1.1
  unfold leB
  rw [str_eq]
  have e : (⟨#[]⟩ : ByteArray).toList = [] := by rw [ByteArray.toList_eq]
  have hne : ¬ s = ⟨#[]⟩ := fun e => by rw [e] at h0; exact absurd h0 (by decide)
  rw [e, decide_eq_false hne]
  cases s.toList <;> rfl
/-- The Name ahead of a label: none of the first. -/
def aheadOf (ls : List Lab) (k : Nat) : ByteArray := (prevOf ls k).getD ⟨#[]⟩
theorem ChkAt.fault {ls : List Lab} {k : Nat} {R : Int} {p : Lab} (h : ChkAt ls k R) (hp : ls[k]? = some p) : (if faultR p (aheadOf ls k) ≠ 0 then faultR p (aheadOf ls k) else chk (some p.1) (ls.drop (k + 1))) = R := by
  have := h.next hp
  rw [← this]
  unfold faultR aheadOf
  cases hn : nameR p.1 with
  | false => simp
  | true =>
    cases hv : validR p.2 with
    | false => simp
    | true =>
      cases hq : prevOf ls k with
      | none => simp [sortB, name_above p.1 hn]
      | some q => cases hs : leB p.1 q <;> simp [sortB, hs]

set_option maxHeartbeats 1000000 in
theorem gcheck_loop (a : Option Addr) (ls : List Lab) (L c : Nat) (R : Int) (w : World) (hx : SRd labE w a ls) (hL : ls.length = L) (hz : L ≤ 16) (hR : chk none ls = R) :
    Calls Try.prog 10 #[.slice a L c] w fun e w' => e = .returned (.int .i64 R) ∧ w.grownBy w' none := by
  have HX : Hid (SRd labE w a ls) := hx
  have HL : Hid (ls.length = L) := hL
  have H0 : Hid (ChkAt ls 0 R) := hR
  have q0 : decide ((16 : Int) < (L : Int)) = false := by simp; omega
  clear hx hL hR
  go_enter Try.func10, Try.ntmps10
  go_wp2
  go_loopw [3, 12] (fun t3 i wr => ∃ k : Nat, k ≤ L ∧ t3 = .string (aheadOf ls k) ∧ i = .int .i64 k ∧ w.grownBy wr none ∧ ChkAt ls k R) (fun _ i _ => L - (intOf i).toNat)
  case atStart => exact ⟨0, Nat.zero_le _, rfl, rfl, World.grownBy.refl _ _, H0.out⟩
  case round =>
    obtain ⟨k, hk, rfl, rfl, hg, hc⟩ := hrel
    have HG : Hid (w.grownBy wr none) := hg
    have HC : Hid (ChkAt ls k R) := hc
    clear hg hc H0
    by_cases hlt : k < L
    · have hl := HL.out
      obtain ⟨b, off, rfl, hcc⟩ := (HX.out.grown HG.out (by simp)).at (by omega)
      obtain ⟨⟨s1, s2⟩, ex⟩ : ∃ x, ls[k]? = some x := ⟨_, List.getElem?_eq_getElem (by omega)⟩
      have a0 : wr.cell? ⟨b, off + k * 2, none⟩ = some (.string s1) := hcc k _ 0 _ ex rfl
      have a1 : wr.cell? ⟨b, off + k * 2 + 1, none⟩ = some (.string s2) := by rw [Nat.add_assoc]; exact hcc k _ 1 _ ex rfl
      have HN : Hid (_ = R) := HC.out.fault ex
      have HA : Hid (aheadOf ls (k + 1) = s1) := by show _ = _; unfold aheadOf; rw [prevOf_next ex]; rfl
      have HP : Hid (prevOf ls (k + 1) = some s1) := prevOf_next ex
      have hi1 : (k : Int) < (L : Int) := by omega
      have HCf : Hid (∀ w, Calls Try.prog 40 #[.agg #[.string s1, .string s2], .string (aheadOf ls k)] w fun e w' => e = .returned (.int .i64 (faultR (s1, s2) (aheadOf ls k))) ∧ w.grownBy w' none) := g_fault s1 s2 _
      clear hcc ex hl
      generalize faultR (s1, s2) (aheadOf ls k) = f at HCf HN
      generalize aheadOf ls k = q at HCf ⊢
      by_cases hf : f = 0
      · have q1 : (f != 0) = false := by simpa using hf
        have HS : Hid (ChkAt ls (k + 1) R) := by
          have h := HN.out
          rw [if_neg (by simpa using hf)] at h
          show chk (prevOf ls (k + 1)) _ = R
          rw [HP.out]
          exact h
        clear HN hf HP
        go_wp2_with fail
        refine (HCf.out _).mono ?_
        rintro e w1 ⟨rfl, hg1⟩
        have c0 : w1.cell? ⟨wr.heap.size, 0, none⟩ = some (.string s1) := hg1.cell (by rw [cell_of_row _ wr.heap.size 0 _ _ _ (heap_alloc_new wr _)]; rfl) (by simp)
        have HG1 : Hid (w.grownBy w1 none) := HG.out.trans ((World.grownBy_alloc wr _ none).trans hg1)
        clear hg1
        go_wp2
        go_roundw
        case rel => exact ⟨k + 1, by omega, by rw [HA.out], by go_num, HG1.out, HS.out⟩
        case measure => simp [intOf]; omega
      · have q1 : (f != 0) = true := by simpa using hf
        have HS : Hid (f = R) := by have h := HN.out; rw [if_pos (by simpa using hf)] at h; exact h
        clear HN hf
        go_wp2_with fail
        refine (HCf.out _).mono ?_
        rintro e w1 ⟨rfl, hg1⟩
        have HG1 : Hid (w.grownBy w1 none) := HG.out.trans ((World.grownBy_alloc wr _ none).trans hg1)
        clear hg1
        go_wp2
        go_ret
        exact ⟨ret_int HS.out, HG1.out⟩
    · have HS : Hid ((0 : Int) = R) := by
        have h := HC.out
        unfold ChkAt at h
        rw [List.drop_eq_nil_of_le (by have := HL.out; omega), chk] at h
        exact h
      have hki : ¬ (k : Int) < (L : Int) := by omega
      go_wp2
      go_ret
      exact ⟨ret_int HS.out, HG.out⟩
theorem f_check (a : Option Addr) (ls : List Lab) (L c : Nat) (R : Int) (w : World) (hx : SRd labE w a ls) (hL : ls.length = L) (hz : L ≤ 4398046511104) (hR : checkR ls = R) :
    Calls Try.prog 10 #[.slice a L c] w fun e w' => e = .returned (.int .i64 R) ∧ w.grownBy w' none := by
  unfold checkR at hR
  by_cases h : 16 < ls.length
  · rw [if_pos h] at hR
    subst hR
    have q0 : decide ((16 : Int) < (L : Int)) = true := by simp; omega
    clear hx hL h
    go_enter Try.func10, Try.ntmps10
    go_wp2
    go_ret
    exact ⟨rfl, World.grownBy.refl _ _⟩
  · rw [if_neg h] at hR
    exact gcheck_loop a ls L c R w hx hL (by omega) hR
end Go.Proofs.Ytailaehpgmpaaaa
