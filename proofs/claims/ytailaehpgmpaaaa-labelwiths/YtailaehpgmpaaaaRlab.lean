/- The document's own calls of layer 3: order, Compare, Get, in, Some. -/
import Derived.Test.YtailaehpgmpaaaaTxts
namespace Go.Proofs.Ytailaehpgmpaaaa
open Go.RowKit
set_option linter.unusedVariables false

def bless (a b : ByteArray) : Bool := Op.bytesLess a.toList b.toList
def ordR (a b : ByteArray) : Int := if bless a b then -1 else if a = b then 0 else 1
theorem ordR_bd (a b : ByteArray) : -1 ≤ ordR a b ∧ ordR a b ≤ 1 := by unfold ordR; split <;> (try split) <;> omega
theorem r_order (a b : ByteArray) (w : World) : Calls Try.prog 66 #[.string a, .string b] w fun e w' => e = .returned (.int .i64 (ordR a b)) ∧ w = w' := by
  unfold ordR bless
  by_cases h1 : Op.bytesLess a.toList b.toList = true
  · rw [if_pos h1]
    go_enter Try.func66, Try.ntmps66
    go_wp2
    go_ret
    exact ⟨rfl, rfl⟩
  · rw [if_neg h1]
    have h1' : Op.bytesLess a.toList b.toList = false := by simpa using h1
    by_cases h2 : a = b
    · rw [if_pos h2]
      have e2 : (a.toList == b.toList) = true := by rw [str_eq]; simpa using h2
      clear h1 h2
      go_enter Try.func66, Try.ntmps66
      go_wp2
      go_ret
      exact ⟨rfl, rfl⟩
    · rw [if_neg h2]
      have e2 : (a.toList == b.toList) = false := by rw [str_eq]; simpa using h2
      clear h1 h2
      go_enter Try.func66, Try.ntmps66
      go_wp2
      go_ret
      exact ⟨rfl, rfl⟩

def cmpR : List Lab → List Lab → Int
  | [], [] => 0
  | [], _ :: _ => -1
  | _ :: _, [] => 1
  | x :: xs, y :: ys => if ordR x.1 y.1 ≠ 0 then ordR x.1 y.1 else if ordR x.2 y.2 ≠ 0 then ordR x.2 y.2 else cmpR xs ys
def CmpAt (xs ys : List Lab) (k : Nat) (R : Int) : Prop := cmpR (xs.drop k) (ys.drop k) = R
theorem CmpAt.next {xs ys : List Lab} {k : Nat} {R : Int} {x y : Lab} (h : CmpAt xs ys k R) (hx : xs[k]? = some x) (hy : ys[k]? = some y) : (if ordR x.1 y.1 ≠ 0 then ordR x.1 y.1 else if ordR x.2 y.2 ≠ 0 then ordR x.2 y.2 else cmpR (xs.drop (k + 1)) (ys.drop (k + 1))) = R := by
  unfold CmpAt at h
  obtain ⟨hx1, hx2⟩ := List.getElem?_eq_some_iff.1 hx
  obtain ⟨hy1, hy2⟩ := List.getElem?_eq_some_iff.1 hy
  rw [List.drop_eq_getElem_cons hx1, List.drop_eq_getElem_cons hy1, hx2, hy2, cmpR] at h
  exact h
theorem CmpAt.done {xs ys : List Lab} {k : Nat} {R : Int} (h : CmpAt xs ys k R) (hk : k ≤ xs.length) (hk2 : k ≤ ys.length) (he : ¬ (k < xs.length ∧ k < ys.length)) : (if xs.length < ys.length then -1 else if ys.length < xs.length then 1 else 0) = R := by
  unfold CmpAt at h
  rw [← h]
  by_cases h1 : k < xs.length
  · have h2 : ys.drop k = [] := List.drop_eq_nil_of_le (by omega)
    rw [List.drop_eq_getElem_cons h1, h2, cmpR, if_neg (by omega), if_pos (by omega)]
  · have h2 : xs.drop k = [] := List.drop_eq_nil_of_le (by omega)
    by_cases h3 : k < ys.length
    · rw [List.drop_eq_getElem_cons h3, h2, cmpR, if_pos (by omega)]
    · have h4 : ys.drop k = [] := List.drop_eq_nil_of_le (by omega)
      rw [h2, h4, cmpR, if_neg (by omega), if_neg (by omega)]

theorem gbW {w wr : World} (h : ∃ m, wr = w.drewN m) (n : Nat) : w.grownBy (wr.drewN n) none := by
  obtain ⟨m, rfl⟩ := h
  exact (gb_drewN w m).trans (gb_drewN _ n)

set_option maxHeartbeats 1000000 in
theorem r_compare (a b : Option Addr) (xs ys : List Lab) (L M c d : Nat) (R : Int) (w : World) (hx : SRd labE w a xs) (hy : SRd labE w b ys) (hL : xs.length = L) (hM : ys.length = M) (hz : L ≤ 4398046511104) (hz2 : M ≤ 4398046511104) (hR : cmpR xs ys = R) :
    Calls Try.prog 39 #[.slice a L c, .slice b M d] w fun e w' => e = .returned (.int .i64 R) ∧ w.grownBy w' none := by
  have HX : Hid (SRd labE w a xs) := hx
  have HY : Hid (SRd labE w b ys) := hy
  have HL : Hid (xs.length = L) := hL
  have HM : Hid (ys.length = M) := hM
  have H0 : Hid (CmpAt xs ys 0 R) := hR
  clear hx hy hL hM hR
  go_enter Try.func39, Try.ntmps39
  go_wp2
  go_loopw [5] (fun i wr => ∃ k n : Nat, k ≤ L ∧ k ≤ M ∧ i = .int .i64 k ∧ wr = w.drewN n ∧ CmpAt xs ys k R) (fun i _ => L - (intOf i).toNat)
  case atStart => exact ⟨0, 0, Nat.zero_le _, Nat.zero_le _, rfl, rfl, H0.out⟩
  case round =>
    obtain ⟨k, m, hk, hk2, rfl, hw, hc⟩ := hrel
    have HW : Hid (∃ m, wr = w.drewN m) := ⟨m, hw⟩
    have HWC : Hid (∀ a v, w.cell? a = some v → wr.cell? a = some v) := fun a v h => by rw [hw]; exact h
    clear hw
    have HC : Hid (CmpAt xs ys k R) := hc
    clear hc H0
    by_cases hlt : k < L ∧ k < M
    · have hl := HL.out
      have hm := HM.out
      obtain ⟨ba, offa, rfl, hca⟩ := HX.out.at (by omega)
      obtain ⟨bb, offb, rfl, hcb⟩ := HY.out.at (by omega)
      obtain ⟨⟨s1, s2⟩, ex⟩ : ∃ x, xs[k]? = some x := ⟨_, List.getElem?_eq_getElem (by omega)⟩
      obtain ⟨⟨t1, t2⟩, ey⟩ : ∃ y, ys[k]? = some y := ⟨_, List.getElem?_eq_getElem (by omega)⟩
      have a0 : wr.cell? ⟨ba, offa + k * 2, none⟩ = some (.string s1) := HWC.out _ _ (hca k _ 0 _ ex rfl)
      have a1 : wr.cell? ⟨ba, offa + k * 2 + 1, none⟩ = some (.string s2) := by rw [Nat.add_assoc]; exact HWC.out _ _ (hca k _ 1 _ ex rfl)
      have b0 : wr.cell? ⟨bb, offb + k * 2, none⟩ = some (.string t1) := HWC.out _ _ (hcb k _ 0 _ ey rfl)
      have b1 : wr.cell? ⟨bb, offb + k * 2 + 1, none⟩ = some (.string t2) := by rw [Nat.add_assoc]; exact HWC.out _ _ (hcb k _ 1 _ ey rfl)
      have HN : Hid (_ = R) := HC.out.next ex ey
      have hi1 : (k : Int) < (L : Int) := by omega
      have hi2 : (k : Int) < (M : Int) := by omega
      have HO1 : Hid (∀ w, Calls Try.prog 66 #[.string s1, .string t1] w fun e w' => e = .returned (.int .i64 (ordR s1 t1)) ∧ w = w') := r_order s1 t1
      have HO2 : Hid (∀ w, Calls Try.prog 66 #[.string s2, .string t2] w fun e w' => e = .returned (.int .i64 (ordR s2 t2)) ∧ w = w') := r_order s2 t2
      have hk1 : k < L := hlt.1
      have hk2' : k < M := hlt.2
      clear hca hcb ex ey hl hm hlt
      by_cases h1 : ordR s1 t1 = 0
      · have q1 : (ordR s1 t1 != 0) = false := by simpa using h1
        by_cases h2 : ordR s2 t2 = 0
        · have q2 : (ordR s2 t2 != 0) = false := by simpa using h2
          have HS : Hid (CmpAt xs ys (k + 1) R) := by
            have h := HN.out
            rw [if_neg (by simpa using h1), if_neg (by simpa using h2)] at h
            exact h
          generalize ordR s1 t1 = o1 at HO1 q1
          generalize ordR s2 t2 = o2 at HO2 q2
          clear h1 h2 HN
          go_wp2
          go_quiet (exact Calls.quiet_of_same ((HO1.out _).mono (fun _ _ h => ⟨h.1, h.2.symm⟩)))
          obtain ⟨w2, ew⟩ : ∃ w2, w2 = wr.drewN nq := ⟨_, rfl⟩
          rw [← ew]
          have c1 : w2.cell? ⟨ba, offa + k * 2 + 1, none⟩ = some (.string s2) := by rw [ew]; exact a1
          have e1 : w2.cell? ⟨bb, offb + k * 2 + 1, none⟩ = some (.string t2) := by rw [ew]; exact b1
          have HW2 : Hid (∃ m, w2 = w.drewN m) := by
            obtain ⟨m, hm⟩ := HW.out
            exact ⟨m + nq, by rw [ew, hm, drewN_drewN]⟩
          clear ew a1 b1 a0 b0
          go_wp2
          go_quiet (exact Calls.quiet_of_same ((HO2.out _).mono (fun _ _ h => ⟨h.1, h.2.symm⟩)))
          go_wp2
          go_roundw
          case rel => obtain ⟨m, hm⟩ := HW2.out; exact ⟨k + 1, _, by omega, by omega, by go_num, by rw [hm, drewN_drewN], HS.out⟩
          case measure => simp [intOf]; omega
        · have q2 : (ordR s2 t2 != 0) = true := by simpa using h2
          have HS : Hid (ordR s2 t2 = R) := by
            have h := HN.out
            rw [if_neg (by simpa using h1), if_pos (by simpa using h2)] at h
            exact h
          rw [HS.out] at HO2 q2
          generalize ordR s1 t1 = o1 at HO1 q1
          clear h1 h2 HN HS
          go_wp2
          go_quiet (exact Calls.quiet_of_same ((HO1.out _).mono (fun _ _ h => ⟨h.1, h.2.symm⟩)))
          obtain ⟨w2, ew⟩ : ∃ w2, w2 = wr.drewN nq := ⟨_, rfl⟩
          rw [← ew]
          have c1 : w2.cell? ⟨ba, offa + k * 2 + 1, none⟩ = some (.string s2) := by rw [ew]; exact a1
          have e1 : w2.cell? ⟨bb, offb + k * 2 + 1, none⟩ = some (.string t2) := by rw [ew]; exact b1
          have HW2 : Hid (∃ m, w2 = w.drewN m) := by
            obtain ⟨m, hm⟩ := HW.out
            exact ⟨m + nq, by rw [ew, hm, drewN_drewN]⟩
          clear ew a1 b1 a0 b0
          go_wp2
          go_quiet (exact Calls.quiet_of_same ((HO2.out _).mono (fun _ _ h => ⟨h.1, h.2.symm⟩)))
          go_wp2
          go_ret
          exact ⟨rfl, gbW HW2.out _⟩
      · have q1 : (ordR s1 t1 != 0) = true := by simpa using h1
        have HS : Hid (ordR s1 t1 = R) := by
          have h := HN.out
          rw [if_pos (by simpa using h1)] at h
          exact h
        rw [HS.out] at HO1 q1
        clear h1 HN HS
        go_wp2
        go_quiet (exact Calls.quiet_of_same ((HO1.out _).mono (fun _ _ h => ⟨h.1, h.2.symm⟩)))
        go_wp2
        go_ret
        exact ⟨rfl, gbW HW.out _⟩
    · have HD : Hid ((if L < M then (-1 : Int) else if M < L then 1 else 0) = R) := by
        have h := HC.out.done (by have := HL.out; omega) (by have := HM.out; omega) (by have := HL.out; have := HM.out; omega)
        rw [HL.out, HM.out] at h
        exact h
      by_cases h1 : L < M
      · have hk' : ¬ k < L := by omega
        have HR : Hid ((-1 : Int) = R) := by have h := HD.out; rw [if_pos h1] at h; exact h
        clear hlt HD
        go_wp2
        go_ret
        exact ⟨ret_int HR.out, gbW HW.out 0⟩
      · by_cases h2 : M < L
        · have hk' : k < L := by omega
          have hk'' : ¬ k < M := by omega
          have HR : Hid ((1 : Int) = R) := by have h := HD.out; rw [if_neg h1, if_pos h2] at h; exact h
          clear hlt HD
          go_wp2
          go_ret
          exact ⟨ret_int HR.out, gbW HW.out 0⟩
        · have hk' : ¬ k < L := by omega
          have HR : Hid ((0 : Int) = R) := by have h := HD.out; rw [if_neg h1, if_neg h2] at h; exact h
          clear hlt HD
          go_wp2
          go_ret
          exact ⟨ret_int HR.out, gbW HW.out 0⟩
end Go.Proofs.Ytailaehpgmpaaaa
