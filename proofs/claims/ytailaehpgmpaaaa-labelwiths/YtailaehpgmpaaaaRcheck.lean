/- The document's own Check. -/
import Derived.Test.YtailaehpgmpaaaaRchar
import Derived.Test.YtailaehpgmpaaaaRwith
namespace Go.Proofs.Ytailaehpgmpaaaa
open Go.RowKit
set_option linter.unusedVariables false

def sortB : Option ByteArray → ByteArray → Bool
  | none, _ => false
  | some q, n => leB n q
def chk : Option ByteArray → List Lab → Int
  | _, [] => 0
  | prev, p :: r => if nameR p.1 = false then 31 else if validR p.2 = false then 32 else if sortB prev p.1 = true then 33 else chk (some p.1) r
def checkR (ls : List Lab) : Int := if 16 < ls.length then 30 else chk none ls
def prevOf (ls : List Lab) (k : Nat) : Option ByteArray := if k = 0 then none else (ls[k - 1]?).map (·.1)
def ChkAt (ls : List Lab) (k : Nat) (R : Int) : Prop := chk (prevOf ls k) (ls.drop k) = R
theorem ChkAt.next {ls : List Lab} {k : Nat} {R : Int} {p : Lab} (h : ChkAt ls k R) (hp : ls[k]? = some p) : (if nameR p.1 = false then 31 else if validR p.2 = false then 32 else if sortB (prevOf ls k) p.1 = true then 33 else chk (some p.1) (ls.drop (k + 1))) = R := by
  unfold ChkAt at h
  obtain ⟨h1, h2⟩ := List.getElem?_eq_some_iff.1 hp
  rw [List.drop_eq_getElem_cons h1, h2, chk] at h
  exact h
theorem prevOf_next {ls : List Lab} {k : Nat} {p : Lab} (hp : ls[k]? = some p) : prevOf ls (k + 1) = some p.1 := by
  unfold prevOf
  rw [if_neg (by omega), Nat.add_sub_cancel, hp]
  rfl

theorem check_many (a : Option Addr) (L c : Nat) (w : World) (hz : L ≤ 4398046511104) (h : 16 < L) :
    Calls Try.prog 15 #[.slice a L c] w fun e w' => e = .returned (.int .i64 30) ∧ w = w' := by
  have hd : decide ((16 : Int) < (L : Int)) = true := by simp; omega
  go_enter Try.func15, Try.ntmps15
  go_wp2
  go_ret
  exact ⟨rfl, rfl⟩

set_option maxHeartbeats 2000000 in
theorem check_loop (a : Option Addr) (ls : List Lab) (L c : Nat) (R : Int) (w : World) (hx : SRd labE w a ls) (hL : ls.length = L) (hz : L ≤ 16) (hR : chk none ls = R) :
    Calls Try.prog 15 #[.slice a L c] w fun e w' => e = .returned (.int .i64 R) ∧ w.grownBy w' none := by
  have HX : Hid (SRd labE w a ls) := hx
  have HL : Hid (ls.length = L) := hL
  have H0 : Hid (ChkAt ls 0 R) := by show chk _ _ = R; exact hR
  clear hx hL hR
  have hd : decide ((16 : Int) < (L : Int)) = false := by simp; omega
  go_enter Try.func15, Try.ntmps15
  go_wp2
  go_loopw [3] (fun i wr => ∃ k n : Nat, k ≤ L ∧ i = .int .i64 k ∧ wr = w.drewN n ∧ ChkAt ls k R) (fun i _ => L - (intOf i).toNat)
  case atStart => exact ⟨0, 0, Nat.zero_le _, rfl, rfl, H0.out⟩
  case round =>
    obtain ⟨k, m, hk, rfl, hw, hc⟩ := hrel
    have HW : Hid (∃ m, wr = w.drewN m) := ⟨m, hw⟩
    have HWC : Hid (∀ a v, w.cell? a = some v → wr.cell? a = some v) := fun a v h => by rw [hw]; exact h
    have HC : Hid (ChkAt ls k R) := hc
    clear hw hc H0
    by_cases hlt : k < L
    · have hl := HL.out
      obtain ⟨b, off, rfl, hcc⟩ := HX.out.at (by omega)
      obtain ⟨⟨s1, s2⟩, ex⟩ : ∃ x, ls[k]? = some x := ⟨_, List.getElem?_eq_getElem (by omega)⟩
      have a0 : wr.cell? ⟨b, off + k * 2, none⟩ = some (.string s1) := HWC.out _ _ (hcc k _ 0 _ ex rfl)
      have a1 : wr.cell? ⟨b, off + k * 2 + 1, none⟩ = some (.string s2) := by rw [Nat.add_assoc]; exact HWC.out _ _ (hcc k _ 1 _ ex rfl)
      have HN : Hid (_ = R) := HC.out.next ex
      have HPN : Hid (prevOf ls (k + 1) = some s1) := prevOf_next ex
      have HCn : Hid (∀ w, Calls Try.prog 48 #[.string s1] w fun e w' => e = .returned (.bool (nameR s1)) ∧ w = w') := r_name s1
      have HCv : Hid (∀ w, Calls Try.prog 49 #[.string s2] w fun e w' => e = .returned (.bool (validR s2)) ∧ w = w') := r_valid s2
      have hki : (k : Int) < (L : Int) := by omega
      have hprev : (k = 0 ∧ prevOf ls k = none) ∨ (∃ j q, k = j + 1 ∧ prevOf ls k = some q ∧ wr.cell? ⟨b, off + j * 2, none⟩ = some (.string q)) := by
        cases k with
        | zero => exact .inl ⟨rfl, rfl⟩
        | succ j =>
          obtain ⟨⟨q, q2⟩, eq⟩ : ∃ x, ls[j]? = some x := ⟨_, List.getElem?_eq_getElem (by omega)⟩
          exact .inr ⟨j, q, rfl, prevOf_next eq, HWC.out _ _ (hcc j _ 0 _ eq rfl)⟩
      clear hcc ex hl
      cases hn : nameR s1 with
      | false =>
        rw [hn] at HCn HN
        have HS : Hid ((31 : Int) = R) := by have h := HN.out; rw [if_pos rfl] at h; exact h
        clear hn hprev HN
        go_wp2_with (go_at_call 48; refine (HCn.out _).mono ?_; rintro e w1 ⟨rfl, rfl⟩)
        go_ret
        exact ⟨ret_int HS.out, gbW HW.out 0⟩
      | true =>
        rw [hn] at HCn HN
        clear hn
        cases hv : validR s2 with
        | false =>
          rw [hv] at HCv HN
          have HS : Hid ((32 : Int) = R) := by have h := HN.out; rw [if_neg (by simp), if_pos rfl] at h; exact h
          clear hv hprev HN
          go_wp2_with (first | (go_at_call 48; refine (HCn.out _).mono ?_; rintro e w1 ⟨rfl, rfl⟩) | (go_at_call 49; refine (HCv.out _).mono ?_; rintro e w1 ⟨rfl, rfl⟩))
          go_ret
          exact ⟨ret_int HS.out, gbW HW.out 0⟩
        | true =>
          rw [hv] at HCv HN
          clear hv
          have HN2 : Hid ((if sortB (prevOf ls k) s1 = true then 33 else chk (some s1) (ls.drop (k + 1))) = R) := by have h := HN.out; rw [if_neg (by simp), if_neg (by simp)] at h; exact h
          clear HN
          rcases hprev with ⟨rfl, hp⟩ | ⟨j, q, rfl, hp, a2⟩
          · have HS : Hid (ChkAt ls (0 + 1) R) := by
              have h := HN2.out
              rw [hp] at h
              show chk (prevOf ls (0 + 1)) _ = R
              rw [HPN.out]
              exact h
            rw [Nat.zero_mul, Nat.add_zero] at a0 a1
            clear HN2 hp
            go_wp2_with (first | (go_at_call 48; refine (HCn.out _).mono ?_; rintro e w1 ⟨rfl, rfl⟩) | (go_at_call 49; refine (HCv.out _).mono ?_; rintro e w1 ⟨rfl, rfl⟩))
            go_quiet (fail)
            go_wp2
            go_roundw
            case rel => obtain ⟨m, hm⟩ := HW.out; exact ⟨0 + 1, _, by omega, by go_num, by rw [hm, drewN_drewN], HS.out⟩
            case measure => simp [intOf]; omega
          · rw [hp] at HN2
            have hj1 : decide ((0 : Int) < ((j + 1 : Nat) : Int)) = true := by simp
            cases hs : leB s1 q with
            | true =>
              have hs' : (Op.bytesLess s1.toList q.toList || s1.toList == q.toList) = true := hs
              have HS : Hid ((33 : Int) = R) := by have h := HN2.out; rw [sortB, if_pos hs] at h; exact h
              clear HN2 hp hs
              go_wp2_with (first | (go_at_call 48; refine (HCn.out _).mono ?_; rintro e w1 ⟨rfl, rfl⟩) | (go_at_call 49; refine (HCv.out _).mono ?_; rintro e w1 ⟨rfl, rfl⟩))
              go_quiet (fail)
              go_wp2
              go_ret
              exact ⟨ret_int HS.out, gbW HW.out _⟩
            | false =>
              have hs' : (Op.bytesLess s1.toList q.toList || s1.toList == q.toList) = false := hs
              have HS : Hid (ChkAt ls (j + 1 + 1) R) := by
                have h := HN2.out
                rw [sortB, hs, if_neg (by simp)] at h
                show chk (prevOf ls (j + 1 + 1)) _ = R
                rw [HPN.out]
                exact h
              clear HN2 hp hs
              go_wp2_with (first | (go_at_call 48; refine (HCn.out _).mono ?_; rintro e w1 ⟨rfl, rfl⟩) | (go_at_call 49; refine (HCv.out _).mono ?_; rintro e w1 ⟨rfl, rfl⟩))
              go_quiet (fail)
              go_wp2
              go_roundw
              case rel => obtain ⟨m, hm⟩ := HW.out; exact ⟨j + 1 + 1, _, by omega, by go_num, by rw [hm, drewN_drewN], HS.out⟩
              case measure => simp [intOf]; omega
    · have HS : Hid ((0 : Int) = R) := by
        have h := HC.out
        unfold ChkAt at h
        rw [List.drop_eq_nil_of_le (by have := HL.out; omega), chk] at h
        exact h
      have hki : ¬ (k : Int) < (L : Int) := by omega
      go_wp2
      go_ret
      exact ⟨ret_int HS.out, gbW HW.out 0⟩
theorem r_check (a : Option Addr) (ls : List Lab) (L c : Nat) (R : Int) (w : World) (hx : SRd labE w a ls) (hL : ls.length = L) (hz : L ≤ 4398046511104) (hR : checkR ls = R) :
    Calls Try.prog 15 #[.slice a L c] w fun e w' => e = .returned (.int .i64 R) ∧ w.grownBy w' none := by
  unfold checkR at hR
  by_cases h : 16 < ls.length
  · rw [if_pos h] at hR
    subst hR
    refine (check_many a L c w hz (by omega)).mono ?_
    rintro e w' ⟨rfl, rfl⟩
    exact ⟨rfl, World.grownBy.refl _ _⟩
  · rw [if_neg h] at hR
    exact check_loop a ls L c R w hx hL (by omega) hR
end Go.Proofs.Ytailaehpgmpaaaa
