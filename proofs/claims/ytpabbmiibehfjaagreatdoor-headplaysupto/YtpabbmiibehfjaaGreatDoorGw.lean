/- Several texts in one: MtRget, MtEget, MtRfun. -/
import Derived.Test.YtpabbmiibehfjaaGreatDoorGa
import Derived.Test.YtpabbmiibehfjaaGreatDoorGb
import Derived.Test.YtpabbmiibehfjaaGreatDoorGc
import Derived.RangeFuncNested
import Derived.RangeFuncBound
import Derived.RangeFuncCalls
import Derived.RangeFuncLeaves
import Derived.Shelf.Abstract
import Derived.Shelf.RegionOpen
import Derived.WalkKit
import Derived.OwnWalkIn
import Derived.TacticsInMore
import Derived.LoopNIn
import Derived.LoopIn
/- The document's own Get and Name of layer 3. -/
namespace Go.Proofs.YtpabbmiibehfjaaGreatDoor.Mt
open Go.RowKit
set_option linter.unusedVariables false

def getR : List Lab → ByteArray → ByteArray
  | [], _ => ⟨#[]⟩
  | p :: r, n => if p.1 = n then p.2 else getR r n
def GetAt (ls : List Lab) (n : ByteArray) (k : Nat) (R : ByteArray) : Prop := getR (ls.drop k) n = R
theorem GetAt.next {ls : List Lab} {n R : ByteArray} {k : Nat} {p : Lab} (h : GetAt ls n k R) (hp : ls[k]? = some p) : (if p.1 = n then p.2 else getR (ls.drop (k + 1)) n) = R := by
  unfold GetAt at h
  obtain ⟨h1, h2⟩ := List.getElem?_eq_some_iff.1 hp
  rw [List.drop_eq_getElem_cons h1, h2, getR] at h
  exact h
theorem r_get (a : Option Addr) (ls : List Lab) (L c : Nat) (n R : ByteArray) (w : World) (hx : SRd labE w a ls) (hL : ls.length = L) (hz : L ≤ 4398046511104) (hR : getR ls n = R) :
    Calls Tryz.prog 82 #[.slice a L c, .string n] w fun e w' => e = .returned (.string R) ∧ w = w' := by
  have HX : Hid (SRd labE w a ls) := hx
  have HL : Hid (ls.length = L) := hL
  have H0 : Hid (GetAt ls n 0 R) := hR
  clear hx hL hR
  go_enter Tryz.func82, Tryz.ntmps82
  go_wp2
  go_loop [5] (fun i => ∃ k : Nat, k ≤ L ∧ i = .int .i64 k ∧ GetAt ls n k R) (fun i => L - (intOf i).toNat)
  case atStart => exact ⟨0, Nat.zero_le _, rfl, H0.out⟩
  case round =>
    obtain ⟨k, hk, rfl, hg⟩ := hrel
    have HG : Hid (GetAt ls n k R) := hg
    clear hg H0
    by_cases hlt : k < L
    · have hl := HL.out
      obtain ⟨b, off, rfl, hc⟩ := HX.out.at (by omega)
      obtain ⟨⟨s1, s2⟩, ex⟩ : ∃ x, ls[k]? = some x := ⟨_, List.getElem?_eq_getElem (by omega)⟩
      have a0 : w.cell? ⟨b, off + k * 2, none⟩ = some (.string s1) := hc k _ 0 _ ex rfl
      have a1 : w.cell? ⟨b, off + k * 2 + 1, none⟩ = some (.string s2) := by rw [Nat.add_assoc]; exact hc k _ 1 _ ex rfl
      have HN : Hid (_ = R) := HG.out.next ex
      clear hc ex hl
      by_cases h1 : s1 = n
      · have q : (s1.toList == n.toList) = true := by rw [str_eq]; simpa using h1
        have HS : Hid (s2 = R) := by have h := HN.out; rw [if_pos h1] at h; exact h
        clear h1 HN
        go_wp2
        go_ret
        exact ⟨ret_str HS.out, rfl⟩
      · have q : (s1.toList == n.toList) = false := by rw [str_eq]; simpa using h1
        have HS : Hid (GetAt ls n (k + 1) R) := by have h := HN.out; rw [if_neg h1] at h; exact h
        clear h1 HN
        go_wp2
        go_round
        case rel => exact ⟨k + 1, by omega, by go_num, HS.out⟩
        case measure => simp [intOf]; omega
    · have HS : Hid ((⟨#[]⟩ : ByteArray) = R) := by
        have h := HG.out
        unfold GetAt at h
        rw [List.drop_eq_nil_of_le (by have := HL.out; omega), getR] at h
        exact h
      go_wp2
      go_ret
      exact ⟨ret_str HS.out, rfl⟩
def nameB (c : Int) : Bool := decide (65 ≤ c) && decide (c ≤ 90) || decide (97 ≤ c) && decide (c ≤ 122) || decide (48 ≤ c) && decide (c ≤ 57) || decide (c = 95)
def nameR (s : ByteArray) : Bool := decide (0 < s.size) && decide (s.size ≤ 64) && !(decide (48 ≤ byteAt s 0) && decide (byteAt s 0 ≤ 57)) && (sInts s).all nameB
def NameAt (s : ByteArray) (k : Nat) (R : Bool) : Prop := ((sInts s).drop k).all nameB = R
theorem NameAt.next {s : ByteArray} {k : Nat} {R : Bool} (h : NameAt s k R) (hk : k < s.size) : (nameB (byteAt s k) && ((sInts s).drop (k + 1)).all nameB) = R := by
  unfold NameAt at h
  have hl : k < (sInts s).length := by rw [sInts_len]; exact hk
  rw [List.drop_eq_getElem_cons hl, List.all_cons] at h
  have : byteAt s k = (sInts s)[k] := by
    unfold byteAt
    rw [List.getD_eq_getElem?_getD, List.getElem?_eq_getElem hl]
    rfl
  rw [this]
  exact h
set_option maxHeartbeats 1000000 in
theorem name_loop (s : ByteArray) (R : Bool) (w : World) (h1 : 1 ≤ s.size) (h2 : s.size ≤ 64) (hd : ¬ (48 ≤ byteAt s 0 ∧ byteAt s 0 ≤ 57)) (hR : (sInts s).all nameB = R) :
    Calls Tryz.prog 70 #[.string s] w fun e w' => e = .returned (.bool R) ∧ w = w' := by
  have H0 : Hid (NameAt s 0 R) := hR
  have e0 := byteAt_eq s 0 (by omega)
  clear hR
  have q1 : decide ((s.size : Int) < 1) = false := by simp; omega
  have q2 : decide ((64 : Int) < (s.size : Int)) = false := by simp; omega
  have hidx : ∀ w, (Instr.index 9 (.string s) (.int .i64 0)).run Tryz.prog w = .ok (.int .u8 (byteAt s 0)) w := idx9 s 0 (by omega)
  generalize byteAt s 0 = c0 at hd hidx e0
  by_cases h48 : 48 ≤ c0
  · have h57 : ¬ c0 ≤ 57 := by omega
    have q4 : decide (48 ≤ c0) = true := by simpa using h48
    have q5 : decide (c0 ≤ 57) = false := by simpa using h57
    clear hd h48 h57 e0
    go_enter Tryz.func70, Tryz.ntmps70
    go_wp2
    go_loop [3] (fun i => ∃ k : Nat, k ≤ s.size ∧ i = .int .i64 k ∧ NameAt s k R) (fun i => s.size - (intOf i).toNat)
    case atStart => exact ⟨0, Nat.zero_le _, rfl, H0.out⟩
    case round =>
      obtain ⟨k, hk, rfl, hn⟩ := hrel
      have HN : Hid (NameAt s k R) := hn
      clear hn H0 hidx
      by_cases hlt : k < s.size
      · have hidx := idx9 s k hlt
        have HNx : Hid (_ = R) := HN.out.next hlt
        have hb := byteAt_bd s k
        have hki : (k : Int) < (s.size : Int) := by omega
        generalize byteAt s k = c at hidx HNx hb
        by_cases hc : nameB c = true
        · have HS : Hid (NameAt s (k + 1) R) := by have h := HNx.out; rw [hc, Bool.true_and] at h; exact h
          have hcc : (decide (65 ≤ c) && decide (c ≤ 90) || decide (97 ≤ c) && decide (c ≤ 122) || decide (48 ≤ c) && decide (c ≤ 57) || decide (c = 95)) = true := hc
          simp only [Bool.or_eq_true, Bool.and_eq_true, decide_eq_true_eq] at hcc
          clear HNx hc
          rcases hcc with ((hcc | hcc) | hcc) | hcc
          · have r1 : decide (65 ≤ c) = true := by simp; omega
            have r2 : decide (c ≤ 90) = true := by simp; omega
            clear hcc
            go_wp2
            go_round
            case rel => exact ⟨k + 1, by omega, by go_num, HS.out⟩
            case measure => simp [intOf]; omega
          · have r1 : decide (65 ≤ c) = true := by simp; omega
            have r2 : decide (c ≤ 90) = false := by simp; omega
            have r3 : decide (97 ≤ c) = true := by simp; omega
            have r4 : decide (c ≤ 122) = true := by simp; omega
            clear hcc
            go_wp2
            go_round
            case rel => exact ⟨k + 1, by omega, by go_num, HS.out⟩
            case measure => simp [intOf]; omega
          · have r1 : decide (65 ≤ c) = false := by simp; omega
            have r3 : decide (97 ≤ c) = false := by simp; omega
            have r5 : decide (48 ≤ c) = true := by simp; omega
            have r6 : decide (c ≤ 57) = true := by simp; omega
            clear hcc
            go_wp2
            go_round
            case rel => exact ⟨k + 1, by omega, by go_num, HS.out⟩
            case measure => simp [intOf]; omega
          · subst hcc
            go_wp2
            go_round
            case rel => exact ⟨k + 1, by omega, by go_num, HS.out⟩
            case measure => simp [intOf]; omega
        · have HS : Hid (false = R) := by have h := HNx.out; rw [show nameB c = false by simpa using hc, Bool.false_and] at h; exact h
          have hcc : ¬ ((decide (65 ≤ c) && decide (c ≤ 90) || decide (97 ≤ c) && decide (c ≤ 122) || decide (48 ≤ c) && decide (c ≤ 57) || decide (c = 95)) = true) := hc
          simp only [Bool.or_eq_true, Bool.and_eq_true, decide_eq_true_eq] at hcc
          have r7 : (c == 95) = false := by simp; omega
          clear HNx hc
          by_cases t1 : 65 ≤ c
          · have r1 : decide (65 ≤ c) = true := by simpa using t1
            have r2 : decide (c ≤ 90) = false := by simp; omega
            have r5 : decide (48 ≤ c) = true := by simp; omega
            have r6 : decide (c ≤ 57) = false := by simp; omega
            by_cases t2 : 97 ≤ c
            · have r3 : decide (97 ≤ c) = true := by simpa using t2
              have r4 : decide (c ≤ 122) = false := by simp; omega
              clear hcc t1 t2
              go_wp2
              go_ret
              exact ⟨ret_bool HS.out, rfl⟩
            · have r3 : decide (97 ≤ c) = false := by simpa using t2
              clear hcc t1 t2
              go_wp2
              go_ret
              exact ⟨ret_bool HS.out, rfl⟩
          · have r1 : decide (65 ≤ c) = false := by simpa using t1
            have r3 : decide (97 ≤ c) = false := by simp; omega
            by_cases t2 : 48 ≤ c
            · have r5 : decide (48 ≤ c) = true := by simpa using t2
              have r6 : decide (c ≤ 57) = false := by simp; omega
              clear hcc t1 t2
              go_wp2
              go_ret
              exact ⟨ret_bool HS.out, rfl⟩
            · have r5 : decide (48 ≤ c) = false := by simpa using t2
              clear hcc t1 t2
              go_wp2
              go_ret
              exact ⟨ret_bool HS.out, rfl⟩
      · have HS : Hid (true = R) := by
          have h := HN.out
          unfold NameAt at h
          rw [List.drop_eq_nil_of_le (by rw [sInts_len]; omega), List.all_nil] at h
          exact h
        have hki : ¬ (k : Int) < (s.size : Int) := by omega
        go_wp2
        go_ret
        exact ⟨ret_bool HS.out, rfl⟩
  · have q4 : decide (48 ≤ c0) = false := by simpa using h48
    clear hd h48 e0
    go_enter Tryz.func70, Tryz.ntmps70
    go_wp2
    go_loop [3] (fun i => ∃ k : Nat, k ≤ s.size ∧ i = .int .i64 k ∧ NameAt s k R) (fun i => s.size - (intOf i).toNat)
    case atStart => exact ⟨0, Nat.zero_le _, rfl, H0.out⟩
    case round =>
      obtain ⟨k, hk, rfl, hn⟩ := hrel
      have HN : Hid (NameAt s k R) := hn
      clear hn H0 hidx
      by_cases hlt : k < s.size
      · have hidx := idx9 s k hlt
        have HNx : Hid (_ = R) := HN.out.next hlt
        have hb := byteAt_bd s k
        have hki : (k : Int) < (s.size : Int) := by omega
        generalize byteAt s k = c at hidx HNx hb
        by_cases hc : nameB c = true
        · have HS : Hid (NameAt s (k + 1) R) := by have h := HNx.out; rw [hc, Bool.true_and] at h; exact h
          have hcc : (decide (65 ≤ c) && decide (c ≤ 90) || decide (97 ≤ c) && decide (c ≤ 122) || decide (48 ≤ c) && decide (c ≤ 57) || decide (c = 95)) = true := hc
          simp only [Bool.or_eq_true, Bool.and_eq_true, decide_eq_true_eq] at hcc
          clear HNx hc
          rcases hcc with ((hcc | hcc) | hcc) | hcc
          · have r1 : decide (65 ≤ c) = true := by simp; omega
            have r2 : decide (c ≤ 90) = true := by simp; omega
            clear hcc
            go_wp2
            go_round
            case rel => exact ⟨k + 1, by omega, by go_num, HS.out⟩
            case measure => simp [intOf]; omega
          · have r1 : decide (65 ≤ c) = true := by simp; omega
            have r2 : decide (c ≤ 90) = false := by simp; omega
            have r3 : decide (97 ≤ c) = true := by simp; omega
            have r4 : decide (c ≤ 122) = true := by simp; omega
            clear hcc
            go_wp2
            go_round
            case rel => exact ⟨k + 1, by omega, by go_num, HS.out⟩
            case measure => simp [intOf]; omega
          · have r1 : decide (65 ≤ c) = false := by simp; omega
            have r3 : decide (97 ≤ c) = false := by simp; omega
            have r5 : decide (48 ≤ c) = true := by simp; omega
            have r6 : decide (c ≤ 57) = true := by simp; omega
            clear hcc
            go_wp2
            go_round
            case rel => exact ⟨k + 1, by omega, by go_num, HS.out⟩
            case measure => simp [intOf]; omega
          · subst hcc
            go_wp2
            go_round
            case rel => exact ⟨k + 1, by omega, by go_num, HS.out⟩
            case measure => simp [intOf]; omega
        · have HS : Hid (false = R) := by have h := HNx.out; rw [show nameB c = false by simpa using hc, Bool.false_and] at h; exact h
          have hcc : ¬ ((decide (65 ≤ c) && decide (c ≤ 90) || decide (97 ≤ c) && decide (c ≤ 122) || decide (48 ≤ c) && decide (c ≤ 57) || decide (c = 95)) = true) := hc
          simp only [Bool.or_eq_true, Bool.and_eq_true, decide_eq_true_eq] at hcc
          have r7 : (c == 95) = false := by simp; omega
          clear HNx hc
          by_cases t1 : 65 ≤ c
          · have r1 : decide (65 ≤ c) = true := by simpa using t1
            have r2 : decide (c ≤ 90) = false := by simp; omega
            have r5 : decide (48 ≤ c) = true := by simp; omega
            have r6 : decide (c ≤ 57) = false := by simp; omega
            by_cases t2 : 97 ≤ c
            · have r3 : decide (97 ≤ c) = true := by simpa using t2
              have r4 : decide (c ≤ 122) = false := by simp; omega
              clear hcc t1 t2
              go_wp2
              go_ret
              exact ⟨ret_bool HS.out, rfl⟩
            · have r3 : decide (97 ≤ c) = false := by simpa using t2
              clear hcc t1 t2
              go_wp2
              go_ret
              exact ⟨ret_bool HS.out, rfl⟩
          · have r1 : decide (65 ≤ c) = false := by simpa using t1
            have r3 : decide (97 ≤ c) = false := by simp; omega
            by_cases t2 : 48 ≤ c
            · have r5 : decide (48 ≤ c) = true := by simpa using t2
              have r6 : decide (c ≤ 57) = false := by simp; omega
              clear hcc t1 t2
              go_wp2
              go_ret
              exact ⟨ret_bool HS.out, rfl⟩
            · have r5 : decide (48 ≤ c) = false := by simpa using t2
              clear hcc t1 t2
              go_wp2
              go_ret
              exact ⟨ret_bool HS.out, rfl⟩
      · have HS : Hid (true = R) := by
          have h := HN.out
          unfold NameAt at h
          rw [List.drop_eq_nil_of_le (by rw [sInts_len]; omega), List.all_nil] at h
          exact h
        have hki : ¬ (k : Int) < (s.size : Int) := by omega
        go_wp2
        go_ret
        exact ⟨ret_bool HS.out, rfl⟩
theorem r_name (s : ByteArray) (w : World) :
    Calls Tryz.prog 70 #[.string s] w fun e w' => e = .returned (.bool (nameR s)) ∧ w = w' := by
  by_cases h1 : s.size < 1
  · have e : nameR s = false := by unfold nameR; rw [decide_eq_false (by omega : ¬ 0 < s.size)]; simp
    rw [e]
    have q1 : decide ((s.size : Int) < 1) = true := by simp; omega
    clear e
    go_enter Tryz.func70, Tryz.ntmps70
    go_wp2
    go_ret
    exact ⟨rfl, rfl⟩
  · by_cases h2 : 64 < s.size
    · have e : nameR s = false := by unfold nameR; rw [decide_eq_false (by omega : ¬ s.size ≤ 64)]; simp
      rw [e]
      have q1 : decide ((s.size : Int) < 1) = false := by simp; omega
      have q2 : decide ((64 : Int) < (s.size : Int)) = true := by simp; omega
      clear e
      go_enter Tryz.func70, Tryz.ntmps70
      go_wp2
      go_ret
      exact ⟨rfl, rfl⟩
    · by_cases hd : 48 ≤ byteAt s 0 ∧ byteAt s 0 ≤ 57
      · have e : nameR s = false := by
          unfold nameR
          rw [show (decide (48 ≤ byteAt s 0) && decide (byteAt s 0 ≤ 57)) = true by simp [hd]]
          simp
        rw [e]
        have q1 : decide ((s.size : Int) < 1) = false := by simp; omega
        have q2 : decide ((64 : Int) < (s.size : Int)) = false := by simp; omega
        have hidx : ∀ w, (Instr.index 9 (.string s) (.int .i64 0)).run Tryz.prog w = .ok (.int .u8 (byteAt s 0)) w := idx9 s 0 (by omega)
        generalize byteAt s 0 = c0 at hd hidx
        have q4 : decide (48 ≤ c0) = true := by simpa using hd.1
        have q5 : decide (c0 ≤ 57) = true := by simpa using hd.2
        clear e hd
        go_enter Tryz.func70, Tryz.ntmps70
        go_wp2
        go_ret
        exact ⟨rfl, rfl⟩
      · have e : nameR s = (sInts s).all nameB := by
          unfold nameR
          rw [decide_eq_true (by omega : 0 < s.size), decide_eq_true (by omega : s.size ≤ 64), show (decide (48 ≤ byteAt s 0) && decide (byteAt s 0 ≤ 57)) = false by simp only [Bool.and_eq_false_iff, decide_eq_false_iff_not]; omega]
          simp
        rw [e]
        exact name_loop s _ w (by omega) (by omega) hd rfl
end Go.Proofs.YtpabbmiibehfjaaGreatDoor.Mt

/- The program's own Get, Contains, chosen, Keep, Without. -/
namespace Go.Proofs.YtpabbmiibehfjaaGreatDoor.Mt.Lb
open Go.RowKit
set_option linter.unusedVariables false

set_option maxHeartbeats 1000000 in
theorem f_get (a : Option Addr) (ls : List Lab) (L c : Nat) (n R : ByteArray) (w : World) (hx : SRd labE w a ls) (hL : ls.length = L) (hz : L ≤ 4398046511104) (hR : getR ls n = R) :
    Calls Tryz.prog 61 #[.slice a L c, .string n] w fun e w' => e = .returned (.string R) ∧ w.grownBy w' none := by
  have HX : Hid (SRd labE w a ls) := hx
  have HL : Hid (ls.length = L) := hL
  have H0 : Hid (GetAt ls n 0 R) := hR
  clear hx hL hR
  go_enter Tryz.func61, Tryz.ntmps61
  go_wp2
  go_loopw [9] (fun i wr => ∃ k : Nat, k ≤ L ∧ i = .int .i64 k ∧ w.grownBy wr none ∧ GetAt ls n k R) (fun i _ => L - (intOf i).toNat)
  case atStart => exact ⟨0, Nat.zero_le _, rfl, World.grownBy.refl _ _, H0.out⟩
  case round =>
    obtain ⟨k, hk, rfl, hg, hc⟩ := hrel
    have HG : Hid (w.grownBy wr none) := hg
    have HC : Hid (GetAt ls n k R) := hc
    clear hg hc H0
    by_cases hlt : k < L
    · have hl := HL.out
      obtain ⟨b, off, rfl, hcc⟩ := (HX.out.grown HG.out (by simp)).at (by omega)
      obtain ⟨⟨s1, s2⟩, ex⟩ : ∃ x, ls[k]? = some x := ⟨_, List.getElem?_eq_getElem (by omega)⟩
      have a0 : wr.cell? ⟨b, off + k * 2, none⟩ = some (.string s1) := hcc k _ 0 _ ex rfl
      have a1 : wr.cell? ⟨b, off + k * 2 + 1, none⟩ = some (.string s2) := by rw [Nat.add_assoc]; exact hcc k _ 1 _ ex rfl
      have HN : Hid (_ = R) := HC.out.next ex
      have hi1 : (k : Int) < (L : Int) := by omega
      clear hcc ex hl
      by_cases h1 : s1 = n
      · have q1 : (s1.toList == n.toList) = true := by rw [str_eq]; simpa using h1
        have HS : Hid (s2 = R) := by have h := HN.out; rw [if_pos h1] at h; exact h
        clear HN h1
        go_wp2
        go_ret
        exact ⟨ret_str HS.out, HG.out.trans (World.grownBy_alloc wr _ none)⟩
      · have q1 : (s1.toList == n.toList) = false := by rw [str_eq]; simpa using h1
        have HS : Hid (GetAt ls n (k + 1) R) := by have h := HN.out; rw [if_neg h1] at h; exact h
        clear HN h1
        go_wp2
        go_roundw
        case rel => exact ⟨k + 1, by omega, by go_num, HG.out.trans (World.grownBy_alloc wr _ none), HS.out⟩
        case measure => simp [intOf]; omega
    · have HS : Hid ((⟨#[]⟩ : ByteArray) = R) := by
        have h := HC.out
        unfold GetAt at h
        rw [List.drop_eq_nil_of_le (by have := HL.out; omega), getR] at h
        exact h
      have hki : ¬ (k : Int) < (L : Int) := by omega
      go_wp2
      go_ret
      exact ⟨ret_str HS.out, HG.out⟩

end Go.Proofs.YtpabbmiibehfjaaGreatDoor.Mt.Lb

/- A range over a function whose closure keeps a variable of its own in a box; the loop's body always goes on. -/
namespace Go.Proofs.YtpabbmiibehfjaaGreatDoor.Mt
open Go.RowKit
set_option linter.unusedVariables false

/-- Below B all blocks but those of X lie as they lay. -/
structure KeptBut (B : Nat) (X : Nat → Prop) (W W' : World) : Prop where
  os : W'.os = W.os
  tape : W'.tape = W.tape
  output : W'.output = W.output
  size : W.heap.size ≤ W'.heap.size
  block : ∀ k, k < B → ¬ X k → W'.heap[k]? = W.heap[k]?
theorem KeptBut.refl (B : Nat) (X : Nat → Prop) (W : World) : KeptBut B X W W := ⟨rfl, rfl, rfl, Nat.le_refl _, fun _ _ _ => rfl⟩
theorem KeptBut.trans {B : Nat} {X : Nat → Prop} {U V W : World} (h : KeptBut B X U V) (k : KeptBut B X V W) : KeptBut B X U W :=
  ⟨k.os.trans h.os, k.tape.trans h.tape, k.output.trans h.output, Nat.le_trans h.size k.size, fun i hi hx => (k.block i hi hx).trans (h.block i hi hx)⟩
theorem KeptBut.grown {B : Nat} {X : Nat → Prop} {U W W' : World} {row : Option Nat} (h : KeptBut B X U W) (hg : W.grownBy W' row) (hB : B ≤ W.heap.size) (hr : ∀ k, row = some k → k < B → X k) : KeptBut B X U W' :=
  ⟨hg.os.trans h.os, hg.tape.trans h.tape, hg.output.trans h.output, Nat.le_trans h.size hg.size, fun i hi hx => (hg.block i (by omega) (fun e => hx (hr i e.symm hi))).trans (h.block i hi hx)⟩
theorem KeptBut.cell {B : Nat} {X : Nat → Prop} {W W' : World} (h : KeptBut B X W W') {p : Addr} (hp : p.block < B) (hx : ¬ X p.block) : W'.cell? p = W.cell? p := World.cell?_of_block (h.block _ hp hx)
theorem KeptBut.frozen {B : Nat} {X : Nat → Prop} {W W' : World} (h : KeptBut B X W W') {p : Addr} (hp : p.block < B) (hx : ¬ X p.block) : W'.frozen? p = W.frozen? p := World.frozen?_of_block (h.block _ hp hx)

/-- How a round is left: it goes on. -/
def onPost {α : Type} (B : Nat) (X : Nat → Prop) (I : List α → World → Prop) (xs : List α) (W : World) : Exit → Act → World → Prop
  | .normal, _, W' => KeepsFrom B W W' ∧ KeptBut B X W W' ∧ I xs W'
  | _, _, _ => False

theorem range_st {α : Type} {n : Nat} {P : Program} {g : Operand} {ps : Array Tmp} {assign body : Code} {Q : Exit → Act → World → Prop} {a : Act} {w : World} {gf : Nat} {lb : Array Value}
    (hg : a.eval g = .func (.func gf) #[] lb) (eg : ∀ args w, (callFunc gf args).run P w = .ok (.enter gf args) w) (encs : α → Array Value) (hps : ∀ x, (encs x).size = ps.size)
    (Bs : Nat) (hBs : Bs < w.heap.size) (X : Nat → Prop) (xs : List α)
    (hseq : ∀ (l : Nat) (J : List α → World → Prop) (W : World), Below w.heap.size w W → (∀ pre W v, J pre W → J pre (W.setCell ⟨Bs, 0, none⟩ v)) →
      (∀ pre x W1, J pre W1 → pre ++ [x] <+: xs → YieldAt Fence.wide (n - 1 - 1) P l (encs x) W1 fun e W' => e = .returned (.bool true) ∧ J (pre ++ [x]) W' ∧ KeptBut w.heap.size X W1 W') →
      J [] W → CallsIn Fence.wide (n - 1) P gf (#[.func (.yield l) #[] #[]] ++ lb) W fun e W' => (∃ v, e = .returned v) ∧ J xs W')
    (I : List α → World → Prop) (hI : OwnFrom w.heap.size I) (hIs : ∀ pre W v, I pre W → I pre (W.setCell ⟨Bs, 0, none⟩ v)) (h0 : I [] w) (a₁ : α → Act)
    (hassign : ∀ (l : Nat) (x : α) (W : World) (K : Act → World → Prop), K (a₁ x) W →
      assign.wpIn (Fence.wide.inRound l) (n - 1 - 1) P (Exit.then K (fun _ _ _ => False)) { tmps := (ps.zip (encs x)).foldl (fun t (p, v) => t.setIfInBounds p v) a.tmps, defers := [] } W)
    (hbody : ∀ (l : Nat) (pre : List α) (x : α) (W : World), w.heap.size ≤ W.heap.size → I pre W → pre ++ [x] <+: xs → body.wpIn (Fence.wide.inRound l) (n - 1 - 1) P (onPost w.heap.size X I (pre ++ [x]) W) (a₁ x) W)
    (hdone : ∀ (D : Nat) (W : World), w.heap.size ≤ D → I xs W → W.heap[D]? = some (.deferred (some [])) → Q .normal { a with defers := { target := .collected D, args := #[] } :: a.defers } W) :
    (Code.rangeFunc g ps assign body).wpIn Fence.wide n P Q a w := by
  refine wpIn_rangeFunc ?_
  intro fn hfn
  show ∃ l mark w₁ d w₁' f args w₂, (Instr.enterLoop fn a.tmps ps assign body none).run P w = _ ∧ _
  obtain ⟨S, hS⟩ : ∃ S, S = w.heap.size := ⟨_, rfl⟩
  obtain ⟨rec, hrec⟩ : ∃ rec : LoopState → Loop, rec = fun st => { state := st, pending := none, fn, tmps := a.tmps, params := ps, assign, body, defers := S } := ⟨_, rfl⟩
  obtain ⟨W1, hW1⟩ : ∃ W1, (w.alloc (.deferred (some []))).alloc (.loop (rec .ready)) = W1 := ⟨_, rfl⟩
  have hL1 : W1.heap[S + 1]? = some (.loop (rec .ready)) := by
    rw [← hW1, hS]; have := World.alloc_heap_new (w.alloc (.deferred (some []))) (.loop (rec .ready)); rwa [World.size_alloc] at this
  have hK1 : W1.heap[S]? = some (.deferred (some [])) := by
    rw [← hW1, hS]; exact (Below.heap_alloc _ _ _ (by simp)).trans (World.alloc_heap_new w _)
  have hI1 : I [] W1 := by rw [← hW1]; exact hI.alloc _ (hI.alloc _ h0)
  have hb1 : Below w.heap.size w W1 := by rw [← hW1]; exact ((Below.refl _ w).alloc (Nat.le_refl _) _).alloc (by simp) _
  refine ⟨S + 1, [{ target := .collected S, args := #[] }], W1, { target := .fn (.func gf) lb, args := #[.func (.yield (S + 1)) #[] #[]] }, W1, gf, #[.func (.yield (S + 1)) #[] #[]] ++ lb, W1, ?_, ?_, ?_, ?_, ?_, ?_⟩
  · rw [← hW1, hrec, hS]; exact run_enterLoop_outer _ _ _ _ _
  · simp only [resolve, hg]
    simp [go_sem]
  · intro f' hf'; exact trivial
  · simp [invoke, go_sem, eg]
  · intro h; simp [Fence.wide] at h
  · have hset : ∀ (W : World) (v : Value) (k : Nat), k ≠ Bs → (W.setCell ⟨Bs, 0, none⟩ v).heap[k]? = W.heap[k]? := fun W v k hk => Below.heap_setCell W ⟨Bs, 0, none⟩ v k hk
    refine (hseq (S + 1) (fun pre W => I pre W ∧ W.heap[S + 1]? = some (.loop (rec .ready)) ∧ W.heap[S]? = some (.deferred (some []))) W1 hb1
      (fun pre W v ⟨h1, h2, h3⟩ => ⟨hIs pre W v h1, (hset W v _ (by omega)).trans h2, (hset W v _ (by omega)).trans h3⟩) ?_ ⟨hI1, hL1, hK1⟩).mono ?_
    · rintro pre x W ⟨hi, hl, hk⟩ hpre
      have hlt : S + 1 < W.heap.size := (Array.getElem?_eq_some_iff.1 hl).1
      have hy := run_yield (P := P) (args := encs x) hl (by rw [hrec]; exact hps x)
      rw [hrec] at hy
      refine ⟨fn, _, assign, body, hy, roundIn_of_wpIn hfn (hassign _ x W _ ?_)⟩
      clear hy
      refine ⟨_, run_beginRound hl (by rw [hrec]), ?_⟩
      obtain ⟨W2, hW2⟩ : ∃ W2, W.putObj (S + 1) (.loop { rec .ready with state := .busy }) = W2 := ⟨_, rfl⟩
      rw [hW2]
      have hl2 : W2.heap[S + 1]? = some (.loop { rec .ready with state := .busy }) := by rw [← hW2]; exact World.putObj_heap_same hlt
      have hk2 : W2.heap[S]? = some (.deferred (some [])) := by rw [← hW2]; exact (World.putObj_heap_other (by omega)).trans hk
      have hi2 : I pre W2 := by rw [← hW2]; exact hI.putObj _ hi (by omega) hl rfl
      have hp : ∀ (U : World) (o : Obj), KeptBut w.heap.size X U (U.putObj (S + 1) o) := fun U o => by
        have gb := grownBy_putObj' U (S + 1) o
        exact ⟨gb.os, gb.tape, gb.output, gb.size, fun k hk _ => World.putObj_heap_other (by omega)⟩
      have hkb : KeptBut w.heap.size X W W2 := by rw [← hW2]; exact hp W _
      have hsz2 : w.heap.size ≤ W2.heap.size := by have := hkb.size; omega
      refine wpIn_mono (hbody _ pre x W2 hsz2 hi2 hpre) ?_
      rintro e a3 W3 hp3
      cases e with
      | normal =>
        obtain ⟨hk3, hkp3, hi3⟩ := hp3
        have hl3 := hk3.same _ _ (by omega) hl2 rfl
        have hd3 := hk3.same _ _ (by omega) hk2 rfl
        have her := run_endRound (P := P) none hl3
        refine ⟨_, _, her, rfl, ⟨hI.putObj _ hi3 (by omega) hl3 rfl, ?_, (World.putObj_heap_other (by omega)).trans hd3⟩, (hkb.trans hkp3).trans (hp _ _)⟩
        rw [World.putObj_heap_same (Array.getElem?_eq_some_iff.1 hl3).1, hrec]
        rfl
      | ret => exact hp3.elim
      | exit id => exact hp3.elim
      | goto t => exact hp3.elim
      | panic ch => exact hp3.elim
      | outgrown => exact hp3.elim
    · rintro e W2 ⟨⟨v, rfl⟩, hi, hl, hk⟩
      have he := run_endLoop (P := P) hl (by rw [hrec]; simp)
      have hp0 : (rec .ready).pending = none := by rw [hrec]
      rw [hp0] at he
      exact ⟨none, _, he, hdone S _ (by omega) (hI.putObj _ hi (by omega) hl rfl) ((World.putObj_heap_other (by omega)).trans hk)⟩
end Go.Proofs.YtpabbmiibehfjaaGreatDoor.Mt

