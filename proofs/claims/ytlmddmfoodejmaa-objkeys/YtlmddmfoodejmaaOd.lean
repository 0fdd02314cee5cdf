/- Package obj: inTurn. -/
import Derived.Test.YtlmddmfoodejmaaOc
namespace Go.Proofs.Ytlmddmfoodejmaa
open Go.RowKit Go.Maps
set_option linter.unusedVariables false
set_option maxRecDepth 20000

/-- A method value: the method's number and its receiver. -/
def fnV (p : Nat × Value) : Value := .func (.func p.1) #[p.2] #[]
def fnE : Elem (Nat × Value) where
  cells p := [fnV p]
  size := 1
  pos := by decide
  len _ := rfl
  one p v h := by
    simp only [List.mem_singleton] at h
    subst h
    rfl
/-- Writes that are done up to the first error: behind each P holds, at the end Q. -/
def Turn (P : World → Prop) (Q : Int → World → Prop) : List (Nat × Value) → World → Prop
  | [], w => Q 0 w
  | p :: fs, w => Calls Try.prog p.1 #[p.2] w fun e w1 => ∃ c, e = .returned (.int .i64 c) ∧ P w1 ∧ (c ≠ 0 → Q c w1) ∧ (c = 0 → Turn P Q fs w1)
def TurnOut (Q : Int → World → Prop) (e : Ending) (w' : World) : Prop := ∃ c, e = .returned (.int .i64 c) ∧ Q c w'
set_option maxHeartbeats 4000000 in
theorem o_inTurn (a : Option Addr) (fs : List (Nat × Value)) (L c : Nat) (P : World → Prop) (Q : Int → World → Prop) (w : World) (hP : ∀ w, P w → SRd fnE w a fs) (hp : P w) (hf : ∀ p ∈ fs, p.1 = 38 ∨ p.1 = 43 ∨ p.1 = 44 ∨ p.1 = 45) (hL : fs.length = L) (hL2 : L ≤ 4194304) (ht : Turn P Q fs w) :
    Calls Try.prog 26 #[.slice a L c] w (TurnOut Q) := by
  have HP : Hid (∀ w, P w → SRd fnE w a fs) := hP
  have HF : Hid (∀ p ∈ fs, p.1 = 38 ∨ p.1 = 43 ∨ p.1 = 44 ∨ p.1 = 45) := hf
  have HL : Hid (fs.length = L) := hL
  have H0 : Hid (P w ∧ Turn P Q fs w) := ⟨hp, ht⟩
  clear hP hf hL hp ht
  go_enter Try.func26, Try.ntmps26
  go_wp2
  go_loopw [8] (fun i wr => ∃ k : Nat, k ≤ L ∧ i = .int .i64 k ∧ Hid (P wr ∧ Turn P Q (fs.drop k) wr)) (fun i _ => L - (intOf i).toNat)
  case atStart => exact ⟨0, Nat.zero_le _, rfl, H0.out⟩
  case round =>
    obtain ⟨k, hk, rfl, HI⟩ := hrel
    by_cases hlt : k < L
    · have hi : (k : Int) < (L : Int) := by omega
      have hl := HL.out
      obtain ⟨ba, off, rfl, hcc⟩ := (HP.out wr HI.out.1).at (by omega)
      obtain ⟨p, ex⟩ : ∃ x, fs[k]? = some x := ⟨_, List.getElem?_eq_getElem (by omega)⟩
      have a0 : wr.cell? ⟨ba, off + k, none⟩ = some (fnV p) := by have h := hcc k _ 0 _ ex rfl; simpa [fnE] using h
      have hd : fs.drop k = p :: fs.drop (k + 1) := by
        obtain ⟨h1, h2⟩ := List.getElem?_eq_some_iff.1 ex
        rw [List.drop_eq_getElem_cons h1, h2]
      have ht := HI.out.2
      rw [hd] at ht
      have hm := HF.out p (List.mem_of_getElem? ex)
      clear hcc ex hd HI
      obtain ⟨f, v⟩ := p
      simp only at hm
      unfold fnV at a0
      simp only at a0
      rcases hm with rfl | rfl | rfl | rfl
      · have HT : Hid (Calls Try.prog 38 #[v] wr fun e w1 => ∃ c, e = .returned (.int .i64 c) ∧ P w1 ∧ (c ≠ 0 → Q c w1) ∧ (c = 0 → Turn P Q (fs.drop (k + 1)) w1)) := ht
        clear ht
        go_wp2_with fail
        refine HT.out.mono ?_
        rintro e w1 ⟨c, rfl, hp1, hq, ht1⟩
        by_cases hc : c = 0
        · have HI1 : Hid (P w1 ∧ Turn P Q (fs.drop (k + 1)) w1) := ⟨hp1, ht1 hc⟩
          subst hc
          clear HT hp1 hq ht1
          go_wp2
          go_roundw
          case rel => exact ⟨k + 1, by omega, by go_num, HI1⟩
          case measure => simp [intOf]; omega
        · have HQ : Hid (Q c w1) := hq hc
          have q : (c != 0) = true := by simpa using hc
          clear HT hp1 hq ht1 hc
          go_wp2
          go_ret
          exact ⟨c, rfl, HQ.out⟩
      · have HT : Hid (Calls Try.prog 43 #[v] wr fun e w1 => ∃ c, e = .returned (.int .i64 c) ∧ P w1 ∧ (c ≠ 0 → Q c w1) ∧ (c = 0 → Turn P Q (fs.drop (k + 1)) w1)) := ht
        clear ht
        go_wp2_with fail
        refine HT.out.mono ?_
        rintro e w1 ⟨c, rfl, hp1, hq, ht1⟩
        by_cases hc : c = 0
        · have HI1 : Hid (P w1 ∧ Turn P Q (fs.drop (k + 1)) w1) := ⟨hp1, ht1 hc⟩
          subst hc
          clear HT hp1 hq ht1
          go_wp2
          go_roundw
          case rel => exact ⟨k + 1, by omega, by go_num, HI1⟩
          case measure => simp [intOf]; omega
        · have HQ : Hid (Q c w1) := hq hc
          have q : (c != 0) = true := by simpa using hc
          clear HT hp1 hq ht1 hc
          go_wp2
          go_ret
          exact ⟨c, rfl, HQ.out⟩
      · have HT : Hid (Calls Try.prog 44 #[v] wr fun e w1 => ∃ c, e = .returned (.int .i64 c) ∧ P w1 ∧ (c ≠ 0 → Q c w1) ∧ (c = 0 → Turn P Q (fs.drop (k + 1)) w1)) := ht
        clear ht
        go_wp2_with fail
        refine HT.out.mono ?_
        rintro e w1 ⟨c, rfl, hp1, hq, ht1⟩
        by_cases hc : c = 0
        · have HI1 : Hid (P w1 ∧ Turn P Q (fs.drop (k + 1)) w1) := ⟨hp1, ht1 hc⟩
          subst hc
          clear HT hp1 hq ht1
          go_wp2
          go_roundw
          case rel => exact ⟨k + 1, by omega, by go_num, HI1⟩
          case measure => simp [intOf]; omega
        · have HQ : Hid (Q c w1) := hq hc
          have q : (c != 0) = true := by simpa using hc
          clear HT hp1 hq ht1 hc
          go_wp2
          go_ret
          exact ⟨c, rfl, HQ.out⟩
      · have HT : Hid (Calls Try.prog 45 #[v] wr fun e w1 => ∃ c, e = .returned (.int .i64 c) ∧ P w1 ∧ (c ≠ 0 → Q c w1) ∧ (c = 0 → Turn P Q (fs.drop (k + 1)) w1)) := ht
        clear ht
        go_wp2_with fail
        refine HT.out.mono ?_
        rintro e w1 ⟨c, rfl, hp1, hq, ht1⟩
        by_cases hc : c = 0
        · have HI1 : Hid (P w1 ∧ Turn P Q (fs.drop (k + 1)) w1) := ⟨hp1, ht1 hc⟩
          subst hc
          clear HT hp1 hq ht1
          go_wp2
          go_roundw
          case rel => exact ⟨k + 1, by omega, by go_num, HI1⟩
          case measure => simp [intOf]; omega
        · have HQ : Hid (Q c w1) := hq hc
          have q : (c != 0) = true := by simpa using hc
          clear HT hp1 hq ht1 hc
          go_wp2
          go_ret
          exact ⟨c, rfl, HQ.out⟩
    · have hkk : k = L := by omega
      have HQ : Hid (Q 0 wr) := by
        have h := HI.out.2
        rw [hkk, ← HL.out, List.drop_length] at h
        exact h
      have hi : ¬ (k : Int) < (L : Int) := by omega
      clear HI
      go_wp2
      go_ret
      exact ⟨0, rfl, HQ.out⟩
end Go.Proofs.Ytlmddmfoodejmaa
