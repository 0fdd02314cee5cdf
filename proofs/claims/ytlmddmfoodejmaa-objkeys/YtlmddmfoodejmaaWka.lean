/- The document's names and keys; is a text in a list. -/
import Derived.Test.YtlmddmfoodejmaaWsl
namespace Go.Proofs.Ytlmddmfoodejmaa
open Go.RowKit Go.Maps
set_option linter.unusedVariables false
set_option maxRecDepth 20000

set_option maxHeartbeats 8000000 in
theorem r_name (s : ByteArray) (hs : (s.size : Int) ≤ 9223372036854775807) (w : World) : Calls Try.prog 36 #[.string s] w fun e w' => e = .returned (.bool (nameB s)) ∧ w = w' := by
  by_cases h1 : 1 ≤ s.size
  · by_cases h2 : s.size ≤ 64
    · have q1 : decide ((s.size : Int) < 1) = false := by simp; omega
      have q2 : decide ((64 : Int) < (s.size : Int)) = false := by simp; omega
      have hix := fun i hi w => idx9 s i hi w
      have HN : Hid (nameB s = (sInts s).all nameC) := by
        show _ = _
        unfold nameB
        rw [decide_eq_true h1, decide_eq_true h2]
        simp
      go_enter Try.func36, Try.ntmps36
      go_wp2
      go_loopw [3] (fun i wr => ∃ k : Nat, k ≤ s.size ∧ i = .int .i64 k ∧ ((sInts s).take k).all nameC = true ∧ wr = w) (fun i _ => s.size - (intOf i).toNat)
      case atStart => exact ⟨0, Nat.zero_le _, rfl, rfl, rfl⟩
      case round =>
        obtain ⟨k, hk, rfl, hall, rfl⟩ := hrel
        have HALL : Hid (((sInts s).take k).all nameC = true) := hall
        clear hall
        by_cases hlt : k < s.size
        · have hi : (k : Int) < (s.size : Int) := by omega
          have hix2 := hix k hlt wr
          have HT : Hid (((sInts s).take (k + 1)).all nameC = (((sInts s).take k).all nameC && nameC (byteAt s k))) := all_take s k hlt
          have HF : Hid (nameC (byteAt s k) = false → (sInts s).all nameC = false) := fun hc => by
            rw [← List.take_append_drop (k + 1) (sInts s), List.all_append, HT.out, HALL.out, hc]
            rfl
          have HC : Hid (nameC (byteAt s k) = true → ((sInts s).take (k + 1)).all nameC = true) := fun hc => by
            rw [HT.out, HALL.out, hc]
            rfl
          clear hix HT
          generalize byteAt s k = z at hix2 HF HC
          have hz : (97 ≤ z ∧ z ≤ 122) ∨ (48 ≤ z ∧ z ≤ 57) ∨ z = 47 ∨ z = 46 ∨ z = 45 ∨ 122 < z ∨ (57 < z ∧ z < 97) ∨ (z < 48 ∧ z ≠ 47 ∧ z ≠ 46 ∧ z ≠ 45) := by omega
          rcases hz with hz | hz | hz | hz | hz | hz | hz | hz
          · have HCC : Hid (((sInts s).take (k + 1)).all nameC = true) := HC.out (by simp only [nameC, Bool.or_eq_true, Bool.and_eq_true, decide_eq_true_eq]; omega)
            have r0 : decide (97 ≤ z) = true := by simp; omega
            have r1 : decide (z ≤ 122) = true := by simp; omega
            clear HF HC hz
            go_wp2
            go_roundw
            case rel => exact ⟨k + 1, by omega, by go_num, HCC.out, (by trivial)⟩
            case measure => simp [intOf]; omega
          · have HCC : Hid (((sInts s).take (k + 1)).all nameC = true) := HC.out (by simp only [nameC, Bool.or_eq_true, Bool.and_eq_true, decide_eq_true_eq]; omega)
            have r0 : decide (97 ≤ z) = false := by simp; omega
            have r1 : decide (48 ≤ z) = true := by simp; omega
            have r2 : decide (z ≤ 57) = true := by simp; omega
            clear HF HC hz
            go_wp2
            go_roundw
            case rel => exact ⟨k + 1, by omega, by go_num, HCC.out, (by trivial)⟩
            case measure => simp [intOf]; omega
          · have HCC : Hid (((sInts s).take (k + 1)).all nameC = true) := HC.out (by simp only [nameC, Bool.or_eq_true, Bool.and_eq_true, decide_eq_true_eq]; omega)
            have r0 : decide (97 ≤ z) = false := by simp; omega
            have r1 : decide (48 ≤ z) = false := by simp; omega
            have r2 : (z == 47) = true := by simp; omega
            clear HF HC hz
            go_wp2
            go_roundw
            case rel => exact ⟨k + 1, by omega, by go_num, HCC.out, (by trivial)⟩
            case measure => simp [intOf]; omega
          · have HCC : Hid (((sInts s).take (k + 1)).all nameC = true) := HC.out (by simp only [nameC, Bool.or_eq_true, Bool.and_eq_true, decide_eq_true_eq]; omega)
            have r0 : decide (97 ≤ z) = false := by simp; omega
            have r1 : decide (48 ≤ z) = false := by simp; omega
            have r2 : (z == 47) = false := by simp; omega
            have r3 : (z == 46) = true := by simp; omega
            clear HF HC hz
            go_wp2
            go_roundw
            case rel => exact ⟨k + 1, by omega, by go_num, HCC.out, (by trivial)⟩
            case measure => simp [intOf]; omega
          · have HCC : Hid (((sInts s).take (k + 1)).all nameC = true) := HC.out (by simp only [nameC, Bool.or_eq_true, Bool.and_eq_true, decide_eq_true_eq]; omega)
            have r0 : decide (97 ≤ z) = false := by simp; omega
            have r1 : decide (48 ≤ z) = false := by simp; omega
            have r2 : (z == 47) = false := by simp; omega
            have r3 : (z == 46) = false := by simp; omega
            have r4 : (z == 45) = true := by simp; omega
            clear HF HC hz
            go_wp2
            go_roundw
            case rel => exact ⟨k + 1, by omega, by go_num, HCC.out, (by trivial)⟩
            case measure => simp [intOf]; omega
          · have HFF : Hid ((sInts s).all nameC = false) := HF.out (by rw [← Bool.not_eq_true]; simp only [nameC, Bool.or_eq_true, Bool.and_eq_true, decide_eq_true_eq]; omega)
            have r0 : decide (97 ≤ z) = true := by simp; omega
            have r1 : decide (z ≤ 122) = false := by simp; omega
            have r2 : decide (48 ≤ z) = true := by simp; omega
            have r3 : decide (z ≤ 57) = false := by simp; omega
            have r4 : (z == 47) = false := by simp; omega
            have r5 : (z == 46) = false := by simp; omega
            have r6 : (z == 45) = false := by simp; omega
            clear HF HC hz
            go_wp2
            go_ret
            exact ⟨ret_bool (by rw [HN.out, HFF.out]), rfl⟩
          · have HFF : Hid ((sInts s).all nameC = false) := HF.out (by rw [← Bool.not_eq_true]; simp only [nameC, Bool.or_eq_true, Bool.and_eq_true, decide_eq_true_eq]; omega)
            have r0 : decide (97 ≤ z) = false := by simp; omega
            have r1 : decide (48 ≤ z) = true := by simp; omega
            have r2 : decide (z ≤ 57) = false := by simp; omega
            have r3 : (z == 47) = false := by simp; omega
            have r4 : (z == 46) = false := by simp; omega
            have r5 : (z == 45) = false := by simp; omega
            clear HF HC hz
            go_wp2
            go_ret
            exact ⟨ret_bool (by rw [HN.out, HFF.out]), rfl⟩
          · have HFF : Hid ((sInts s).all nameC = false) := HF.out (by rw [← Bool.not_eq_true]; simp only [nameC, Bool.or_eq_true, Bool.and_eq_true, decide_eq_true_eq]; omega)
            have r0 : decide (97 ≤ z) = false := by simp; omega
            have r1 : decide (48 ≤ z) = false := by simp; omega
            have r2 : (z == 47) = false := by simp; omega
            have r3 : (z == 46) = false := by simp; omega
            have r4 : (z == 45) = false := by simp; omega
            clear HF HC hz
            go_wp2
            go_ret
            exact ⟨ret_bool (by rw [HN.out, HFF.out]), rfl⟩
        · have hkk : k = s.size := by omega
          have HC : Hid ((sInts s).all nameC = true) := by
            have h := HALL.out
            rw [hkk, ← sInts_len s, List.take_length] at h
            exact h
          have hi : ¬ (k : Int) < (s.size : Int) := by omega
          clear hix
          go_wp2
          go_ret
          exact ⟨ret_bool (by rw [HN.out, HC.out]), rfl⟩
    · have q1 : decide ((s.size : Int) < 1) = false := by simp; omega
      have q2 : decide ((64 : Int) < (s.size : Int)) = true := by simp; omega
      have HN : Hid (nameB s = false) := by
        show _ = _
        unfold nameB
        rw [decide_eq_false h2]
        simp
      go_enter Try.func36, Try.ntmps36
      go_wp2
      go_ret
      exact ⟨ret_bool HN.out.symm, rfl⟩
  · have q1 : decide ((s.size : Int) < 1) = true := by simp; omega
    have HN : Hid (nameB s = false) := by
      show _ = _
      unfold nameB
      rw [decide_eq_false h1]
      simp
    go_enter Try.func36, Try.ntmps36
    go_wp2
    go_ret
    exact ⟨ret_bool HN.out.symm, rfl⟩
/-- Whether a text is in a list. -/
def InOut (l : List ByteArray) (s : ByteArray) (w : World) (e : Ending) (w' : World) : Prop := ∃ b : Bool, e = .returned (.bool b) ∧ (b = true ↔ s ∈ l) ∧ w = w'
set_option maxHeartbeats 4000000 in
theorem l_in (a : Option Addr) (l : List ByteArray) (L c : Nat) (s : ByteArray) (w : World) (hr : SRd strE w a l) (hL : l.length = L) (hL2 : L ≤ 140737488351232) :
    Calls Try.prog 22 #[.slice a L c, .string s] w (InOut l s w) := by
  have HR : Hid (SRd strE w a l) := hr
  have HL : Hid (l.length = L) := hL
  clear hr hL
  go_enter Try.func22, Try.ntmps22
  go_wp2
  go_loopw [5] (fun i wr => ∃ k : Nat, k ≤ L ∧ i = .int .i64 k ∧ Hid (¬ s ∈ l.take k) ∧ wr = w) (fun i _ => L - (intOf i).toNat)
  case atStart => exact ⟨0, Nat.zero_le _, rfl, by show ¬ s ∈ l.take 0; simp, rfl⟩
  case round =>
    obtain ⟨k, hk, rfl, HI, rfl⟩ := hrel
    by_cases hlt : k < L
    · have hi : (k : Int) < (L : Int) := by omega
      have hl := HL.out
      obtain ⟨ba, off, rfl, hcc⟩ := HR.out.at (by omega)
      obtain ⟨t, ex⟩ : ∃ x, l[k]? = some x := ⟨_, List.getElem?_eq_getElem (by omega)⟩
      have a0 : wr.cell? ⟨ba, off + k, none⟩ = some (.string t) := by have h := hcc k _ 0 _ ex rfl; simpa [strE] using h
      have HT : Hid (l.take (k + 1) = l.take k ++ [t]) := by
        show _ = _
        rw [List.take_add_one, ex]
        simp
      have HM : Hid (t ∈ l) := List.mem_of_getElem? ex
      clear hcc ex
      by_cases he : t = s
      · subst he
        go_wp2
        go_ret
        exact ⟨true, rfl, ⟨fun _ => HM.out, fun _ => rfl⟩, rfl⟩
      · have q2 : (t.toList == s.toList) = false := by rw [str_eq]; simpa using he
        have HCC : Hid (¬ s ∈ l.take (k + 1)) := by
          show ¬ s ∈ l.take (k + 1)
          rw [HT.out, List.mem_append, List.mem_singleton]
          rintro (h | h)
          · exact HI.out h
          · exact he h.symm
        clear he
        go_wp2
        first
          | exact ⟨⟨k + 1, by omega, by go_num, HCC, (by trivial)⟩, by simp [intOf]; omega⟩
          | (go_roundw
             case rel => exact ⟨k + 1, by omega, by go_num, HCC, (by trivial)⟩
             case measure => simp [intOf]; omega)
    · have hkk : k = L := by omega
      have HC : Hid (¬ s ∈ l) := by
        have h := HI.out
        rw [hkk, ← HL.out, List.take_length] at h
        exact h
      have hi : ¬ (k : Int) < (L : Int) := by omega
      clear HI
      go_wp2
      go_ret
      exact ⟨false, rfl, ⟨fun h => (by cases h), fun h => absurd h HC.out⟩, rfl⟩
theorem ext2 (s : ByteArray) (hs : 2 ≤ s.size) : (s.extract 0 (2 : Int).toNat).data.toList = s.data.toList.take 2 := by
  show (s.extract 0 2).data.toList = _
  rw [ByteArray.data_extract, Array.toList_extract, List.extract_eq_take_drop]
  simp
theorem pre2 (s : ByteArray) (c d : UInt8) : Lib.hasPrefix s.data.toList [c, d] = decide (s.data.toList.take 2 = [c, d]) := by
  unfold Lib.hasPrefix
  rcases s.data.toList with _ | ⟨x, _ | ⟨y, r⟩⟩
  · rfl
  · simp [List.isPrefixOf]
  · simp only [List.isPrefixOf, List.take_succ_cons, List.take_zero, List.cons.injEq, and_true, Bool.and_true]
    rw [Bool.eq_iff_iff]
    simp only [Bool.and_eq_true, beq_iff_eq, decide_eq_true_eq]
    constructor <;> (rintro ⟨rfl, rfl⟩; exact ⟨rfl, rfl⟩)
set_option maxHeartbeats 4000000 in
theorem r_key (s : ByteArray) (hs : (s.size : Int) ≤ 9223372036854775807) (w : World) : Calls Try.prog 21 #[.string s] w fun e w' => e = .returned (.bool (keyB s)) ∧ w = w' := by
  have HN := r_name s hs w
  have hkb : keyB s = (nameB s && decide (s.size ≤ 56) && !decide (s.data.toList.take 2 = [111, 47]) && !decide (s.data.toList.take 2 = [116, 47])) := by
    unfold keyB
    rw [pre2, pre2]
  by_cases h56 : s.size ≤ 56
  · have q1 : decide ((56 : Int) < (s.size : Int)) = false := by simp; omega
    cases hn : nameB s with
    | false =>
      rw [hn] at HN
      have HK : Hid (keyB s = false) := by show _ = _; rw [hkb, hn]; rfl
      clear hkb hn
      go_enter Try.func21, Try.ntmps21
      go_wp2_with fail
      refine HN.mono ?_
      rintro e w1 ⟨rfl, rfl⟩
      go_wp2
      go_ret
      exact ⟨ret_bool HK.out.symm, rfl⟩
    | true =>
      rw [hn] at HN
      by_cases h2 : s.size < 2
      · have q2 : decide ((s.size : Int) < 2) = true := by simp; omega
        have hl : s.data.toList.length = s.size := Array.length_toList
        have HK : Hid (keyB s = true) := by
          show _ = _
          rw [hkb, hn, decide_eq_true h56, decide_eq_false (fun e => by have := congrArg List.length e; simp at this; omega), decide_eq_false (fun e => by have := congrArg List.length e; simp at this; omega)]
          rfl
        clear hkb hn hl
        go_enter Try.func21, Try.ntmps21
        go_wp2_with fail
        refine HN.mono ?_
        rintro e w1 ⟨rfl, rfl⟩
        go_wp2
        go_ret
        exact ⟨ret_bool HK.out.symm, rfl⟩
      · have q2 : decide ((s.size : Int) < 2) = false := by simp; omega
        have hsl : ∀ w, (Instr.slice 9 (.string s) none (some (.int .i64 2)) none).run Try.prog w = .ok (.string (s.extract 0 (2 : Int).toNat)) w := fun w => run_slice_string_h w 9 s Try.underlying9 .i64 2 (by omega) (by omega)
        have e2 := ext2 s (by omega)
        have eo : (s.extract 0 (2 : Int).toNat = ⟨#[111, 47]⟩) ↔ s.data.toList.take 2 = [111, 47] := by
          constructor
          · intro e; rw [← e2, e]
          · intro e
            rw [← bN_self (s.extract 0 (2 : Int).toNat), e2, e]
            rfl
        have et : (s.extract 0 (2 : Int).toNat = ⟨#[116, 47]⟩) ↔ s.data.toList.take 2 = [116, 47] := by
          constructor
          · intro e; rw [← e2, e]
          · intro e
            rw [← bN_self (s.extract 0 (2 : Int).toNat), e2, e]
            rfl
        have HK : Hid (keyB s = (!decide (s.extract 0 (2 : Int).toNat = ⟨#[111, 47]⟩) && !decide (s.extract 0 (2 : Int).toNat = ⟨#[116, 47]⟩))) := by
          show _ = _
          rw [hkb, hn, decide_eq_true h56, decide_eq_decide.2 eo, decide_eq_decide.2 et]
          rfl
        clear hkb hn e2 eo et
        generalize s.extract 0 (2 : Int).toNat = t at hsl HK
        by_cases ho : t = ⟨#[111, 47]⟩
        · subst ho
          go_enter Try.func21, Try.ntmps21
          go_wp2_with fail
          refine HN.mono ?_
          rintro e w1 ⟨rfl, rfl⟩
          go_wp2
          go_ret
          exact ⟨ret_bool (by rw [HK.out]; rfl), rfl⟩
        · have q3 : (t.toList == [111, 47]) = false := by rw [show ([111, 47] : List UInt8) = (⟨#[111, 47]⟩ : ByteArray).toList by rw [ByteArray.toList_eq], str_eq]; simpa using ho
          have q3' : ¬ t.toList = [111, 47] := by simpa using q3
          by_cases ht : t = ⟨#[116, 47]⟩
          · subst ht
            go_enter Try.func21, Try.ntmps21
            go_wp2_with fail
            refine HN.mono ?_
            rintro e w1 ⟨rfl, rfl⟩
            go_wp2
            go_ret
            exact ⟨ret_bool (by rw [HK.out]; rfl), rfl⟩
          · have q4 : (t.toList == [116, 47]) = false := by rw [show ([116, 47] : List UInt8) = (⟨#[116, 47]⟩ : ByteArray).toList by rw [ByteArray.toList_eq], str_eq]; simpa using ht
            have q4' : ¬ t.toList = [116, 47] := by simpa using q4
            have HKT : Hid (keyB s = true) := by show _ = _; rw [HK.out, decide_eq_false ho, decide_eq_false ht]; rfl
            go_enter Try.func21, Try.ntmps21
            go_wp2_with fail
            refine HN.mono ?_
            rintro e w1 ⟨rfl, rfl⟩
            go_wp2
            go_ret
            exact ⟨ret_bool HKT.out.symm, rfl⟩
  · have q1 : decide ((56 : Int) < (s.size : Int)) = true := by simp; omega
    have HK : Hid (keyB s = false) := by
      show _ = _
      rw [hkb, decide_eq_false h56]
      simp
    clear hkb
    go_enter Try.func21, Try.ntmps21
    go_wp2
    go_ret
    exact ⟨ret_bool HK.out.symm, rfl⟩
end Go.Proofs.Ytlmddmfoodejmaa
