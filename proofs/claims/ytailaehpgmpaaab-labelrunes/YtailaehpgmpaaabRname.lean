/- The document's own Name, Valid, Check. -/
import Derived.Test.YtailaehpgmpaaabRsome
import Derived.Test.YtailaehpgmpaaabCtext
namespace Go.Proofs.Ytailaehpgmpaaab
open Go.RowKit
set_option linter.unusedVariables false

/-- The byte at a place of a text. -/
def byteAt (s : ByteArray) (i : Nat) : Int := (sInts s).getD i 0
theorem byteAt_eq (s : ByteArray) (i : Nat) (hi : i < s.size) : (s[i].toNat : Int) = byteAt s i := by
  unfold byteAt sInts
  rw [List.getD_eq_getElem?_getD, List.getElem?_map]
  have h : s.data.toList[i]? = some s[i] := by
    rw [Array.getElem?_toList]
    exact Array.getElem?_eq_getElem hi
  rw [h]
  rfl
theorem byteAt_bd (s : ByteArray) (i : Nat) : 0 ≤ byteAt s i ∧ byteAt s i ≤ 255 := by
  unfold byteAt
  rw [List.getD_eq_getElem?_getD]
  cases h : (sInts s)[i]? with
  | none => simp
  | some z => exact sInts_byte s z (List.mem_of_getElem? h)
theorem idx9 (s : ByteArray) (i : Nat) (hi : i < s.size) (w : World) : (Instr.index 9 (.string s) (.int .i64 (i : Int))).run Try.prog w = .ok (.int .u8 (byteAt s i)) w := by
  rw [run_index_string w 9 s .i64 (i : Int) Try.underlying9]
  simp [hi, byteAt_eq s i hi]
def nameB (c : Int) : Bool := decide (65 ≤ c) && decide (c ≤ 90) || decide (97 ≤ c) && decide (c ≤ 122) || decide (48 ≤ c) && decide (c ≤ 57) || decide (c = 95)
def nameR (s : ByteArray) : Bool := decide (0 < s.size) && decide (s.size ≤ 64) && !(decide (48 ≤ byteAt s 0) && decide (byteAt s 0 ≤ 57)) && (sInts s).all nameB
def NameAt (s : ByteArray) (k : Nat) (R : Bool) : Prop := ((sInts s).drop k).all nameB = R
theorem NameAt.next {s : ByteArray} {k : Nat} {R : Bool} (h : NameAt s k R) (hk : k < s.size) : (nameB (byteAt s k) && ((sInts s).drop (k + 1)).all nameB) = R := by
  unfold NameAt at h
  have hl : k < (sInts s).length := by rw [sInts_len]; exact hk
  rw [List.drop_eq_getElem_cons hl, List.all_cons] at h
  have : byteAt s k = (sInts s)[k] := by
    unfold byteAt
    rw [List.getD_eq_getElem?_getD, List.getElem?_eq_getElem hl]
    rfl
  rw [this]
  exact h

end Go.Proofs.Ytailaehpgmpaaab
