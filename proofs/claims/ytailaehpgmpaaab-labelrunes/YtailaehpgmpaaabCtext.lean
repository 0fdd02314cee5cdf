/- The document's own Text and Unframe. -/
import Derived.Test.YtailaehpgmpaaabCframe
namespace Go.Proofs.Ytailaehpgmpaaab
open Go.RowKit

theorem rd_window {w : World} {b off : Nat} {zs : List Int} (hc : ∀ i, i < zs.length → w.cell? ⟨b, off + i, none⟩ = some (.int .u8 (zs.getD i 0))) (hz : ∀ z ∈ zs, 0 ≤ z ∧ z ≤ 255) (k n : Nat) (h : k + n ≤ zs.length) :
    Rd w (some ⟨b, off + k, none⟩) ((zs.drop k).take n) ∧ ((zs.drop k).take n).length = n := by
  have hl : ((zs.drop k).take n).length = n := by simp; omega
  refine ⟨⟨.inr ⟨b, off + k, rfl, fun i hi => ?_⟩, fun z hm => hz z (List.mem_of_mem_drop (List.mem_of_mem_take hm))⟩, hl⟩
  rw [hl] at hi
  rw [Nat.add_assoc, hc (k + i) (by omega)]
  simp [List.getD_eq_getElem?_getD, hi]

def textR (zs : List Int) (p : Int) : ByteArray × Int × Int :=
  if (uintR zs p).2.2 = 0 then
    if (zs.length : Int) - (uintR zs p).2.1 < (uintR zs p).1 then (⟨#[]⟩, 0, 20)
    else (strOfNums ((zs.drop (uintR zs p).2.1.toNat).take (uintR zs p).1.toNat), (uintR zs p).2.1 + (uintR zs p).1, 0)
  else (⟨#[]⟩, 0, (uintR zs p).2.2)

end Go.Proofs.Ytailaehpgmpaaab
