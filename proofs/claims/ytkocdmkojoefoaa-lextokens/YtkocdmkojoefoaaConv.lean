/- Bytes as a text. -/
import Derived.Test.YtkocdmkojoefoaaBytes
import Derived.Laws.BytesArg
import Derived.Laws.IdiomStrings
import Derived.Lib.Bytes
namespace Go.Proofs.Ytkocdmkojoefoaa
open Go.RowKit
set_option linter.unusedVariables false

theorem conv_rd (w : World) (a : Option Addr) (zs : List Int) (L cap : Nat) (hr : Rd w a zs) (hL : zs.length = L) : (convert 30 9 (.slice a L cap)).run Try.prog w = .ok (.string (strOfNums zs)) w := by
  subst hL
  cases a with
  | none =>
    obtain rfl := hr.none
    rw [run_convert_bytes_nil w 30 5 Try.underlying30 Try.underlying5 _ _ 9 Try.underlying9]
    rfl
  | some ad =>
    rcases hr.1 with rfl | ⟨b, off, e, hc⟩
    · rw [show ([] : List Int).length = ([] : List UInt8).length from rfl, run_convert_bytes_back w 30 9 5 ad cap [] Try.underlying30 Try.underlying5 Try.underlying9 (by intro j hj; simp at hj)]
      rfl
    · obtain rfl := Option.some.inj e
      exact run_convert_bytes_arg w 30 5 Try.underlying30 Try.underlying5 b off zs.length cap zs rfl hc 9 Try.underlying9

theorem strOfNums_inj {xs ys : List Int} (hx : ∀ z ∈ xs, 0 ≤ z ∧ z ≤ 255) (hy : ∀ z ∈ ys, 0 ≤ z ∧ z ≤ 255) (h : (strOfNums xs).data.toList = (strOfNums ys).data.toList) : xs = ys := by
  rw [strOfNums_data, strOfNums_data] at h
  have hl : xs.length = ys.length := by simpa using congrArg List.length h
  refine List.ext_getElem hl fun i h1 h2 => ?_
  have e := congrArg (fun l => l[i]?) h
  simp only [List.getElem?_map, List.getElem?_eq_getElem h1, List.getElem?_eq_getElem h2, Option.map_some, Option.some.injEq] at e
  have e2 := congrArg UInt8.toNat e
  have bx := hx _ (List.getElem_mem h1)
  have bY := hy _ (List.getElem_mem h2)
  simp only [UInt8.toNat_ofNat'] at e2
  omega

end Go.Proofs.Ytkocdmkojoefoaa
