/- What the bulk says of WalFolders' arguments. -/
import Derived.Test.YtekejnjaiccnbaaGreatDoorNi
namespace Go.Proofs.YtekejnjaiccnbaaGreatDoor
open Go.ChangeShapes Go.WideShapes Go.ChangeAt Go.RowKit
set_option linter.unusedVariables false

theorem bulk_str {H : Type} (l : List UInt8) : Rows.uptoBulk (DataW.lit (.string l) : DataW H) = l.length + 1 := by rw [Rows.uptoBulk]
section
variable {H : Type} {enc : TypeId × Value → H} {W : World}
theorem bulkTwo {a0 a1 : Option Addr} {len0 cap0 len1 cap1 : Nat} {d0 d1 d2 : DataW H} {p0 p1 : List MemPlace} (h0 : DataW.Trod enc Tryz.prog W 0 (fun _ => true) true 28 (.slice a0 len0 cap0) d0 p0) (h1 : DataW.Trod enc Tryz.prog W 0 (fun _ => true) true 28 (.slice a1 len1 cap1) d1 p1) (hb : Rows.uptoBulkAll [d0, d1, d2] ≤ 1048576) : len0 + len1 ≤ 1048573 := by
  have k1 := bulk_recs Tryz.underlying28 h0
  have k2 := bulk_recs Tryz.underlying28 h1
  have k3 := bulk_pos d2
  simp only [Rows.uptoBulkAll] at hb
  omega
end
end Go.Proofs.YtekejnjaiccnbaaGreatDoor
