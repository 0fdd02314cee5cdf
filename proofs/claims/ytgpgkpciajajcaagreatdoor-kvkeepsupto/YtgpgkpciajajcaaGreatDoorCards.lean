/-
  DERIVED. GIVEN WITH THE SEED: THE CARDS: each row of YtgpgkpciajajcaaGreatDoorRows.lean that lists a variable, with what it lists TIED to the program's text (the seventh form; the later family's looks); each row that meets fmt, with fmt's text TOLD by the authors' own Lean function (tested against real Go, not proved from fmt's source: count such statements apart). THE CARD IS WHAT COUNTS. Prove the row's statement (the work); the ties are given (YtgpgkpciajajcaaGreatDoorTie.lean); close each card by the builder's one call (the guide's Derived/Test/ToyasCard.lean, 'card_holds'). Laid BY PROGRAM, IN A SANDBOX (cutbox-door.mjs). By AI agents, Wed Nov 11 2026. No macro, syntax, notation, axiom, sorry.
-/
import Derived.Test.YtgpgkpciajajcaaGreatDoorRows
import GoSem.ClaimSeven
namespace Go.Proofs.YtgpgkpciajajcaaGreatDoor
namespace Rows

/-- THE TIED CARD OF 'tidewracklaw12.KvPlays'. -/
def kvPlaysCard : Claim7 := { stood := { row := kvPlaysRow, standIns := [], harness := (true, "04bb2d1022c74912832bafa17375fd343ab6371cba1526cdcf11da19b80c8cef"), looks := true }, kinds := [], alts := [], laidByText := true, laidKinds := [.data, .data, .data, .sentinel, .sentinel], laidTests := true, laidLooks := .later }
def KvPlaysCardSaid : Prop := Claim7.holds Tryz.pinned (.plain (OpenSpec.ofChange kvPlaysSpec)) kvPlaysCard

/-- THE TIED CARD OF 'tidewracklaw12.KvKeeps'. -/
def kvKeepsCard : Claim7 := { stood := { row := kvKeepsRow, standIns := [], harness := (true, "04bb2d1022c74912832bafa17375fd343ab6371cba1526cdcf11da19b80c8cef"), looks := true }, kinds := [], alts := [], laidByText := true, laidKinds := [.data, .data, .data, .sentinel, .sentinel], laidTests := true, laidLooks := .later }
def KvKeepsCardSaid : Prop := Claim7.holds Tryz.pinned (.plain (OpenSpec.ofChange kvKeepsSpec)) kvKeepsCard

/-- THE TIED CARD OF 'tidewracklaw12.KvTwo'. -/
def kvTwoCard : Claim7 := { stood := { row := kvTwoRow, standIns := [], harness := (true, "04bb2d1022c74912832bafa17375fd343ab6371cba1526cdcf11da19b80c8cef"), looks := true }, kinds := [], alts := [], laidByText := true, laidKinds := [.data, .data, .data, .sentinel, .sentinel], laidTests := true, laidLooks := .later }
def KvTwoCardSaid : Prop := Claim7.holds Tryz.pinned (.plain (OpenSpec.ofChange kvTwoSpec)) kvTwoCard

/-- THE TIED CARD OF 'tidewracklaw12.KvMany'. -/
def kvManyCard : Claim7 := { stood := { row := kvManyRow, standIns := [], harness := (true, "04bb2d1022c74912832bafa17375fd343ab6371cba1526cdcf11da19b80c8cef"), looks := true }, kinds := [], alts := [], laidByText := true, laidKinds := [.data, .data, .data, .sentinel, .sentinel], laidTests := true, laidLooks := .later }
def KvManyCardSaid : Prop := Claim7.holds Tryz.pinned (.plain (OpenSpec.ofChange kvManySpec)) kvManyCard

/-- THE SECOND FORM's CARD OF 'tidewracklaw12.KvPlays'. -/
def kvPlaysUptoCard : Claim7 := { stood := { row := kvPlaysUptoRow, standIns := [], harness := (true, "04bb2d1022c74912832bafa17375fd343ab6371cba1526cdcf11da19b80c8cef"), looks := true }, kinds := [], alts := [], laidByText := true, laidKinds := [.data, .data, .data, .sentinel, .sentinel], laidTests := true, laidLooks := .later }
def KvPlaysUptoCardSaid : Prop := Claim7.holds Tryz.pinned (.plain (OpenSpec.upto kvPlaysSpec)) kvPlaysUptoCard

/-- THE SECOND FORM's CARD OF 'tidewracklaw12.KvKeeps'. -/
def kvKeepsUptoCard : Claim7 := { stood := { row := kvKeepsUptoRow, standIns := [], harness := (true, "04bb2d1022c74912832bafa17375fd343ab6371cba1526cdcf11da19b80c8cef"), looks := true }, kinds := [], alts := [], laidByText := true, laidKinds := [.data, .data, .data, .sentinel, .sentinel], laidTests := true, laidLooks := .later }
def KvKeepsUptoCardSaid : Prop := Claim7.holds Tryz.pinned (.plain (OpenSpec.upto kvKeepsSpec)) kvKeepsUptoCard

/-- THE SECOND FORM's CARD OF 'tidewracklaw12.KvTwo'. -/
def kvTwoUptoCard : Claim7 := { stood := { row := kvTwoUptoRow, standIns := [], harness := (true, "04bb2d1022c74912832bafa17375fd343ab6371cba1526cdcf11da19b80c8cef"), looks := true }, kinds := [], alts := [], laidByText := true, laidKinds := [.data, .data, .data, .sentinel, .sentinel], laidTests := true, laidLooks := .later }
def KvTwoUptoCardSaid : Prop := Claim7.holds Tryz.pinned (.plain (OpenSpec.upto kvTwoSpec)) kvTwoUptoCard

/-- THE SECOND FORM's CARD OF 'tidewracklaw12.KvMany'. -/
def kvManyUptoCard : Claim7 := { stood := { row := kvManyUptoRow, standIns := [], harness := (true, "04bb2d1022c74912832bafa17375fd343ab6371cba1526cdcf11da19b80c8cef"), looks := true }, kinds := [], alts := [], laidByText := true, laidKinds := [.data, .data, .data, .sentinel, .sentinel], laidTests := true, laidLooks := .later }
def KvManyUptoCardSaid : Prop := Claim7.holds Tryz.pinned (.plain (OpenSpec.upto kvManySpec)) kvManyUptoCard
end Rows
end Go.Proofs.YtgpgkpciajajcaaGreatDoor
