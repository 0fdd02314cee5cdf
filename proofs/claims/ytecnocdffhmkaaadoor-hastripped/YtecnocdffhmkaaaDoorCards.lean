/-
  DERIVED. GIVEN WITH THE SEED: THE CARDS: each row of YtecnocdffhmkaaaDoorRows.lean that lists a variable, with what it lists TIED to the program's text (the seventh form; the later family's looks); each row that meets fmt, with fmt's text TOLD by the authors' own Lean function (tested against real Go, not proved from fmt's source: count such statements apart). THE CARD IS WHAT COUNTS. Prove the row's statement (the work); the ties are given (YtecnocdffhmkaaaDoorTie.lean); close each card by the builder's one call (the guide's Derived/Test/ToyasCard.lean, 'card_holds'). Laid BY PROGRAM, IN A SANDBOX (cutbox-door.mjs). By AI agents, Wed Nov 11 2026. No macro, syntax, notation, axiom, sorry.
-/
import Derived.Test.YtecnocdffhmkaaaDoorRows
import GoSem.ClaimSeven
namespace Go.Proofs.YtecnocdffhmkaaaDoor
namespace Rows

/-- THE TIED CARD OF 'tidewracklaw16.HaSplits'. -/
def haSplitsCard : Claim7 := { stood := { row := haSplitsRow, standIns := [], harness := (true, "b882c1bfd00103ee693b33b36370d7bed4cc5e5e64b3e36185a7d3abd57adb11"), looks := false }, kinds := [], alts := [], laidByText := true, laidKinds := [.data, .data, .data], laidTests := true, laidLooks := .later }
def HaSplitsCardSaid : Prop := Claim7.holds Tryd.pinned (.plain (OpenSpec.ofChange haSplitsSpec)) haSplitsCard

/-- THE TIED CARD OF 'tidewracklaw16.HaDecides'. -/
def haDecidesCard : Claim7 := { stood := { row := haDecidesRow, standIns := [], harness := (true, "b882c1bfd00103ee693b33b36370d7bed4cc5e5e64b3e36185a7d3abd57adb11"), looks := false }, kinds := [], alts := [], laidByText := true, laidKinds := [.data, .data, .data], laidTests := true, laidLooks := .later }
def HaDecidesCardSaid : Prop := Claim7.holds Tryd.pinned (.plain (OpenSpec.ofChange haDecidesSpec)) haDecidesCard

/-- THE TIED CARD OF 'tidewracklaw16.HaOne'. -/
def haOneCard : Claim7 := { stood := { row := haOneRow, standIns := [], harness := (true, "b882c1bfd00103ee693b33b36370d7bed4cc5e5e64b3e36185a7d3abd57adb11"), looks := false }, kinds := [], alts := [], laidByText := true, laidKinds := [.data, .data, .data], laidTests := true, laidLooks := .later }
def HaOneCardSaid : Prop := Claim7.holds Tryd.pinned (.plain (OpenSpec.ofChange haOneSpec)) haOneCard

/-- THE TIED CARD OF 'tidewracklaw16.HaStripped'. -/
def haStrippedCard : Claim7 := { stood := { row := haStrippedRow, standIns := [], harness := (true, "b882c1bfd00103ee693b33b36370d7bed4cc5e5e64b3e36185a7d3abd57adb11"), looks := false }, kinds := [], alts := [], laidByText := true, laidKinds := [.data, .data, .data], laidTests := true, laidLooks := .later }
def HaStrippedCardSaid : Prop := Claim7.holds Tryd.pinned (.plain (OpenSpec.ofChange haStrippedSpec)) haStrippedCard

/-- THE TIED CARD OF 'tidewracklaw16.HaKeys'. -/
def haKeysCard : Claim7 := { stood := { row := haKeysRow, standIns := [], harness := (true, "b882c1bfd00103ee693b33b36370d7bed4cc5e5e64b3e36185a7d3abd57adb11"), looks := false }, kinds := [], alts := [], laidByText := true, laidKinds := [.data, .data, .data], laidTests := true, laidLooks := .later }
def HaKeysCardSaid : Prop := Claim7.holds Tryd.pinned (.plain (OpenSpec.ofChange haKeysSpec)) haKeysCard

/-- THE SECOND FORM's CARD OF 'tidewracklaw16.HaSplits'. -/
def haSplitsUptoCard : Claim7 := { stood := { row := haSplitsUptoRow, standIns := [], harness := (true, "b882c1bfd00103ee693b33b36370d7bed4cc5e5e64b3e36185a7d3abd57adb11"), looks := false }, kinds := [], alts := [], laidByText := true, laidKinds := [.data, .data, .data], laidTests := true, laidLooks := .later }
def HaSplitsUptoCardSaid : Prop := Claim7.holds Tryd.pinned (.plain (OpenSpec.upto haSplitsSpec)) haSplitsUptoCard

/-- THE SECOND FORM's CARD OF 'tidewracklaw16.HaDecides'. -/
def haDecidesUptoCard : Claim7 := { stood := { row := haDecidesUptoRow, standIns := [], harness := (true, "b882c1bfd00103ee693b33b36370d7bed4cc5e5e64b3e36185a7d3abd57adb11"), looks := false }, kinds := [], alts := [], laidByText := true, laidKinds := [.data, .data, .data], laidTests := true, laidLooks := .later }
def HaDecidesUptoCardSaid : Prop := Claim7.holds Tryd.pinned (.plain (OpenSpec.upto haDecidesSpec)) haDecidesUptoCard

/-- THE SECOND FORM's CARD OF 'tidewracklaw16.HaOne'. -/
def haOneUptoCard : Claim7 := { stood := { row := haOneUptoRow, standIns := [], harness := (true, "b882c1bfd00103ee693b33b36370d7bed4cc5e5e64b3e36185a7d3abd57adb11"), looks := false }, kinds := [], alts := [], laidByText := true, laidKinds := [.data, .data, .data], laidTests := true, laidLooks := .later }
def HaOneUptoCardSaid : Prop := Claim7.holds Tryd.pinned (.plain (OpenSpec.upto haOneSpec)) haOneUptoCard

/-- THE SECOND FORM's CARD OF 'tidewracklaw16.HaStripped'. -/
def haStrippedUptoCard : Claim7 := { stood := { row := haStrippedUptoRow, standIns := [], harness := (true, "b882c1bfd00103ee693b33b36370d7bed4cc5e5e64b3e36185a7d3abd57adb11"), looks := false }, kinds := [], alts := [], laidByText := true, laidKinds := [.data, .data, .data], laidTests := true, laidLooks := .later }
def HaStrippedUptoCardSaid : Prop := Claim7.holds Tryd.pinned (.plain (OpenSpec.upto haStrippedSpec)) haStrippedUptoCard

/-- THE SECOND FORM's CARD OF 'tidewracklaw16.HaKeys'. -/
def haKeysUptoCard : Claim7 := { stood := { row := haKeysUptoRow, standIns := [], harness := (true, "b882c1bfd00103ee693b33b36370d7bed4cc5e5e64b3e36185a7d3abd57adb11"), looks := false }, kinds := [], alts := [], laidByText := true, laidKinds := [.data, .data, .data], laidTests := true, laidLooks := .later }
def HaKeysUptoCardSaid : Prop := Claim7.holds Tryd.pinned (.plain (OpenSpec.upto haKeysSpec)) haKeysUptoCard
end Rows
end Go.Proofs.YtecnocdffhmkaaaDoor
