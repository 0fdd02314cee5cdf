/-
  DERIVED. GIVEN WITH THE SEED: THE CARDS: each row of YteahhkpbjkcmhaaDoorRows.lean that lists a variable, with what it lists TIED to the program's text (the seventh form; the later family's looks); each row that meets fmt, with fmt's text TOLD by the authors' own Lean function (tested against real Go, not proved from fmt's source: count such statements apart). THE CARD IS WHAT COUNTS. Prove the row's statement (the work); the ties are given (YteahhkpbjkcmhaaDoorTie.lean); close each card by the builder's one call (the guide's Derived/Test/ToyasCard.lean, 'card_holds'). Laid BY PROGRAM, IN A SANDBOX (cutbox-door.mjs). By AI agents, Wed Nov 11 2026. No macro, syntax, notation, axiom, sorry.
-/
import Derived.Test.YteahhkpbjkcmhaaDoorRows
import GoSem.ClaimSeven
namespace Go.Proofs.YteahhkpbjkcmhaaDoor
namespace Rows

/-- THE TIED CARD OF 'tidewracklaw5.ChunkEncodes'. -/
def chunkEncodesCard : Claim7 := { stood := { row := chunkEncodesRow, standIns := [], harness := (true, "67d92fd609eb204842976cce587c57060f14539eca5d70899aded4ace4aea8b2"), looks := false }, kinds := [], alts := [], laidByText := true, laidKinds := [.data], laidTests := true, laidLooks := .later }
def ChunkEncodesCardSaid : Prop := Claim7.holds Tryd.pinned (.plain (OpenSpec.ofChange chunkEncodesSpec)) chunkEncodesCard

/-- THE TIED CARD OF 'tidewracklaw5.ChunkDecodes'. -/
def chunkDecodesCard : Claim7 := { stood := { row := chunkDecodesRow, standIns := [], harness := (true, "67d92fd609eb204842976cce587c57060f14539eca5d70899aded4ace4aea8b2"), looks := false }, kinds := [], alts := [], laidByText := true, laidKinds := [.data], laidTests := true, laidLooks := .later }
def ChunkDecodesCardSaid : Prop := Claim7.holds Tryd.pinned (.plain (OpenSpec.ofChange chunkDecodesSpec)) chunkDecodesCard

/-- THE TIED CARD OF 'tidewracklaw5.ChunkBack'. -/
def chunkBackCard : Claim7 := { stood := { row := chunkBackRow, standIns := [], harness := (true, "67d92fd609eb204842976cce587c57060f14539eca5d70899aded4ace4aea8b2"), looks := false }, kinds := [], alts := [], laidByText := true, laidKinds := [.data], laidTests := true, laidLooks := .later }
def ChunkBackCardSaid : Prop := Claim7.holds Tryd.pinned (.plain (OpenSpec.ofChange chunkBackSpec)) chunkBackCard

/-- THE TIED CARD OF 'tidewracklaw5.ChunkCuts'. -/
def chunkCutsCard : Claim7 := { stood := { row := chunkCutsRow, standIns := [], harness := (true, "67d92fd609eb204842976cce587c57060f14539eca5d70899aded4ace4aea8b2"), looks := false }, kinds := [], alts := [], laidByText := true, laidKinds := [.data], laidTests := true, laidLooks := .later }
def ChunkCutsCardSaid : Prop := Claim7.holds Tryd.pinned (.plain (OpenSpec.ofChange chunkCutsSpec)) chunkCutsCard

/-- THE TIED CARD OF 'tidewracklaw5.ChunkEven'. -/
def chunkEvenCard : Claim7 := { stood := { row := chunkEvenRow, standIns := [], harness := (true, "67d92fd609eb204842976cce587c57060f14539eca5d70899aded4ace4aea8b2"), looks := false }, kinds := [], alts := [], laidByText := true, laidKinds := [.data], laidTests := true, laidLooks := .later }
def ChunkEvenCardSaid : Prop := Claim7.holds Tryd.pinned (.plain (OpenSpec.ofChange chunkEvenSpec)) chunkEvenCard

/-- THE TIED CARD OF 'tidewracklaw5.ChunkPrefix'. -/
def chunkPrefixCard : Claim7 := { stood := { row := chunkPrefixRow, standIns := [], harness := (true, "67d92fd609eb204842976cce587c57060f14539eca5d70899aded4ace4aea8b2"), looks := false }, kinds := [], alts := [], laidByText := true, laidKinds := [.data], laidTests := true, laidLooks := .later }
def ChunkPrefixCardSaid : Prop := Claim7.holds Tryd.pinned (.plain (OpenSpec.ofChange chunkPrefixSpec)) chunkPrefixCard

/-- THE SECOND FORM's CARD OF 'tidewracklaw5.ChunkEncodes'. -/
def chunkEncodesUptoCard : Claim7 := { stood := { row := chunkEncodesUptoRow, standIns := [], harness := (true, "67d92fd609eb204842976cce587c57060f14539eca5d70899aded4ace4aea8b2"), looks := false }, kinds := [], alts := [], laidByText := true, laidKinds := [.data], laidTests := true, laidLooks := .later }
def ChunkEncodesUptoCardSaid : Prop := Claim7.holds Tryd.pinned (.plain (OpenSpec.upto chunkEncodesSpec)) chunkEncodesUptoCard

/-- THE SECOND FORM's CARD OF 'tidewracklaw5.ChunkDecodes'. -/
def chunkDecodesUptoCard : Claim7 := { stood := { row := chunkDecodesUptoRow, standIns := [], harness := (true, "67d92fd609eb204842976cce587c57060f14539eca5d70899aded4ace4aea8b2"), looks := false }, kinds := [], alts := [], laidByText := true, laidKinds := [.data], laidTests := true, laidLooks := .later }
def ChunkDecodesUptoCardSaid : Prop := Claim7.holds Tryd.pinned (.plain (OpenSpec.upto chunkDecodesSpec)) chunkDecodesUptoCard

/-- THE SECOND FORM's CARD OF 'tidewracklaw5.ChunkBack'. -/
def chunkBackUptoCard : Claim7 := { stood := { row := chunkBackUptoRow, standIns := [], harness := (true, "67d92fd609eb204842976cce587c57060f14539eca5d70899aded4ace4aea8b2"), looks := false }, kinds := [], alts := [], laidByText := true, laidKinds := [.data], laidTests := true, laidLooks := .later }
def ChunkBackUptoCardSaid : Prop := Claim7.holds Tryd.pinned (.plain (OpenSpec.upto chunkBackSpec)) chunkBackUptoCard

/-- THE SECOND FORM's CARD OF 'tidewracklaw5.ChunkCuts'. -/
def chunkCutsUptoCard : Claim7 := { stood := { row := chunkCutsUptoRow, standIns := [], harness := (true, "67d92fd609eb204842976cce587c57060f14539eca5d70899aded4ace4aea8b2"), looks := false }, kinds := [], alts := [], laidByText := true, laidKinds := [.data], laidTests := true, laidLooks := .later }
def ChunkCutsUptoCardSaid : Prop := Claim7.holds Tryd.pinned (.plain (OpenSpec.upto chunkCutsSpec)) chunkCutsUptoCard

/-- THE SECOND FORM's CARD OF 'tidewracklaw5.ChunkEven'. -/
def chunkEvenUptoCard : Claim7 := { stood := { row := chunkEvenUptoRow, standIns := [], harness := (true, "67d92fd609eb204842976cce587c57060f14539eca5d70899aded4ace4aea8b2"), looks := false }, kinds := [], alts := [], laidByText := true, laidKinds := [.data], laidTests := true, laidLooks := .later }
def ChunkEvenUptoCardSaid : Prop := Claim7.holds Tryd.pinned (.plain (OpenSpec.upto chunkEvenSpec)) chunkEvenUptoCard

/-- THE SECOND FORM's CARD OF 'tidewracklaw5.ChunkPrefix'. -/
def chunkPrefixUptoCard : Claim7 := { stood := { row := chunkPrefixUptoRow, standIns := [], harness := (true, "67d92fd609eb204842976cce587c57060f14539eca5d70899aded4ace4aea8b2"), looks := false }, kinds := [], alts := [], laidByText := true, laidKinds := [.data], laidTests := true, laidLooks := .later }
def ChunkPrefixUptoCardSaid : Prop := Claim7.holds Tryd.pinned (.plain (OpenSpec.upto chunkPrefixSpec)) chunkPrefixUptoCard
end Rows
end Go.Proofs.YteahhkpbjkcmhaaDoor
