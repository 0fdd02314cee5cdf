/-
  No cell of these rows narrows 'for every input' (looked for: loops, veiled, ifaces, maps, wideKeys, modest, calm, conditions, laid).
  DERIVED. THE GIVEN ROWS OF THIS SEAT. 6 by the template 'for every input the law returns true; each argument reads behind the call as it read before'; 0 by the template 'total and deterministic' (their statements: YtboamjhlaehoaaaGreatTotals.lean).
  GIVEN WITH THE SEED: the statements are not yours to turn. If you find one false, say at which input.
  Laid BY PROGRAM, IN A SANDBOX (cutbox-rows.mjs): the forced cells as the released guide's own fill.sh prints them over the translation b521b7acdf723e80… (all of the seat's roots in one cut). By AI agents, Wed Nov 11 2026. No macro, syntax, notation, axiom, sorry.
-/
import Derived.Test.YtboamjhlaehoaaaGreatChecked
import GoSem.Claim
import GoSem.ClaimJoined
import GoSem.ClaimMapViews
import Derived.JoinedTies
import Derived.KernelRfl
namespace Go.Proofs.YtboamjhlaehoaaaGreat
/- THE CELL 'sum', in the pinned program and in every row, IS THE sha256 OF THE DUMP (.gsa) THAT YtboamjhlaehoaaaGreatProg.lean LOADS. Nothing in Lean hashes anything: it is a label: what it is worth is what the hold of that sum in a sandbox is worth. -/
noncomputable def Tryz.pinned : Pinned := { name := "ytboamjhlaehoaaagreat", sum := "b521b7acdf723e808154a4a27e1074c48fb3d1348fa2b10fa734cfa408671822", checked := Tryz.checked }
namespace Rows
def none {H : Type} : Left H := { results := [], args := [] }

/-- 'tidewracklaw13.RingChanges': WHATEVER THE INPUT: true; the input reads as it did. -/
def ringChangesSpec : ChangeSpec := { name := "ringChanges", fn := fun _ => fun
  | [d1, d2] => { results := [.lit (.bool true)], args := [d1, d2] }
  | _ => none }
def ringChangesRow : OpenClaim := { program := "ytboamjhlaehoaaagreat", sum := "b521b7acdf723e808154a4a27e1074c48fb3d1348fa2b10fa734cfa408671822", func := "tidewrack/tidewracklaw13.RingChanges", spec := "ringChanges", inPlace := ["slices.overlaps[tidewrack/api.Member]"], unfollowed := true, recurses := true, apart := false }
def RingChangesSaid : Prop := ringChangesRow.holds Tryz.pinned (OpenSpec.ofChange ringChangesSpec)

/-- ITS FALSE NEIGHBOUR: 'it returns false'. Refute it at one input. -/
def ringChangesWrong : ChangeSpec := { name := "ringChanges", fn := fun _ => fun
  | [d1, d2] => { results := [.lit (.bool false)], args := [d1, d2] }
  | _ => none }
def RingChangesWrongFalsely : Prop := ringChangesRow.holds Tryz.pinned (OpenSpec.ofChange ringChangesWrong)

/-- 'tidewracklaw13.RingReplicas': WHATEVER THE INPUT: true; the input reads as it did. -/
def ringReplicasSpec : ChangeSpec := { name := "ringReplicas", fn := fun _ => fun
  | [d1, d2, d3] => { results := [.lit (.bool true)], args := [d1, d2, d3] }
  | _ => none }
def ringReplicasRow : OpenClaim := { program := "ytboamjhlaehoaaagreat", sum := "b521b7acdf723e808154a4a27e1074c48fb3d1348fa2b10fa734cfa408671822", func := "tidewrack/tidewracklaw13.RingReplicas", spec := "ringReplicas", inPlace := ["slices.overlaps[tidewrack/api.Member]"], unfollowed := true, recurses := true, apart := false }
def RingReplicasSaid : Prop := ringReplicasRow.holds Tryz.pinned (OpenSpec.ofChange ringReplicasSpec)

/-- ITS FALSE NEIGHBOUR: 'it returns false'. Refute it at one input. -/
def ringReplicasWrong : ChangeSpec := { name := "ringReplicas", fn := fun _ => fun
  | [d1, d2, d3] => { results := [.lit (.bool false)], args := [d1, d2, d3] }
  | _ => none }
def RingReplicasWrongFalsely : Prop := ringReplicasRow.holds Tryz.pinned (OpenSpec.ofChange ringReplicasWrong)

/-- 'tidewracklaw13.RingBytes': WHATEVER THE INPUT: true; the input reads as it did. -/
def ringBytesSpec : ChangeSpec := { name := "ringBytes", fn := fun _ => fun
  | [d1, d2] => { results := [.lit (.bool true)], args := [d1, d2] }
  | _ => none }
def ringBytesRow : OpenClaim := { program := "ytboamjhlaehoaaagreat", sum := "b521b7acdf723e808154a4a27e1074c48fb3d1348fa2b10fa734cfa408671822", func := "tidewrack/tidewracklaw13.RingBytes", spec := "ringBytes", inPlace := ["slices.overlaps[tidewrack/api.Member]"], unfollowed := true, recurses := true, apart := false }
def RingBytesSaid : Prop := ringBytesRow.holds Tryz.pinned (OpenSpec.ofChange ringBytesSpec)

/-- ITS FALSE NEIGHBOUR: 'it returns false'. Refute it at one input. -/
def ringBytesWrong : ChangeSpec := { name := "ringBytes", fn := fun _ => fun
  | [d1, d2] => { results := [.lit (.bool false)], args := [d1, d2] }
  | _ => none }
def RingBytesWrongFalsely : Prop := ringBytesRow.holds Tryz.pinned (OpenSpec.ofChange ringBytesWrong)

/-- 'tidewracklaw13.RingFew': WHATEVER THE INPUT: true; the input reads as it did. -/
def ringFewSpec : ChangeSpec := { name := "ringFew", fn := fun _ => fun
  | [d1, d2] => { results := [.lit (.bool true)], args := [d1, d2] }
  | _ => none }
def ringFewRow : OpenClaim := { program := "ytboamjhlaehoaaagreat", sum := "b521b7acdf723e808154a4a27e1074c48fb3d1348fa2b10fa734cfa408671822", func := "tidewrack/tidewracklaw13.RingFew", spec := "ringFew", inPlace := ["slices.overlaps[tidewrack/api.Member]"], unfollowed := true, recurses := true, apart := false }
def RingFewSaid : Prop := ringFewRow.holds Tryz.pinned (OpenSpec.ofChange ringFewSpec)

/-- ITS FALSE NEIGHBOUR: 'it returns false'. Refute it at one input. -/
def ringFewWrong : ChangeSpec := { name := "ringFew", fn := fun _ => fun
  | [d1, d2] => { results := [.lit (.bool false)], args := [d1, d2] }
  | _ => none }
def RingFewWrongFalsely : Prop := ringFewRow.holds Tryz.pinned (OpenSpec.ofChange ringFewWrong)

/-- 'tidewracklaw13.RingTurns': WHATEVER THE INPUT: true; the input reads as it did. -/
def ringTurnsSpec : ChangeSpec := { name := "ringTurns", fn := fun _ => fun
  | [d1, d2, d3, d4] => { results := [.lit (.bool true)], args := [d1, d2, d3, d4] }
  | _ => none }
def ringTurnsRow : OpenClaim := { program := "ytboamjhlaehoaaagreat", sum := "b521b7acdf723e808154a4a27e1074c48fb3d1348fa2b10fa734cfa408671822", func := "tidewrack/tidewracklaw13.RingTurns", spec := "ringTurns", inPlace := ["slices.overlaps[tidewrack/api.Member]"], unfollowed := true, recurses := true, apart := false }
def RingTurnsSaid : Prop := ringTurnsRow.holds Tryz.pinned (OpenSpec.ofChange ringTurnsSpec)

/-- ITS FALSE NEIGHBOUR: 'it returns false'. Refute it at one input. -/
def ringTurnsWrong : ChangeSpec := { name := "ringTurns", fn := fun _ => fun
  | [d1, d2, d3, d4] => { results := [.lit (.bool false)], args := [d1, d2, d3, d4] }
  | _ => none }
def RingTurnsWrongFalsely : Prop := ringTurnsRow.holds Tryz.pinned (OpenSpec.ofChange ringTurnsWrong)

/-- 'tidewracklaw13.RingRounds': WHATEVER THE INPUT: true; the input reads as it did. -/
def ringRoundsSpec : ChangeSpec := { name := "ringRounds", fn := fun _ => fun
  | [d1, d2] => { results := [.lit (.bool true)], args := [d1, d2] }
  | _ => none }
def ringRoundsRow : OpenClaim := { program := "ytboamjhlaehoaaagreat", sum := "b521b7acdf723e808154a4a27e1074c48fb3d1348fa2b10fa734cfa408671822", func := "tidewrack/tidewracklaw13.RingRounds", spec := "ringRounds", inPlace := ["slices.overlaps[tidewrack/api.Member]"], unfollowed := true, recurses := true, apart := false }
def RingRoundsSaid : Prop := ringRoundsRow.holds Tryz.pinned (OpenSpec.ofChange ringRoundsSpec)

/-- ITS FALSE NEIGHBOUR: 'it returns false'. Refute it at one input. -/
def ringRoundsWrong : ChangeSpec := { name := "ringRounds", fn := fun _ => fun
  | [d1, d2] => { results := [.lit (.bool false)], args := [d1, d2] }
  | _ => none }
def RingRoundsWrongFalsely : Prop := ringRoundsRow.holds Tryz.pinned (OpenSpec.ofChange ringRoundsWrong)

/- THE SECOND FORM. 'bulk': how many values and letters a reading holds, each counted each time it is reached (what is shared counts as often as it is met; a slice's spare places count too). A statement '..UptoSaid' is the law's where the arguments, and the package variables that the reading takes, are together of bulk at most 1048576: NARROWER than '..Said'. Prove '..Said' where nothing that the law and all that it calls make is longer than what came in: it says more and counts as full. Else prove '..UptoSaid'. A law counts once. -/
mutual
def uptoBulk {H : Type} : DataW H → Nat
  | .lit (.string bytes) => bytes.length + 1
  | .lit _ => 1
  | .nil => 1
  | .ptr d => uptoBulk d + 1
  | .slice elems spare => uptoBulkAll elems + uptoBulkAll spare + 1
  | .agg parts => uptoBulkAll parts + 1
  | .iface _ d => uptoBulk d + 1
  | .map entries => uptoBulkEntries entries + 1
  | .held _ => 1
def uptoBulkAll {H : Type} : List (DataW H) → Nat
  | [] => 0
  | d :: r => uptoBulk d + uptoBulkAll r
def uptoBulkEntries {H : Type} : List (Lit × DataW H) → Nat
  | [] => 0
  | x :: r => uptoBulkEntry x + uptoBulkEntries r
def uptoBulkEntry {H : Type} : Lit × DataW H → Nat
  | (.string bytes, d) => bytes.length + uptoBulk d + 1
  | (_, d) => uptoBulk d + 1
 end
def uptoSmall : (H : Type) → List (DataW H) → Bool := fun _ ds => decide (uptoBulkAll ds ≤ 1048576)
def OpenSpec.upto (s : _root_.Go.ChangeSpec) : _root_.Go.OpenSpec := { _root_.Go.OpenSpec.ofChange s with cond := some uptoSmall }

/-- 'tidewracklaw13.RingChanges', WHERE WHAT IT READS IS OF BULK AT MOST 1048576: true; the input reads as it did. -/
def ringChangesUptoRow : OpenClaim := { program := "ytboamjhlaehoaaagreat", sum := "b521b7acdf723e808154a4a27e1074c48fb3d1348fa2b10fa734cfa408671822", func := "tidewrack/tidewracklaw13.RingChanges", spec := "ringChanges", inPlace := ["slices.overlaps[tidewrack/api.Member]"], unfollowed := true, recurses := true, apart := false, narrowed := true }
def RingChangesUptoSaid : Prop := ringChangesUptoRow.holds Tryz.pinned (OpenSpec.upto ringChangesSpec)

/-- 'tidewracklaw13.RingReplicas', WHERE WHAT IT READS IS OF BULK AT MOST 1048576: true; the input reads as it did. -/
def ringReplicasUptoRow : OpenClaim := { program := "ytboamjhlaehoaaagreat", sum := "b521b7acdf723e808154a4a27e1074c48fb3d1348fa2b10fa734cfa408671822", func := "tidewrack/tidewracklaw13.RingReplicas", spec := "ringReplicas", inPlace := ["slices.overlaps[tidewrack/api.Member]"], unfollowed := true, recurses := true, apart := false, narrowed := true }
def RingReplicasUptoSaid : Prop := ringReplicasUptoRow.holds Tryz.pinned (OpenSpec.upto ringReplicasSpec)

/-- 'tidewracklaw13.RingBytes', WHERE WHAT IT READS IS OF BULK AT MOST 1048576: true; the input reads as it did. -/
def ringBytesUptoRow : OpenClaim := { program := "ytboamjhlaehoaaagreat", sum := "b521b7acdf723e808154a4a27e1074c48fb3d1348fa2b10fa734cfa408671822", func := "tidewrack/tidewracklaw13.RingBytes", spec := "ringBytes", inPlace := ["slices.overlaps[tidewrack/api.Member]"], unfollowed := true, recurses := true, apart := false, narrowed := true }
def RingBytesUptoSaid : Prop := ringBytesUptoRow.holds Tryz.pinned (OpenSpec.upto ringBytesSpec)

/-- 'tidewracklaw13.RingFew', WHERE WHAT IT READS IS OF BULK AT MOST 1048576: true; the input reads as it did. -/
def ringFewUptoRow : OpenClaim := { program := "ytboamjhlaehoaaagreat", sum := "b521b7acdf723e808154a4a27e1074c48fb3d1348fa2b10fa734cfa408671822", func := "tidewrack/tidewracklaw13.RingFew", spec := "ringFew", inPlace := ["slices.overlaps[tidewrack/api.Member]"], unfollowed := true, recurses := true, apart := false, narrowed := true }
def RingFewUptoSaid : Prop := ringFewUptoRow.holds Tryz.pinned (OpenSpec.upto ringFewSpec)

/-- 'tidewracklaw13.RingTurns', WHERE WHAT IT READS IS OF BULK AT MOST 1048576: true; the input reads as it did. -/
def ringTurnsUptoRow : OpenClaim := { program := "ytboamjhlaehoaaagreat", sum := "b521b7acdf723e808154a4a27e1074c48fb3d1348fa2b10fa734cfa408671822", func := "tidewrack/tidewracklaw13.RingTurns", spec := "ringTurns", inPlace := ["slices.overlaps[tidewrack/api.Member]"], unfollowed := true, recurses := true, apart := false, narrowed := true }
def RingTurnsUptoSaid : Prop := ringTurnsUptoRow.holds Tryz.pinned (OpenSpec.upto ringTurnsSpec)

/-- 'tidewracklaw13.RingRounds', WHERE WHAT IT READS IS OF BULK AT MOST 1048576: true; the input reads as it did. -/
def ringRoundsUptoRow : OpenClaim := { program := "ytboamjhlaehoaaagreat", sum := "b521b7acdf723e808154a4a27e1074c48fb3d1348fa2b10fa734cfa408671822", func := "tidewrack/tidewracklaw13.RingRounds", spec := "ringRounds", inPlace := ["slices.overlaps[tidewrack/api.Member]"], unfollowed := true, recurses := true, apart := false, narrowed := true }
def RingRoundsUptoSaid : Prop := ringRoundsUptoRow.holds Tryz.pinned (OpenSpec.upto ringRoundsSpec)

end Rows
end Go.Proofs.YtboamjhlaehoaaaGreat
